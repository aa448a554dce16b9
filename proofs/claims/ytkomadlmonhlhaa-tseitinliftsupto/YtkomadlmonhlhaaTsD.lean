import Derived.Test.YtkomadlmonhlhaaTsC
namespace Go.Proofs.Ytkomadlmonhlhaa
open Go.ChangeShapes Go.WideShapes Go.ChangeAt Go.RowKit Go.Lib Go.Ag Go.WideMaps Go.Maps Go.ChangeMaps Go.Cn

set_option maxHeartbeats 2000000 in
theorem spot_any (l : Int) (h0 : l ≠ 0) (h1 : -1000000000000 ≤ l) (h2 : l ≤ 1000000000000) (w : World) :
    Calls Try.prog 80 #[.int .i64 l] w fun e w' => e = .returned (.tuple #[.int .i64 ((plc l / 64 : Nat) : Int), .int .u64 ((2 ^ (plc l % 64) : Nat) : Int)]) ∧ ∃ d, w' = w.drewN d := by
  have HP : Hid (plc l = if l < 0 then (-2 * l - 1).toNat else (2 * l - 2).toNat) := rfl
  generalize plc l = p at *
  obtain ⟨q, hq⟩ : ∃ q, p / 64 = q := ⟨_, rfl⟩
  obtain ⟨r, hr⟩ : ∃ r, p % 64 = r := ⟨_, rfl⟩
  have hrl : r < 64 := by omega
  rw [hq, hr]
  have hsh : IntKind.u64.wrap ((2 : Int) ^ r) = ((2 ^ r : Nat) : Int) := by
    have e1 : ((2 : Int) ^ r) = ((2 ^ r : Nat) : Int) := by simp
    have : 2 ^ r < 18446744073709551616 := Nat.lt_of_lt_of_le (Nat.pow_lt_pow_right (by decide) hrl) (by decide)
    rw [e1, IntKind.wrap_u64]
    generalize 2 ^ r = P2 at *
    omega
  by_cases hn : l < 0
  · rw [if_pos hn] at HP
    have hp : (p : Int) = -2 * l - 1 := by have := HP.out; omega
    have e1 : Int.tdiv (-2 * l - 1) 64 = (q : Int) := by rw [← hp, Int.tdiv_eq_ediv_of_nonneg (by omega)]; omega
    have e2 : Int.tmod (-2 * l - 1) 64 = (r : Int) := by rw [← hp, Int.tmod_eq_emod_of_nonneg (by omega)]; omega
    have hqb : q ≤ 100000000000 := by omega
    generalize 2 ^ r = P2 at *
    clear hp HP hq hr
    go_enter Try.func80, Try.ntmps80
    go_wp2_with fail
    go_quiet (fail)
    go_wp2_with fail
    first | exact ⟨rfl, _, rfl⟩ | (go_ret2; exact ⟨rfl, _, rfl⟩)
  · rw [if_neg hn] at HP
    have hp : (p : Int) = 2 * l - 2 := by have := HP.out; omega
    have e1 : Int.tdiv (2 * l - 2) 64 = (q : Int) := by rw [← hp, Int.tdiv_eq_ediv_of_nonneg (by omega)]; omega
    have e2 : Int.tmod (2 * l - 2) 64 = (r : Int) := by rw [← hp, Int.tmod_eq_emod_of_nonneg (by omega)]; omega
    have hqb : q ≤ 100000000000 := by omega
    generalize 2 ^ r = P2 at *
    clear hp HP hq hr
    go_enter Try.func80, Try.ntmps80
    go_wp2_with fail
    go_quiet (fail)
    go_wp2_with fail
    first | exact ⟨rfl, _, rfl⟩ | (go_ret2; exact ⟨rfl, _, rfl⟩)
/-- marks in memory -/
structure MR (w : World) (Mb nw : Nat) (f : Nat → Nat) : Prop where
  blk : ∃ A, w.heap[Mb]? = some (.cells A 120 (0, 0)) ∧ A.size = nw ∧ ∀ i, i < nw → A[i]? = some (.int .u64 (f i : Int))
  lt : ∀ i, f i < 18446744073709551616
theorem MR.inb {w : World} {Mb nw : Nat} {f : Nat → Nat} (h : MR w Mb nw f) : Mb < w.heap.size := by
  obtain ⟨A, hA, _⟩ := h.blk
  exact (Array.getElem?_eq_some_iff.1 hA).1
theorem MR.cell {w : World} {Mb nw : Nat} {f : Nat → Nat} (h : MR w Mb nw f) {i : Nat} (hi : i < nw) : w.cell? ⟨Mb, i, none⟩ = some (.int .u64 (f i : Int)) := by
  obtain ⟨A, hA, hs, hc⟩ := h.blk
  rw [ag_cell hA]
  exact hc i hi
theorem MR.fz {w : World} {Mb nw : Nat} {f : Nat → Nat} (h : MR w Mb nw f) (i : Nat) : w.frozen? ⟨Mb, i, none⟩ = false := by
  obtain ⟨A, hA, hs, hc⟩ := h.blk
  exact ag_fz hA i
theorem MR.keep {w w' : World} {Mb nw : Nat} {f : Nat → Nat} (h : MR w Mb nw f) (hb : w'.heap[Mb]? = w.heap[Mb]?) : MR w' Mb nw f := by
  obtain ⟨A, hA, h2⟩ := h.blk
  exact ⟨⟨A, hb.trans hA, h2⟩, h.lt⟩
theorem MR.set {w : World} {Mb nw : Nat} {f : Nat → Nat} (h : MR w Mb nw f) (i v : Nat) (hv : v < 18446744073709551616) : MR (w.setCell ⟨Mb, i, none⟩ (.int .u64 (v : Int))) Mb nw (updN f i v) := by
  obtain ⟨A, hA, hs, hc⟩ := h.blk
  refine ⟨⟨A.setIfInBounds i (.int .u64 (v : Int)), heap_setCell_same _ Mb i _ _ _ hA, by simpa using hs, fun j hj => ?_⟩, fun j => ?_⟩
  · rw [Array.getElem?_setIfInBounds]
    unfold updN
    by_cases e : i = j
    · subst e
      rw [if_pos rfl, if_pos (by omega), if_pos rfl]
    · rw [if_neg e, if_neg (fun e2 => e e2.symm)]
      exact hc j hj
  · unfold updN
    split
    · exact hv
    · exact h.lt j
/-- all blocks but one stand -/
structure OB (w : World) (Mb : Nat) (w' : World) : Prop where
  os : w'.os = w.os
  tape : w'.tape = w.tape
  output : w'.output = w.output
  size : w.heap.size ≤ w'.heap.size
  kp : ∀ j, j < w.heap.size → j ≠ Mb → w'.heap[j]? = w.heap[j]?
theorem OB.refl (w : World) (Mb : Nat) : OB w Mb w := ⟨rfl, rfl, rfl, Nat.le_refl _, fun _ _ _ => rfl⟩
theorem OB.trans {w w1 w2 : World} {Mb : Nat} (h : OB w Mb w1) (h2 : OB w1 Mb w2) : OB w Mb w2 :=
  ⟨h2.os.trans h.os, h2.tape.trans h.tape, h2.output.trans h.output, Nat.le_trans h.size h2.size, fun j hj hn => (h2.kp j (Nat.lt_of_lt_of_le hj h.size) hn).trans (h.kp j hj hn)⟩
theorem OB.set (w : World) (Mb i : Nat) (v : Value) : OB w Mb (w.setCell ⟨Mb, i, none⟩ v) := ⟨rfl, rfl, rfl, by simp, fun j _ hn => heap_setCell_other _ _ _ _ hn⟩
theorem OB.of_below {w w' : World} {Mb : Nat} (h : Below w.heap.size w w') : OB w Mb w' := ⟨h.os, h.tape, h.output, h.size, fun j hj _ => h.block j hj⟩
theorem OB.below {w w1 : World} {Mb B : Nat} {w0 : World} (hb : Below B w0 w) (hB : B ≤ w.heap.size) (h : OB w Mb w1) (hM : B ≤ Mb) : Below B w0 w1 :=
  ⟨h.os.trans hb.os, h.tape.trans hb.tape, h.output.trans hb.output, Nat.le_trans hb.size h.size, fun j hj => (h.kp j (Nat.lt_of_lt_of_le hj hB) (fun e => by omega)).trans (hb.block j hj)⟩
theorem pow_lt64 (p : Nat) : 2 ^ (p % 64) < 18446744073709551616 := Nat.lt_of_lt_of_le (Nat.pow_lt_pow_right (by decide) (Nat.mod_lt p (by decide))) (by decide)
set_option maxHeartbeats 2000000 in
theorem has_any (w : World) {Mb nw : Nat} {f : Nat → Nat} (h : MR w Mb nw f) (cp m : Nat) (hw : 2 * m ≤ nw * 64) (hm : m ≤ 1000000000) (l : Int) (h0 : l ≠ 0) (h1 : -(m : Int) ≤ l) (h2 : l ≤ m) :
    Calls Try.prog 64 #[.slice (some ⟨Mb, 0, none⟩) nw cp, .int .i64 l] w fun e w' => e = .returned (.bool (hasM f l)) ∧ ∃ d, w' = w.drewN d := by
  have hp := plc_lt h0 h1 h2
  have HS : Hid (Calls Try.prog 80 #[.int .i64 l] w fun e w' => e = .returned (.tuple #[.int .i64 ((plc l / 64 : Nat) : Int), .int .u64 ((2 ^ (plc l % 64) : Nat) : Int)]) ∧ ∃ d, w' = w.drewN d) := spot_any l h0 (by omega) (by omega) w
  have hc := h.cell (i := plc l / 64) (by omega)
  have hand := and_u64 (f (plc l / 64)) (2 ^ (plc l % 64)) (h.lt _) (pow_lt64 _)
  have HF : Hid (hasM f l = (f (plc l / 64)).testBit (plc l % 64)) := rfl
  have hpw := and_pow (f (plc l / 64)) (plc l % 64)
  rw [hpw] at hand
  have hpos : 0 < 2 ^ (plc l % 64) := Nat.pow_pos (by decide)
  have hq : plc l / 64 < nw := by omega
  clear h hpw
  generalize hasM f l = HM at *
  generalize plc l % 64 = r at *
  generalize plc l / 64 = q at *
  generalize f q = F at *
  generalize 2 ^ r = P2 at *
  cases hb : F.testBit r with
  | true =>
    rw [hb] at HF hand
    rw [if_pos rfl] at hand
    have q5 : ((P2 : Int) != 0) = true := by simp; omega
    go_enter Try.func64, Try.ntmps64
    go_wp2_with fail
    refine HS.out.mono ?_
    rintro e w1 ⟨rfl, d, hw1⟩; subst w1
    have hc : (w.drewN d).cell? ⟨Mb, q, none⟩ = some (.int .u64 (F : Int)) := hc
    have HW2 : Hid (∃ d', w.drewN d = w.drewN d') := ⟨d, rfl⟩
    generalize hW2 : w.drewN d = W2 at *
    go_wp2_with fail
    first | exact ⟨by rw [HF.out, ← q5], HW2.out⟩ | (go_ret; exact ⟨by rw [HF.out, ← q5]; rfl, HW2.out⟩)
  | false =>
    rw [hb] at HF hand
    rw [if_neg (by decide)] at hand
    go_enter Try.func64, Try.ntmps64
    go_wp2_with fail
    refine HS.out.mono ?_
    rintro e w1 ⟨rfl, d, hw1⟩; subst w1
    have hc : (w.drewN d).cell? ⟨Mb, q, none⟩ = some (.int .u64 (F : Int)) := hc
    have HW2 : Hid (∃ d', w.drewN d = w.drewN d') := ⟨d, rfl⟩
    generalize hW2 : w.drewN d = W2 at *
    go_wp2_with fail
    first | exact ⟨by rw [HF.out], HW2.out⟩ | (go_ret; exact ⟨by rw [HF.out]; rfl, HW2.out⟩)
set_option maxHeartbeats 2000000 in
theorem add_mark (w : World) {Mb nw : Nat} {f : Nat → Nat} (h : MR w Mb nw f) (cp m : Nat) (hw : 2 * m ≤ nw * 64) (hm : m ≤ 1000000000) (l : Int) (h0 : l ≠ 0) (h1 : -(m : Int) ≤ l) (h2 : l ≤ m) :
    Calls Try.prog 62 #[.slice (some ⟨Mb, 0, none⟩) nw cp, .int .i64 l] w fun e w' => (∃ v, e = .returned v) ∧ MR w' Mb nw (addM f l) ∧ OB w Mb w' := by
  have hp := plc_lt h0 h1 h2
  have HS : Hid (Calls Try.prog 80 #[.int .i64 l] w fun e w' => e = .returned (.tuple #[.int .i64 ((plc l / 64 : Nat) : Int), .int .u64 ((2 ^ (plc l % 64) : Nat) : Int)]) ∧ ∃ d, w' = w.drewN d) := spot_any l h0 (by omega) (by omega) w
  have hc := h.cell (i := plc l / 64) (by omega)
  have hf := h.fz (plc l / 64)
  have hor := or_u64 (f (plc l / 64)) (2 ^ (plc l % 64)) (h.lt _) (pow_lt64 _)
  have hlt : f (plc l / 64) ||| 2 ^ (plc l % 64) < 18446744073709551616 := Nat.or_lt_two_pow (n := 64) (h.lt _) (pow_lt64 _)
  have HR : Hid (MR (w.setCell ⟨Mb, plc l / 64, none⟩ (.int .u64 ((f (plc l / 64) ||| 2 ^ (plc l % 64) : Nat) : Int))) Mb nw (addM f l)) := h.set _ _ hlt
  have hq : plc l / 64 < nw := by omega
  clear h
  generalize addM f l = AM at *
  generalize f (plc l / 64) ||| 2 ^ (plc l % 64) = ORV at *
  generalize f (plc l / 64) = F at *
  generalize plc l % 64 = r at *
  generalize plc l / 64 = q at *
  generalize 2 ^ r = P2 at *
  go_enter Try.func62, Try.ntmps62
  go_wp2_with fail
  refine HS.out.mono ?_
  rintro e w1 ⟨rfl, d, hw1⟩; subst w1
  have hc : (w.drewN d).cell? ⟨Mb, q, none⟩ = some (.int .u64 (F : Int)) := hc
  have hf : (w.drewN d).frozen? ⟨Mb, q, none⟩ = false := hf
  have HR2 : Hid (MR ((w.drewN d).setCell ⟨Mb, q, none⟩ (.int .u64 (ORV : Int))) Mb nw AM ∧ OB w Mb ((w.drewN d).setCell ⟨Mb, q, none⟩ (.int .u64 (ORV : Int)))) := ⟨⟨HR.out.blk, HR.out.lt⟩, OB.trans (OB.of_below (drw_bel w d)) (OB.set _ _ _ _)⟩
  clear HR
  generalize w.drewN d = W2 at *
  go_wp2_with fail
  first | exact ⟨⟨_, rfl⟩, HR2.out⟩ | (go_ret; exact ⟨⟨_, rfl⟩, HR2.out⟩) | (go_end0; exact ⟨⟨_, rfl⟩, HR2.out⟩)
end Go.Proofs.Ytkomadlmonhlhaa
