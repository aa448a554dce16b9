import Derived.Test.YtfpmacnbfbcjgaaTG
import Derived.Test.YtfpmacnbfbcjgaaCD
import Derived.Test.YtfpmacnbfbcjgaaTO
namespace Go.Proofs.Ytfpmacnbfbcjgaa
open Go.ChangeShapes Go.WideShapes Go.ChangeAt Go.RowKit
open Go.Pr
theorem belN {w w1 w2 : World} (h : Below w.heap.size w w1) (h2 : Below w1.heap.size w1 w2) : Below w.heap.size w w2 := by
  have hz := h.size
  exact ⟨h2.os.trans h.os, h2.tape.trans h.tape, h2.output.trans h.output, Nat.le_trans h.size h2.size, fun k hk => (h2.block k (by omega)).trans (h.block k hk)⟩
/-- what a formula that may be has -/
theorem ck_has {vars : Int} {cs : List (List Int)} (h : (Go.Cn.ck vars cs).2 = 0) : ∃ n : Nat, vars = (n : Int) ∧ n ≤ 1048576 ∧ cs.length ≤ 1048576 ∧ (∀ d ∈ cs, d.length ≤ 65536 ∧ ∀ x ∈ d, hasB n x = true) ∧ (cs.map List.length).sum ≤ 4194304 := by
  obtain ⟨h1, h2, h3, h4, h5⟩ := Go.Cn.ck_zero h
  refine ⟨vars.toNat, by omega, by omega, h3, fun d hd => ⟨(h4 d hd).1, fun x hx => ?_⟩, h5⟩
  have h6 := (h4 d hd).2 x hx
  rw [show vars = ((vars.toNat : Nat) : Int) by omega, am_has (by omega)] at h6
  exact h6
set_option maxHeartbeats 4000000 in
theorem follows_ok (vars : Int) (ad aC : Option Addr) (cs : List (List Int)) (c : List Int) (cA cC : Nat) (w : World) (h : Cls w ad cs) (hc : Ints w aC c) (hl : cs.length ≤ 1048576) (hcl : ∀ j, j < cs.length → (cs.getD j []).length ≤ 1048576) (hxl : c.length ≤ 1048576) :
    Calls Try.prog 5 #[.agg #[.int .i64 vars, .slice ad cs.length cA], .slice aC c.length cC] w fun e w' => ∃ b E, e = .returned (.tuple #[.bool b, .int .i64 E]) ∧ FOL vars cs c b E ∧ Below w.heap.size w w' := by
  generalize hPP : (fun (e : Ending) (w' : World) => ∃ b E, e = .returned (.tuple #[.bool b, .int .i64 E]) ∧ FOL vars cs c b E ∧ Below w.heap.size w w') = PP
  have HPP : Hid (∀ b E w', FOL vars cs c b E → Below w.heap.size w w' → PP (.returned (.tuple #[.bool b, .int .i64 E])) w') := fun b E w' h1 h2 => by rw [← hPP]; exact ⟨b, E, rfl, h1, h2⟩
  clear hPP
  have HB0 : Hid (∀ o, Below w.heap.size w (w.alloc o)) := fun o => (Below.refl _ _).alloc (Nat.le_refl _) o
  have HCK : Hid (∀ W : World, Below w.heap.size w W → Calls Try.prog 9 #[.agg #[.int .i64 vars, .slice ad cs.length cA]] W fun e w' => e = .returned (.tuple #[.int .i64 (Go.Cn.ck vars cs).1, .int .i64 (Go.Cn.ck vars cs).2]) ∧ Below W.heap.size W w') := fun W hW => check_any vars ad cs cA W (h.below hW) (by omega) (fun j hj => by have := hcl j hj; omega)
  have HBX : Hid (∀ W : World, Below (w.alloc (.cells #[.int .i64 vars, .slice ad cs.length cA] 24)).heap.size (w.alloc (.cells #[.int .i64 vars, .slice ad cs.length cA] 24)) W → W.cell? ⟨w.heap.size, 0, none⟩ = some (.int .i64 vars) ∧ W.cell? ⟨w.heap.size, 1, none⟩ = some (.slice ad cs.length cA) ∧ Below w.heap.size w W) := fun W hb => ⟨(hb.cell (p := ⟨w.heap.size, 0, none⟩) (by simp)).trans (blk_cell (heap_alloc_new w (.cells #[.int .i64 vars, .slice ad cs.length cA] 24)) 0), (hb.cell (p := ⟨w.heap.size, 1, none⟩) (by simp)).trans (blk_cell (heap_alloc_new w (.cells #[.int .i64 vars, .slice ad cs.length cA] 24)) 1), belN (HB0.out _) hb⟩
  by_cases h0 : (Go.Cn.ck vars cs).2 = 0
  · obtain ⟨n, rfl, hn, _, hcc, hsum⟩ := ck_has h0
    have HLI : Hid (∀ W : World, Below w.heap.size w W → Calls Try.prog 10 #[.slice aC c.length cC, .int .i64 (n : Int)] W fun e w' => e = .returned (.bool (c.all (hasB n))) ∧ w' = W) := fun W hW => literals_any aC c cC n W (hc.below hW) (by omega) hn
    have HFO : Hid (∀ b E, (c.all (hasB n) = false → b = false ∧ E = 20) → (c.all (hasB n) = true → E = 0 ∧ CLS cs c b) → ∀ w', Below w.heap.size w w' → PP (.returned (.tuple #[.bool b, .int .i64 E])) w') := fun b E h1 h2 w' h3 => HPP.out b E w' ⟨fun h5 => absurd h0 h5, fun _ => ⟨h1, h2⟩⟩ h3
    have HEN : Hid (∀ W : World, Below w.heap.size w W → Calls Try.prog 12 #[.agg #[.int .i64 (n : Int), .slice ad cs.length cA]] W fun e w' => ∃ g, e = .returned (.pointer (some ⟨g, 0, none⟩)) ∧ ENW W n cs g w') := fun W hW => engineOf_ok n ad cs cA W (h.below hW) hn hl hcc hsum
    have HCL : Hid (c.all (hasB n) = true → ∀ (W W2 : World) (g : Nat), Below w.heap.size w W → ENW W n cs g W2 → Calls Try.prog 11 #[.pointer (some ⟨g, 0, none⟩), .slice aC c.length cC] W2 fun e w' => ∃ b, e = .returned (.bool b) ∧ PP (.returned (.tuple #[.bool b, .int .i64 0])) w') := fun ha W W2 g hW hE => by
      obtain ⟨O, h1, h2, h3, h4⟩ := hE.opw
      have hz := hW.size
      have hrd : RdI W2 O aC c := fun hp => by
        obtain ⟨b, o, e, hlt, hcel⟩ := (hc.below hW) hp
        exact ⟨b, o, e, fun h5 => by have := h3 b h5; omega, Nat.lt_of_lt_of_le hlt h4.size, fun j hj => (h4.cell (p := ⟨b, o + j, none⟩) hlt).trans (hcel j hj)⟩
      refine (clashes_mem h1 hrd hxl (List.all_eq_true.1 ha) h2).mono fun e w' hh => ?_
      obtain ⟨b, he, hcls, O', hf⟩ := hh
      refine ⟨b, he, HFO.out b 0 (fun h5 => by rw [ha] at h5; cases h5) (fun _ => ⟨rfl, hcls⟩) w' ?_⟩
      have hB : Below w.heap.size w W2 := belN hW h4
      have hz2 := hB.size
      exact ⟨hf.os.trans hB.os, hf.tape.trans hB.tape, hf.output.trans hB.output, Nat.le_trans hB.size hf.size, fun k hk => (hf.kept k (by omega) (fun h5 => by have := h3 k h5; omega)).trans (hB.block k hk)⟩
    rw [h0] at HCK
    clear h hc hcl h0 hcc hsum
    generalize (Go.Cn.ck (n : Int) cs).1 = c1 at *
    generalize hq : cs.length = q at *
    generalize c.length = q2 at *
    cases ha : c.all (hasB n) with
    | false =>
      rw [ha] at HLI
      have HFI : Hid (∀ w', Below w.heap.size w w' → PP (.returned (.tuple #[.bool false, .int .i64 20])) w') := fun w' hb => HFO.out false 20 (fun _ => ⟨rfl, rfl⟩) (fun h5 => by rw [ha] at h5; cases h5) w' hb
      clear ha hq
      go_enter Try.func5, Try.ntmps5
      go_wp2_with fail
      refine (HCK.out _ (HB0.out _)).mono ?_
      rintro e w1 ⟨rfl, hb1⟩
      obtain ⟨x0, x1, hb2⟩ := HBX.out w1 hb1
      have HB2 : Hid (Below w.heap.size w w1) := hb2
      clear hb1 hb2
      go_wp2_with fail
      refine (HLI.out w1 HB2.out).mono ?_
      rintro e w2 ⟨rfl, hw2⟩
      rw [hw2]
      have HF := HFI.out w1 HB2.out
      have HF2 : Hid (PP (.returned (.tuple #[.bool false, .int .i64 20])) w1) := HF
      clear HF hw2
      go_wp2
      first | exact HF2.out | (go_ret; exact HF2.out) | (go_ret2; exact HF2.out)
    | true =>
      rw [ha] at HLI
      have HCL2 := HCL.out ha
      have HCL3 : Hid (∀ (W W2 : World) (g : Nat), Below w.heap.size w W → ENW W n cs g W2 → Calls Try.prog 11 #[.pointer (some ⟨g, 0, none⟩), .slice aC q2 cC] W2 fun e w' => ∃ b, e = .returned (.bool b) ∧ PP (.returned (.tuple #[.bool b, .int .i64 0])) w') := HCL2
      clear ha hq HCL2 HCL
      go_enter Try.func5, Try.ntmps5
      go_wp2_with fail
      refine (HCK.out _ (HB0.out _)).mono ?_
      rintro e w1 ⟨rfl, hb1⟩
      obtain ⟨x0, x1, hb2⟩ := HBX.out w1 hb1
      have HB2 : Hid (Below w.heap.size w w1) := hb2
      clear hb1 hb2
      go_wp2_with fail
      refine (HLI.out w1 HB2.out).mono ?_
      rintro e w2 ⟨rfl, hw2⟩
      rw [hw2]
      clear hw2
      go_wp2_with fail
      refine (HEN.out w1 HB2.out).mono ?_
      rintro e w3 ⟨g, rfl, hs⟩
      have HS : Hid (ENW w1 n cs g w3) := hs
      clear hs
      go_wp2_with fail
      refine (HCL3.out w1 w3 g HB2.out HS.out).mono ?_
      rintro e w4 ⟨b, rfl, hs⟩
      have HF2 : Hid (PP (.returned (.tuple #[.bool b, .int .i64 0])) w4) := hs
      clear hs
      go_wp2
      first | exact HF2.out | (go_ret; exact HF2.out) | (go_ret2; exact HF2.out)
  · have HFI : Hid (∀ w', Below w.heap.size w w' → PP (.returned (.tuple #[.bool false, .int .i64 (Go.Cn.ck vars cs).2])) w') := fun w' hb => HPP.out _ _ w' ⟨fun _ => ⟨rfl, rfl⟩, fun h5 => absurd h5 h0⟩ hb
    have hne : ((Go.Cn.ck vars cs).2 == 0) = false := by simp; exact h0
    clear h hc hcl h0
    generalize (Go.Cn.ck vars cs).1 = c1 at *
    generalize (Go.Cn.ck vars cs).2 = c2 at *
    generalize cs.length = q at *
    generalize c.length = q2 at *
    go_enter Try.func5, Try.ntmps5
    go_wp2_with fail
    refine (HCK.out _ (HB0.out _)).mono ?_
    rintro e w1 ⟨rfl, hb1⟩
    obtain ⟨x0, x1, hb2⟩ := HBX.out w1 hb1
    have HF2 : Hid (PP (.returned (.tuple #[.bool false, .int .i64 c2])) w1) := HFI.out w1 hb2
    clear hb1 hb2
    go_wp2
    first | exact HF2.out | (go_ret; exact HF2.out) | (go_ret2; exact HF2.out)
theorem Cls.frow {w : World} {ad : Option Addr} {cs : List (List Int)} (h : Cls w ad cs) : FRow w (fun k => k < w.heap.size) ad cs := fun i hi => by
  obtain ⟨b, off, e, hlt, hc⟩ := h (by omega)
  obtain ⟨aj, cj, h1, h2⟩ := hc i hi
  refine ⟨b, off, aj, cj, e, hlt, h1, fun hp => ?_⟩
  obtain ⟨b2, o2, e2, hlt2, hc2⟩ := h2 hp
  exact ⟨b2, o2, e2, hlt2, hc2⟩
theorem Ints.crow {w : World} {ad : Option Addr} {c : List Int} (h : Ints w ad c) : CRow w (fun k => k < w.heap.size) ad c := fun hp => by
  obtain ⟨b, o, e, hlt, hc⟩ := h hp
  exact ⟨b, o, e, hlt, hc⟩
set_option maxHeartbeats 4000000 in
theorem rfollows_ok (vars : Int) (ad aC : Option Addr) (cs : List (List Int)) (c : List Int) (cA cC : Nat) (w : World) (h : Cls w ad cs) (hc : Ints w aC c) (hl : cs.length ≤ 1048576) (hcl : ∀ j, j < cs.length → (cs.getD j []).length ≤ 1048576) (hxl : c.length ≤ 1048576) :
    Calls Try.prog 6 #[.agg #[.int .i64 vars, .slice ad cs.length cA], .slice aC c.length cC] w fun e w' => ∃ b E, e = .returned (.tuple #[.bool b, .int .i64 E]) ∧ RFOL vars cs c b E ∧ Below w.heap.size w w' := by
  generalize hPP : (fun (e : Ending) (w' : World) => ∃ b E, e = .returned (.tuple #[.bool b, .int .i64 E]) ∧ RFOL vars cs c b E ∧ Below w.heap.size w w') = PP
  have HPP : Hid (∀ b E w', RFOL vars cs c b E → Below w.heap.size w w' → PP (.returned (.tuple #[.bool b, .int .i64 E])) w') := fun b E w' h1 h2 => by rw [← hPP]; exact ⟨b, E, rfl, h1, h2⟩
  clear hPP
  have HB0 : Hid (∀ o, Below w.heap.size w (w.alloc o)) := fun o => (Below.refl _ _).alloc (Nat.le_refl _) o
  have HCK : Hid (∀ W : World, Below w.heap.size w W → Calls Try.prog 13 #[.agg #[.int .i64 vars, .slice ad cs.length cA]] W fun e w' => e = .returned (.tuple #[.int .i64 (Go.Cn.ck vars cs).1, .int .i64 (Go.Cn.ck vars cs).2]) ∧ Below W.heap.size W w') := fun W hW => rcheck_any vars ad cs cA W (h.below hW) (by omega) (fun j hj => by have := hcl j hj; omega)
  have HBX : Hid (∀ W : World, Below (w.alloc (.cells #[.int .i64 vars, .slice ad cs.length cA] 24)).heap.size (w.alloc (.cells #[.int .i64 vars, .slice ad cs.length cA] 24)) W → W.cell? ⟨w.heap.size, 0, none⟩ = some (.int .i64 vars) ∧ W.cell? ⟨w.heap.size, 1, none⟩ = some (.slice ad cs.length cA) ∧ Below w.heap.size w W) := fun W hb => ⟨(hb.cell (p := ⟨w.heap.size, 0, none⟩) (by simp)).trans (blk_cell (heap_alloc_new w (.cells #[.int .i64 vars, .slice ad cs.length cA] 24)) 0), (hb.cell (p := ⟨w.heap.size, 1, none⟩) (by simp)).trans (blk_cell (heap_alloc_new w (.cells #[.int .i64 vars, .slice ad cs.length cA] 24)) 1), belN (HB0.out _) hb⟩
  by_cases h0 : (Go.Cn.ck vars cs).2 = 0
  · obtain ⟨n, rfl, hn, _, hcc, hsum⟩ := ck_has h0
    have HLI : Hid (∀ W : World, Below w.heap.size w W → Calls Try.prog 14 #[.slice aC c.length cC, .int .i64 (n : Int)] W fun e w' => e = .returned (.bool (c.all (hasB n))) ∧ w' = W) := fun W hW => may_any aC c cC n W (hc.below hW) (by omega) hn
    have HFO : Hid (∀ b E, (c.all (hasB n) = false → b = false ∧ E = 20) → (c.all (hasB n) = true → E = 0 ∧ ∃ bU, b = !bU ∧ UNT cs c bU) → ∀ w', Below w.heap.size w w' → PP (.returned (.tuple #[.bool b, .int .i64 E])) w') := fun b E h1 h2 w' h3 => HPP.out b E w' ⟨fun h5 => absurd h0 h5, fun _ => ⟨h1, h2⟩⟩ h3
    have HUN : Hid (c.all (hasB n) = true → ∀ W : World, Below w.heap.size w W → Calls Try.prog 15 #[.int .i64 (n : Int), .slice ad cs.length cA, .slice aC c.length cC] W fun e w' => ∃ b, e = .returned (.bool b) ∧ PP (.returned (.tuple #[.bool b, .int .i64 0])) w') := fun ha W hW => by
      refine (units_ok (Z := fun k => k < W.heap.size) hn (fun k hk => hk) (h.below hW).frow (hc.below hW).crow hl (by omega) hcc (List.all_eq_true.1 ha)).mono fun e w' hh => ?_
      obtain ⟨bU, he, hu, hb⟩ := hh
      exact ⟨_, he, HFO.out _ 0 (fun h5 => by rw [ha] at h5; cases h5) (fun _ => ⟨rfl, bU, rfl, hu⟩) w' (belN hW hb)⟩
    rw [h0] at HCK
    clear h hc hcl h0 hcc hsum
    generalize (Go.Cn.ck (n : Int) cs).1 = c1 at *
    generalize hq : cs.length = q at *
    generalize c.length = q2 at *
    cases ha : c.all (hasB n) with
    | false =>
      rw [ha] at HLI
      have HFI : Hid (∀ w', Below w.heap.size w w' → PP (.returned (.tuple #[.bool false, .int .i64 20])) w') := fun w' hb => HFO.out false 20 (fun _ => ⟨rfl, rfl⟩) (fun h5 => by rw [ha] at h5; cases h5) w' hb
      clear ha hq
      go_enter Try.func6, Try.ntmps6
      go_wp2_with fail
      refine (HCK.out _ (HB0.out _)).mono ?_
      rintro e w1 ⟨rfl, hb1⟩
      obtain ⟨x0, x1, hb2⟩ := HBX.out w1 hb1
      have HB2 : Hid (Below w.heap.size w w1) := hb2
      clear hb1 hb2
      go_wp2_with fail
      refine (HLI.out w1 HB2.out).mono ?_
      rintro e w2 ⟨rfl, hw2⟩
      rw [hw2]
      have HF := HFI.out w1 HB2.out
      have HF2 : Hid (PP (.returned (.tuple #[.bool false, .int .i64 20])) w1) := HF
      clear HF hw2
      go_wp2
      first | exact HF2.out | (go_ret; exact HF2.out) | (go_ret2; exact HF2.out)
    | true =>
      rw [ha] at HLI
      have HUN2 := HUN.out ha
      have HUN3 : Hid (∀ W : World, Below w.heap.size w W → Calls Try.prog 15 #[.int .i64 (n : Int), .slice ad q cA, .slice aC q2 cC] W fun e w' => ∃ b, e = .returned (.bool b) ∧ PP (.returned (.tuple #[.bool b, .int .i64 0])) w') := HUN2
      clear ha hq HUN2 HUN
      go_enter Try.func6, Try.ntmps6
      go_wp2_with fail
      refine (HCK.out _ (HB0.out _)).mono ?_
      rintro e w1 ⟨rfl, hb1⟩
      obtain ⟨x0, x1, hb2⟩ := HBX.out w1 hb1
      have HB2 : Hid (Below w.heap.size w w1) := hb2
      clear hb1 hb2
      go_wp2_with fail
      refine (HLI.out w1 HB2.out).mono ?_
      rintro e w2 ⟨rfl, hw2⟩
      rw [hw2]
      clear hw2
      go_wp2_with fail
      refine (HUN3.out w1 HB2.out).mono ?_
      rintro e w4 ⟨b, rfl, hs⟩
      have HF2 : Hid (PP (.returned (.tuple #[.bool b, .int .i64 0])) w4) := hs
      clear hs
      go_wp2
      first | exact HF2.out | (go_ret; exact HF2.out) | (go_ret2; exact HF2.out)
  · have HFI : Hid (∀ w', Below w.heap.size w w' → PP (.returned (.tuple #[.bool false, .int .i64 (Go.Cn.ck vars cs).2])) w') := fun w' hb => HPP.out _ _ w' ⟨fun _ => ⟨rfl, rfl⟩, fun h5 => absurd h5 h0⟩ hb
    have hne : ((Go.Cn.ck vars cs).2 == 0) = false := by simp; exact h0
    clear h hc hcl h0
    generalize (Go.Cn.ck vars cs).1 = c1 at *
    generalize (Go.Cn.ck vars cs).2 = c2 at *
    generalize cs.length = q at *
    generalize c.length = q2 at *
    go_enter Try.func6, Try.ntmps6
    go_wp2_with fail
    refine (HCK.out _ (HB0.out _)).mono ?_
    rintro e w1 ⟨rfl, hb1⟩
    obtain ⟨x0, x1, hb2⟩ := HBX.out w1 hb1
    have HF2 : Hid (PP (.returned (.tuple #[.bool false, .int .i64 c2])) w1) := HFI.out w1 hb2
    clear hb1 hb2
    go_wp2
    first | exact HF2.out | (go_ret; exact HF2.out) | (go_ret2; exact HF2.out)
end Go.Proofs.Ytfpmacnbfbcjgaa
