import Derived.Test.YtokpjegiinggdaaDoorRes
import Derived.Test.YtokpjegiinggdaaDoorMathZ
import Derived.Test.YtokpjegiinggdaaDoorTMap
namespace Go.Proofs.YtokpjegiinggdaaDoor
open Go.ChangeShapes Go.WideShapes Go.ChangeAt Go.RowKit Go.Cn

theorem Ints.grown {w w' : World} {ad : Option Addr} {xs : List Int} {m : Nat} (h : Ints w ad xs) (hg : w.grownBy w' (some m)) (hne : ∀ a, ad = some a → a.block ≠ m) : Ints w' ad xs := by
  intro h0
  obtain ⟨b, off, e, hlt, hc⟩ := h h0
  have hb : b ≠ m := hne ⟨b, off, none⟩ e
  refine ⟨b, off, e, Nat.lt_of_lt_of_le hlt hg.size, fun j hj => ?_⟩
  rw [World.cell?_of_block (w := w) (hg.block b hlt (fun e2 => hb (by cases e2; rfl)))]
  exact hc j hj
/-- marks by literals -/
def Mks (w : World) (m : Nat) (vars : Int) (f : Int → Bool) : Prop :=
  ∃ arr : Array Value, w.heap[m]? = some (.cells arr 4 (0, 0)) ∧ arr.size = 2 * vars.toNat + 2 ∧ ∀ l, amB vars l = true → arr[(rk l).toNat]? = some (.bool (f l))
theorem amB_rk {vars l : Int} (h : amB vars l = true) : litB l = true ∧ 2 ≤ rk l ∧ rk l ≤ 2 * vars + 1 := by
  unfold amB at h
  simp at h
  obtain ⟨h1, h2⟩ := h
  have h3 := litB_iff.1 h1
  refine ⟨h1, ?_⟩
  unfold vr at h2
  unfold rk
  split at h2 <;> split <;> omega
theorem Mks.set {w : World} {m : Nat} {vars : Int} {f : Int → Bool} (h : Mks w m vars f) {l : Int} (hl : amB vars l = true) (on : Bool) : Mks (w.setCell ⟨m, (rk l).toNat, none⟩ (.bool on)) m vars (fun x => if x = l then on else f x) := by
  obtain ⟨arr, h1, h2, h3⟩ := h
  refine ⟨arr.setIfInBounds (rk l).toNat (.bool on), heap_setCell_same _ _ _ _ _ _ h1, by simpa using h2, fun x hx => ?_⟩
  have hr := amB_rk hl
  have hrx := amB_rk hx
  rw [Array.getElem?_setIfInBounds]
  by_cases e : x = l
  · subst e
    rw [if_pos rfl, if_pos (by rw [h2]; omega)]
    simp
  · rw [if_neg (fun e2 => e (rk_inj (by omega))), h3 x hx]
    simp [e]
theorem Mks.grown {w w' : World} {m : Nat} {vars : Int} {f : Int → Bool} {b : Option Nat} (h : Mks w m vars f) (hg : w.grownBy w' b) (hne : b ≠ some m) : Mks w' m vars f := by
  obtain ⟨arr, h1, h2⟩ := h
  exact ⟨arr, by rw [hg.block m (Array.getElem?_eq_some_iff.1 h1).1 (fun e => hne e.symm)]; exact h1, h2⟩
theorem Mks.congr {w : World} {m : Nat} {vars : Int} {f g : Int → Bool} (h : Mks w m vars f) (hfg : ∀ x, f x = g x) : Mks w m vars g := by
  have : f = g := funext hfg
  rw [← this]
  exact h
theorem gb_trans {w w1 w2 : World} {b : Option Nat} (h : w.grownBy w1 b) (h2 : w1.grownBy w2 b) : w.grownBy w2 b :=
  ⟨h2.os.trans h.os, h2.tape.trans h.tape, h2.output.trans h.output, Nat.le_trans h.size h2.size, fun k hk hb => (h2.block k (Nat.lt_of_lt_of_le hk h.size) hb).trans (h.block k hk hb)⟩
theorem gb_refl (w : World) (b : Option Nat) : w.grownBy w b := ⟨rfl, rfl, rfl, Nat.le_refl _, fun _ _ _ => rfl⟩
theorem gb_drew {w w1 : World} {b : Option Nat} (h : w.grownBy w1 b) : w.grownBy w1.drew b := ⟨h.os, h.tape, h.output, h.size, h.block⟩
theorem take_if (C : List Int) (k : Nat) (h : k < C.length) (on : Bool) (f : Int → Bool) (x : Int) : (if x = C.getD k 0 then on else (if x ∈ C.take k then on else f x)) = (if x ∈ C.take (k + 1) then on else f x) := by
  rw [take_succ_getD C k h]
  by_cases e : x = C.getD k 0
  · rw [if_pos e, if_pos (by rw [e]; simp)]
  · rw [if_neg e]
    have : x ∈ C.take k ++ [C.getD k 0] ↔ x ∈ C.take k := by rw [List.mem_append, List.mem_singleton]; constructor; rintro (h | h); exact h; exact absurd h e; exact Or.inl
    by_cases h2 : x ∈ C.take k
    · rw [if_pos h2, if_pos (this.2 h2)]
    · rw [if_neg h2, if_neg (fun h3 => h2 (this.1 h3))]
set_option maxHeartbeats 2000000 in
theorem mark_any (m cap : Nat) (vars : Int) (ad : Option Addr) (C : List Int) (c n : Nat) (on : Bool) (f : Int → Bool) (w : World) (hM : Mks w m vars f) (hI : Ints w ad C) (hne : ∀ a, ad = some a → a.block ≠ m) (hC : ∀ x ∈ C, amB vars x = true) (hl : C.length ≤ 65536) (hn : (n : Int) = 2 * vars + 2) :
    Calls Tryd.prog 56 #[.slice (some ⟨m, 0, none⟩) n cap, .slice ad C.length c, .bool on] w fun e w' => e = .returned (.tuple #[]) ∧ Mks w' m vars (fun x => if x ∈ C then on else f x) ∧ w.grownBy w' (some m) := by
  have HI : Hid (∀ W, w.grownBy W (some m) → Ints W ad C) := fun W hW => hI.grown hW hne
  have HC : Hid (∀ x ∈ C, amB vars x = true) := hC
  have HM : Hid (Mks w m vars f) := hM
  have HF : Hid (∀ W, Mks W m vars (fun x => if x ∈ C.take C.length then on else f x) → Mks W m vars (fun x => if x ∈ C then on else f x)) := fun W hW => by rw [List.take_length] at hW; exact hW
  clear hI hne hC hM
  generalize hq : C.length = q at *
  have HL : Aside (C.length = q) := hq
  clear hq
  go_enter Tryd.func56, Tryd.ntmps56
  go_wp2
  go_loopg [10] q (fun gk i wr => ∃ k : Nat, i = .int .i64 k ∧ k + gk = q ∧ Aside (Mks wr m vars (fun x => if x ∈ C.take k then on else f x)) ∧ Aside (w.grownBy wr (some m)))
  case atStart => exact ⟨0, rfl, by omega, HM.out.congr (fun x => by simp), gb_refl _ _⟩
  case round =>
    obtain ⟨k, rfl, hk, H, HG⟩ := hrel
    by_cases hlt : k < q
    · obtain ⟨b, off, rfl, hb, hc⟩ := HI.out wr HG.out (by rw [HL.out]; omega)
      have ck := hc k (by rw [HL.out]; omega)
      have hy := HC.out (C.getD k 0) (getD_mem (by rw [HL.out]; exact hlt))
      have HS : Hid (∀ W, Mks W m vars (fun x => if x = C.getD k 0 then on else (if x ∈ C.take k then on else f x)) → Mks W m vars (fun x => if x ∈ C.take (k + 1) then on else f x)) := fun W hW => hW.congr (take_if C k (by rw [HL.out]; exact hlt) on f)
      have HT : Hid (Mks (wr.setCell ⟨m, (rk (C.getD k 0)).toNat, none⟩ (.bool on)) m vars (fun x => if x = C.getD k 0 then on else (if x ∈ C.take k then on else f x))) := H.out.set hy on
      have hr := amB_rk hy
      have q1 : (k : Int) < (q : Int) := by omega
      obtain ⟨arr, a1, a2, a3⟩ := H.out
      have a4 := a3 _ hy
      have y1 : wr.cell? ⟨m, (rk (C.getD k 0)).toNat, none⟩ = some (.bool (if C.getD k 0 ∈ C.take k then on else f (C.getD k 0))) := (blk_cell a1 _).trans a4
      have y2 : wr.frozen? ⟨m, (rk (C.getD k 0)).toNat, none⟩ = false := blk_frozen a1 _
      have HR : Hid (∀ W, Calls Tryd.prog 52 #[.int .i64 (C.getD k 0)] W fun e w' => e = .returned (.int .i64 (rk (C.getD k 0))) ∧ w' = W) := fun W => rank_any _ W hr.1
      clear hc a1 a2 a3 a4
      have r1 := hr.2.1
      have r2 := hr.2.2
      clear hr hy
      generalize (if C.getD k 0 ∈ C.take k then on else f (C.getD k 0)) = ob at *
      generalize hz : C.getD k 0 = z at *
      generalize hrk : rk z = r at *
      have q2 : r < (n : Int) := by omega
      have q3 : ¬ r < 0 := by omega
      go_wp2_with fail
      refine (HR.out _).mono ?_
      rintro e w' ⟨rfl, hw⟩
      obtain rfl := hw.symm
      go_wp2
      go_roundg (gk - 1)
      case measure => omega
      case rel => exact ⟨k + 1, by simp, by omega, HS.out _ HT.out, gb_trans HG.out (gb_set _ ⟨m, r.toNat, none⟩ _)⟩
    · obtain rfl : k = q := by omega
      go_wp2
      go_end0
      exact ⟨rfl, HF.out _ H.out, HG.out⟩
set_option maxHeartbeats 2000000 in
theorem work_any (ad bd : Option Addr) (xs ys : List (List Int)) (c d : Nat) (w : World) (h : Cls w bd ys) (hl : xs.length ≤ 1048576) (hl2 : ys.length ≤ 1048576) :
    Calls Tryd.prog 54 #[.slice ad xs.length c, .slice bd ys.length d] w fun e w' => (∃ z, e = .returned (.int .u64 z)) ∧ ∃ m, w' = w.drewN m := by
  have HI : Hid (Cls w bd ys) := h
  clear h
  generalize hq : ys.length = q at *
  generalize xs.length = p at *
  have HL : Aside (ys.length = q) := hq
  clear hq
  go_enter Tryd.func54, Tryd.ntmps54
  go_wp2
  go_loopg [10, 5] q (fun gk i s wr => ∃ (k m : Nat) (x : Int), i = .int .i64 k ∧ k + gk = q ∧ s = .int .i64 x ∧ wr = w.drewN m)
  case atStart => exact ⟨0, 0, 0, rfl, by omega, rfl, rfl⟩
  case round =>
    obtain ⟨k, m, x, rfl, hk, rfl, rfl⟩ := hrel
    by_cases hlt : k < q
    · obtain ⟨b, off, rfl, hb, hc⟩ := HI.out (by rw [HL.out]; omega)
      obtain ⟨aj, cj, ck1, hij⟩ := hc k (by rw [HL.out]; omega)
      have q1 : (k : Int) < (q : Int) := by omega
      generalize ys.getD k [] = Y at *
      go_wp2
      go_roundg (gk - 1)
      case measure => omega
      case rel => exact ⟨k + 1, m, _, by simp, by omega, rfl, rfl⟩
    · obtain rfl : k = q := by omega
      go_wp2
      go_ret
      exact ⟨⟨_, rfl⟩, m, rfl⟩
theorem join1_any (p1 p2 : Nat) (n0 i k n cap : Nat) (ad : Option Addr) (W : World) (c1 : W.cell? ⟨p1, 0, none⟩ = some (.int .i64 n0)) (c2 : W.cell? ⟨p2, 0, none⟩ = some (.slice ad n cap)) (h1 : n0 ≤ 1048576) (h2 : i * n + k ≤ 1048576) :
    Calls Tryd.prog 53 #[.int .i64 i, .int .i64 k, .pointer (some ⟨p1, 0, none⟩), .pointer (some ⟨p2, 0, none⟩)] W fun e w' => e = .returned (.int .i64 ((n0 + i * n + k : Nat) : Int)) ∧ w' = W := by
  go_enter Tryd.func53, Tryd.ntmps53
  go_wp2
  go_ret
  exact ⟨ret_int (by push_cast; rfl), rfl⟩
theorem join2_any (p1 p2 : Nat) (n0 i k n cap : Nat) (ad : Option Addr) (W : World) (c1 : W.cell? ⟨p1, 0, none⟩ = some (.int .i64 n0)) (c2 : W.cell? ⟨p2, 0, none⟩ = some (.slice ad n cap)) (h1 : n0 ≤ 1048576) (h2 : k * n + i ≤ 1048576) :
    Calls Tryd.prog 55 #[.int .i64 i, .int .i64 k, .pointer (some ⟨p1, 0, none⟩), .pointer (some ⟨p2, 0, none⟩)] W fun e w' => e = .returned (.int .i64 ((n0 + k * n + i : Nat) : Int)) ∧ w' = W := by
  go_enter Tryd.func55, Tryd.ntmps55
  go_wp2
  go_ret
  exact ⟨ret_int (by push_cast; rfl), rfl⟩
theorem join31_any (pb kb : Nat) (p1 p2 b o r : Nat) (W : World) (c1 : W.cell? ⟨pb, 0, none⟩ = some (.func (.func 53) #[] #[.pointer (some ⟨p1, 0, none⟩), .pointer (some ⟨p2, 0, none⟩)])) (c2 : W.cell? ⟨kb, 0, none⟩ = some (.int .i64 b))
    (hf : Calls Tryd.prog 53 #[.int .i64 b, .int .i64 o, .pointer (some ⟨p1, 0, none⟩), .pointer (some ⟨p2, 0, none⟩)] W fun e w' => e = .returned (.int .i64 (r : Int)) ∧ w' = W) :
    Calls Tryd.prog 58 #[.int .i64 o, .pointer (some ⟨pb, 0, none⟩), .pointer (some ⟨kb, 0, none⟩)] W fun e w' => e = .returned (.int .i64 (r : Int)) ∧ w' = W := by
  have HF : Hid (Calls Tryd.prog 53 #[.int .i64 b, .int .i64 o, .pointer (some ⟨p1, 0, none⟩), .pointer (some ⟨p2, 0, none⟩)] W fun e w' => e = .returned (.int .i64 (r : Int)) ∧ w' = W) := hf
  clear hf
  go_enter Tryd.func58, Tryd.ntmps58
  go_wp2_with fail
  refine HF.out.mono ?_
  rintro e w' ⟨rfl, hw⟩
  obtain rfl := hw.symm
  go_wp2
  go_ret
  exact ⟨rfl, rfl⟩
theorem join32_any (pb kb : Nat) (p1 p2 b o r : Nat) (W : World) (c1 : W.cell? ⟨pb, 0, none⟩ = some (.func (.func 55) #[] #[.pointer (some ⟨p1, 0, none⟩), .pointer (some ⟨p2, 0, none⟩)])) (c2 : W.cell? ⟨kb, 0, none⟩ = some (.int .i64 b))
    (hf : Calls Tryd.prog 55 #[.int .i64 b, .int .i64 o, .pointer (some ⟨p1, 0, none⟩), .pointer (some ⟨p2, 0, none⟩)] W fun e w' => e = .returned (.int .i64 (r : Int)) ∧ w' = W) :
    Calls Tryd.prog 58 #[.int .i64 o, .pointer (some ⟨pb, 0, none⟩), .pointer (some ⟨kb, 0, none⟩)] W fun e w' => e = .returned (.int .i64 (r : Int)) ∧ w' = W := by
  have HF : Hid (Calls Tryd.prog 55 #[.int .i64 b, .int .i64 o, .pointer (some ⟨p1, 0, none⟩), .pointer (some ⟨p2, 0, none⟩)] W fun e w' => e = .returned (.int .i64 (r : Int)) ∧ w' = W) := hf
  clear hf
  go_enter Tryd.func58, Tryd.ntmps58
  go_wp2_with fail
  refine HF.out.mono ?_
  rintro e w' ⟨rfl, hw⟩
  obtain rfl := hw.symm
  go_wp2
  go_ret
  exact ⟨rfl, rfl⟩
end Go.Proofs.YtokpjegiinggdaaDoor
