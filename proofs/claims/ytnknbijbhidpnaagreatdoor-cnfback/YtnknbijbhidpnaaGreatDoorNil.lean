import Derived.Test.YtnknbijbhidpnaaGreatDoorNorm
import Derived.Test.YtnknbijbhidpnaaGreatDoorUni
import Derived.Shelf.SlSortCmp.NoneTotal
namespace Go.Proofs.YtnknbijbhidpnaaGreatDoor
open Go.ChangeShapes Go.WideShapes Go.ChangeAt Go.Shelf Go.RowKit Go.Lib Go.Sort Go.Cn

set_option maxHeartbeats 2000000 in
set_option maxRecDepth 100000 in
theorem sortS_nil (w : World) :
    Calls Tryz.prog 41 #[.slice none 0 0, .func (.func 42) #[] #[]] w fun e w' => e = .returned (.tuple #[]) ∧ w' = w := by
  have hp := fun lim W => AnyF.pdqsortCmpFunc_none (P := Tryz.prog) (ρ := Tryz.pdqL_ren) { Tryz.pdqL with } none 0 lim (.func (.func 42) #[] #[]) W
  have hl : ∀ W, Calls Tryz.prog 58 #[.int .u64 0] W fun e w' => e = .returned (.int .i64 (Lib.bitLen 0 : Nat)) ∧ w' = W := fun W => by
    have h := Any.bits_Len (SlLaysF0.n15.bits (P := Tryz.prog) (ρ := Tryz.pdqL_ren) { Tryz.pdqL with }) 0 W (by omega) (by omega)
    exact h
  change ∀ lim W, Calls Tryz.prog 57 _ _ _ at hp
  go_enter Tryz.func41, Tryz.ntmps41
  go_wp2_with (first | (go_at_call 58; refine (hl _).mono ?_; rintro e w' ⟨rfl, rfl⟩) | (go_at_call 57; refine (hp _ _).mono ?_; rintro e w' ⟨rfl, rfl⟩))
  go_end0
  exact ⟨rfl, rfl⟩
theorem compact_nil (w : World) : Calls Tryz.prog 45 #[.slice none 0 0] w fun e w' => e = .returned (.slice none 0 0) ∧ w' = w := by
  go_enter Tryz.func45, Tryz.ntmps45
  go_wp2
  go_ret
  exact ⟨rfl, rfl⟩
theorem setOf_nil (w : World) :
    Calls Tryz.prog 23 #[.slice none 0 0] w fun e w' => ∃ v, e = .returned v ∧ w'.ownsRow w.heap.size 3 1 v (setL []).length ((setL []).map (Value.int .i64)) ∧ Below w.heap.size w w' := by
  have HC : Hid (Calls Tryz.prog 40 #[.slice none 0 0] w fun e w' => e = .returned (.slice none 0 0) ∧ w' = w) := AnyE.slices_Clone_nil Tryz.cloneL 0 0 w
  have HS : Hid (Calls Tryz.prog 41 #[.slice none 0 0, .func (.func 42) #[] #[]] w fun e w' => e = .returned (.tuple #[]) ∧ w' = w) := sortS_nil w
  have HK : Hid (Calls Tryz.prog 45 #[.slice none 0 0] w fun e w' => e = .returned (.slice none 0 0) ∧ w' = w) := compact_nil w
  go_enter Tryz.func23, Tryz.ntmps23
  go_wp2_with fail
  refine HC.out.mono ?_
  rintro e w' ⟨rfl, hw⟩
  obtain rfl := hw.symm
  go_wp2_with fail
  refine HS.out.mono ?_
  rintro e w' ⟨rfl, hw⟩
  obtain rfl := hw.symm
  go_wp2_with fail
  refine HK.out.mono ?_
  rintro e w' ⟨rfl, hw⟩
  obtain rfl := hw.symm
  go_wp2
  go_ret
  exact ⟨_, rfl, World.ownsRow_nil _ _ _ _, Below.refl _ _⟩
set_option maxHeartbeats 1000000 in
set_option maxRecDepth 100000 in
theorem cloneE (a : Addr) (c : Nat) (w : World) : Calls Tryz.prog 40 #[.slice (some a) 0 c] w fun e w' => (∃ p cap, e = .returned (.slice p 0 cap) ∧ w'.ownsRow w.heap.size 3 1 (.slice p 0 cap) 0 []) ∧ Below w.heap.size w w' := by
  obtain ⟨i0, hi, hz0, hz1, hz2⟩ := info_parts Tryz.info3
  have q22 : ∀ (w : World) (a : Option Addr) (n c n' c' : Nat), (binOp .eql 37 (.slice a n c) (.slice none n' c')).run Tryz.prog w = .ok (.bool a.isNone) w := fun w a n c n' c' => Lib.run_eql_slice_nil w _ _ a n c n' c' Tryz.underlying37
  have HO : ∀ o, o = Obj.cells #[] 3 → (w.alloc o).ownsRow w.heap.size 3 1 (.slice (some ⟨w.heap.size, 0, none⟩) 0 0) 0 [] := fun o ho => ⟨rfl, Or.inr ⟨w.heap.size, 0, #[], rfl, Nat.le_refl _, by rw [ho]; exact heap_alloc_new _ _, Nat.le_refl _, Nat.zero_le _, rfl, rfl⟩⟩
  have HB : Hid (∀ o, Below w.heap.size w (w.alloc o)) := fun o => (Below.refl _ _).alloc (Nat.le_refl _) o
  go_enter Tryz.func40, Tryz.ntmps40
  go_wp2_with (at_builtin; refine wpList_append_fits_any _ rfl (.tmp 5) (.tmp 6) 37 rfl w.heap.size 3 i0 1 Tryz.underlying37 hi hz1 w.heap.size 0 0 _ rfl (HO _ rfl) (some a) 0 c [] rfl rfl (fun e => by cases e) (fun _ _ j u hj => by simp at hj) (fun u hu => by simp at hu) (by omega) ?_; intro w2 hown2 hgrow2; have HO2 : Aside (w2.ownsRow w.heap.size 3 1 (.slice (some ⟨w.heap.size, 0, none⟩) (0 + 0) 0) (0 + 0) ([] ++ [])) := hown2; have HB2 : Aside (Below w.heap.size w w2) := below_fits (Below.refl _ _) hgrow2; clear hown2 hgrow2)
  go_ret
  exact ⟨⟨_, _, rfl, HO2.out⟩, HB2.out⟩
theorem sortS_emp (p : Option Addr) (cap : Nat) (w : World) :
    Calls Tryz.prog 41 #[.slice p 0 cap, .func (.func 42) #[] #[]] w fun e w' => e = .returned (.tuple #[]) ∧ w' = w := by
  have hp := fun lim W => AnyF.pdqsortCmpFunc_none (P := Tryz.prog) (ρ := Tryz.pdqL_ren) { Tryz.pdqL with } p cap lim (.func (.func 42) #[] #[]) W
  have hl : ∀ W, Calls Tryz.prog 58 #[.int .u64 0] W fun e w' => e = .returned (.int .i64 (Lib.bitLen 0 : Nat)) ∧ w' = W := fun W => by
    have h := Any.bits_Len (SlLaysF0.n15.bits (P := Tryz.prog) (ρ := Tryz.pdqL_ren) { Tryz.pdqL with }) 0 W (by omega) (by omega)
    exact h
  change ∀ lim W, Calls Tryz.prog 57 _ _ _ at hp
  go_enter Tryz.func41, Tryz.ntmps41
  go_wp2_with (first | (go_at_call 58; refine (hl _).mono ?_; rintro e w' ⟨rfl, rfl⟩) | (go_at_call 57; refine (hp _ _).mono ?_; rintro e w' ⟨rfl, rfl⟩))
  go_end0
  exact ⟨rfl, rfl⟩
theorem compact_emp (p : Option Addr) (cap : Nat) (w : World) : Calls Tryz.prog 45 #[.slice p 0 cap] w fun e w' => e = .returned (.slice p 0 cap) ∧ w' = w := by
  go_enter Tryz.func45, Tryz.ntmps45
  go_wp2
  go_ret
  exact ⟨rfl, rfl⟩
theorem setOf_emp (a : Addr) (c : Nat) (w : World) :
    Calls Tryz.prog 23 #[.slice (some a) 0 c] w fun e w' => ∃ v, e = .returned v ∧ w'.ownsRow w.heap.size 3 1 v (setL []).length ((setL []).map (Value.int .i64)) ∧ Below w.heap.size w w' := by
  have HC : Hid (Calls Tryz.prog 40 #[.slice (some a) 0 c] w fun e w' => (∃ p cap, e = .returned (.slice p 0 cap) ∧ w'.ownsRow w.heap.size 3 1 (.slice p 0 cap) 0 []) ∧ Below w.heap.size w w') := cloneE a c w
  have HS : Hid (∀ p cap W, Calls Tryz.prog 41 #[.slice p 0 cap, .func (.func 42) #[] #[]] W fun e w' => e = .returned (.tuple #[]) ∧ w' = W) := sortS_emp
  have HK : Hid (∀ p cap W, Calls Tryz.prog 45 #[.slice p 0 cap] W fun e w' => e = .returned (.slice p 0 cap) ∧ w' = W) := compact_emp
  go_enter Tryz.func23, Tryz.ntmps23
  go_wp2_with fail
  refine HC.out.mono ?_
  rintro e w1 ⟨⟨p, cap, rfl, ho⟩, hb⟩
  have HX : Hid (w1.ownsRow w.heap.size 3 1 (.slice p 0 cap) 0 [] ∧ Below w.heap.size w w1) := ⟨ho, hb⟩
  clear ho hb
  go_wp2_with fail
  refine (HS.out _ _ _).mono ?_
  rintro e w' ⟨rfl, hw⟩
  obtain rfl := hw.symm
  go_wp2_with fail
  refine (HK.out _ _ _).mono ?_
  rintro e w' ⟨rfl, hw⟩
  obtain rfl := hw.symm
  go_wp2
  go_ret
  exact ⟨_, rfl, HX.out.1, HX.out.2⟩
/-- setOf of a clause that came in -/
theorem setOf_sl (ad : Option Addr) (xs : List Int) (c : Nat) (w : World) (h : Sl w ad c xs) (hl : xs.length ≤ 1099511627776) (h2 : ∀ x ∈ xs, litB x = true) :
    Calls Tryz.prog 23 #[.slice ad xs.length c] w fun e w' => ∃ v, e = .returned v ∧ w'.ownsRow w.heap.size 3 1 v (setL xs).length ((setL xs).map (Value.int .i64)) ∧ Below w.heap.size w w' := by
  cases ad with
  | none =>
    have hc : c = 0 := h.nul rfl
    have hx : xs = [] := List.eq_nil_of_length_eq_zero (by have := h.le; omega)
    subst hc
    subst hx
    exact setOf_nil w
  | some a =>
    by_cases h0 : 0 < xs.length
    · obtain ⟨b, off, e, _⟩ := h.ints h0
      rw [e] at h ⊢
      exact setOf_any b off c xs w h.ints (by omega) h2
    · have hx : xs = [] := List.eq_nil_of_length_eq_zero (by omega)
      subst hx
      exact setOf_emp a c w
/-- Norm of a clause that came in -/
theorem norm_sl (ad : Option Addr) (xs : List Int) (c : Nat) (w : World) (h : Sl w ad c xs) (hl : xs.length ≤ 1000000000000000000) : Calls Tryz.prog 10 #[.slice ad xs.length c] w (NormPost xs w) :=
  norm_of ad xs c w h.ints hl (fun _ h2 => setOf_sl ad xs c w h (by omega) h2)
end Go.Proofs.YtnknbijbhidpnaaGreatDoor
