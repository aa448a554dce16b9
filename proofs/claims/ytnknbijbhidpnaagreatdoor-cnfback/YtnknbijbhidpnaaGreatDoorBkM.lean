import Derived.Test.YtnknbijbhidpnaaGreatDoorPrD
import Derived.Test.YtnknbijbhidpnaaGreatDoorRChk
import Derived.Test.YtnknbijbhidpnaaGreatDoorOne
import Derived.Test.YtnknbijbhidpnaaGreatDoorRes
import Derived.Test.YtnknbijbhidpnaaGreatDoorBkC
namespace Go.Proofs.YtnknbijbhidpnaaGreatDoor
open Go.ChangeShapes Go.WideShapes Go.ChangeAt Go.RowKit Go.Cn

set_option maxHeartbeats 4000000 in
theorem print_no (vars x er : Int) (v : Value) (w : World) (he : er ≠ 0) (hCk : ∀ W, Below w.heap.size w W → Calls Tryz.prog 14 #[.agg #[.int .i64 vars, v]] W fun e w' => e = .returned (.tuple #[.int .i64 x, .int .i64 er]) ∧ Below W.heap.size W w') :
    Calls Tryz.prog 5 #[.agg #[.int .i64 vars, v]] w fun e w' => e = .returned (.tuple #[.string ⟨#[]⟩, .int .i64 er]) ∧ Below w.heap.size w w' := by
  have HC : Hid (Calls Tryz.prog 14 #[.agg #[.int .i64 vars, v]] (w.alloc (.cells #[.int .i64 vars, v] 24)) fun e w' => e = .returned (.tuple #[.int .i64 x, .int .i64 er]) ∧ Below w.heap.size w w') := (hCk _ (bel_new _ _)).mono fun e w' h7 => ⟨h7.1, (bel_new _ _).trans (bel_le h7.2 (by simp))⟩
  have q1 : (er == 0) = false := beq_eq_false_iff_ne.2 he
  clear hCk
  go_enter Tryz.func5, Tryz.ntmps5
  go_wp2_with fail
  refine HC.out.mono ?_
  rintro e w2 ⟨rfl, hb⟩
  have HB : Hid (Below w.heap.size w w2) := hb
  clear hb
  go_wp2
  first | exact ⟨rfl, HB.out⟩ | (go_ret2; exact ⟨rfl, HB.out⟩)
/-- what Print answers where it goes well -/
theorem print_ok (vars : Int) (cs : List (List Int)) (h0 : (ck vars cs).2 = 0) (W : World) (ad : Option Addr) (c : Nat) (h : Cls W ad cs) (ht : PowT W.heap.size W) :
    Calls Tryz.prog 5 #[.agg #[.int .i64 vars, .slice ad cs.length c]] W fun e w' => e = .returned (.tuple #[.string ⟨(prH vars cs.length ++ prCt txtL cs).toArray⟩, .int .i64 0]) ∧ Below W.heap.size W w' := by
  obtain ⟨k1, k2, k3, k4, k5⟩ := ck_zero h0
  have hlit : ∀ d ∈ cs, ∀ x ∈ d, litB x = true := fun d hd x hx => by
    have := (k4 d hd).2 x hx
    unfold amB at this
    simp only [Bool.and_eq_true] at this
    exact this.1
  have hLn : ∀ k, k ≤ cs.length → (prCt txtL (cs.take k)).length ≤ 200000000 := fun k hk2 => by
    have h1 := prC_len (cs.take k) (fun d hd => hlit d (List.mem_of_mem_take hd))
    have h2 := sum_take cs k
    have h3 : (cs.take k).length ≤ 1048576 := by rw [List.length_take]; omega
    omega
  have hk : ∀ W', Below W.heap.size W W' → Calls Tryz.prog 14 #[.agg #[.int .i64 vars, .slice ad cs.length c]] W' fun e w' => e = .returned (.tuple #[.int .i64 (ck vars cs).1, .int .i64 0]) ∧ Below W'.heap.size W' w' := fun W' hb => by
    have h5 := check_any vars ad cs c W' (h.below hb) (by omega) (fun j hj => by have := (k4 _ (getD_memL hj)).1; omega)
    rw [h0] at h5
    exact h5
  refine print_walk txtL vars _ cs.length ad cs c W rfl ⟨k1, k2⟩ k3 (fun k hkn => ?_) hLn ht hk
  obtain ⟨b, off, e, hb, hc⟩ := h (by omega)
  obtain ⟨aj, cj, h1, h2⟩ := hc k hkn
  refine ⟨b, off, aj, cj, e, fun W' hW' => (World.cell?_of_block (w' := W') (w := W) (a := ⟨b, off + k, none⟩) (hW'.block b hb)).trans h1, fun W' v pre B hB1 hB2 hW' ho hp => ?_⟩
  exact appendLits_m B v pre aj (cs.getD k []) cj W' ho hB2 (fun W'' hb2 => ht W'' (hW'.trans (bel_le hb2 hB1))) (fun W'' hb2 => h2.below (hW'.trans (bel_le hb2 hB1))) (hlit _ (getD_memL hkn)) (by have := (k4 _ (getD_memL hkn)).1; omega)
theorem print_bad (vars : Int) (cs : List (List Int)) (h0 : (ck vars cs).2 ≠ 0) (hl : cs.length ≤ 1000000000000000000) (hcl : ∀ j, j < cs.length → (cs.getD j []).length ≤ 1000000000000000000) (W : World) (ad : Option Addr) (c : Nat) (h : Cls W ad cs) :
    Calls Tryz.prog 5 #[.agg #[.int .i64 vars, .slice ad cs.length c]] W fun e w' => e = .returned (.tuple #[.string ⟨#[]⟩, .int .i64 (ck vars cs).2]) ∧ Below W.heap.size W w' :=
  print_no vars (ck vars cs).1 (ck vars cs).2 _ W h0 (fun W' hb => check_any vars ad cs c W' (h.below hb) hl hcl)
set_option maxHeartbeats 4000000 in
set_option maxRecDepth 100000 in
theorem may_any (vars most : Int) (ad : Option Addr) (cs : List (List Int)) (c : Nat) (w : World) (h : Cls w ad cs) (hl : cs.length ≤ 1000000000000000000) (hcl : ∀ j, j < cs.length → (cs.getD j []).length ≤ 1000000000000000000) :
    Calls Tryz.prog 7 #[.agg #[.int .i64 vars, .slice ad cs.length c], .int .i64 most] w fun e w' => e = .returned (.bool (decide ((ck vars cs).2 = 0) && decide (vars ≤ most))) ∧ Below w.heap.size w w' := by
  have HB0 : Aside (∀ o, Below w.heap.size w (w.alloc o)) := fun o => (Below.refl _ _).alloc (Nat.le_refl _) o
  have HC : Hid (∀ W, Below w.heap.size w W → Calls Tryz.prog 17 #[.agg #[.int .i64 vars, .slice ad cs.length c]] W fun e w' => e = .returned (.tuple #[.int .i64 (ck vars cs).1, .int .i64 (ck vars cs).2]) ∧ Below W.heap.size W w') := fun W hW => rcheck_any vars ad cs c W (h.below hW) hl hcl
  clear h hl hcl
  generalize (ck vars cs).1 = r1 at *
  generalize (ck vars cs).2 = r2 at *
  generalize cs.length = n at *
  generalize hR : (decide (r2 = 0) && decide (vars ≤ most)) = R
  have HR : Hid ((decide (r2 = 0) && decide (vars ≤ most)) = R) := hR
  clear hR
  go_enter Tryz.func7, Tryz.ntmps7
  go_wp2_with fail
  have y0 : (w.alloc (.cells #[.int .i64 vars, .slice ad n c] 24)).heap[w.heap.size]? = some (.cells #[.int .i64 vars, .slice ad n c] 24 (0, 0)) := heap_alloc_at _ _
  have HBa : Hid (Below w.heap.size w (w.alloc (.cells #[.int .i64 vars, .slice ad n c] 24))) := HB0.out _
  have HSa : Hid ((w.alloc (.cells #[.int .i64 vars, .slice ad n c] 24)).heap.size = w.heap.size + 1) := sz1 _ _
  generalize w.alloc (.cells #[.int .i64 vars, .slice ad n c] 24) = w1 at *
  refine (HC.out w1 HBa.out).mono ?_
  rintro e w2 ⟨rfl, hb2⟩
  have HB2 : Hid (Below w.heap.size w w2) := below_next HBa.out hb2
  have y1 : w2.heap[w.heap.size]? = some (.cells #[.int .i64 vars, .slice ad n c] 24 (0, 0)) := (hb2.block _ (by have := HSa.out; omega)).trans y0
  have z0 : w2.cell? ⟨w.heap.size, 0, none⟩ = some (.int .i64 vars) := blk_cell y1 0
  clear y0 y1 hb2 HSa HBa HB0 HC
  by_cases e0 : r2 = 0
  · by_cases e1 : vars ≤ most
    · have HR2 : Hid (R = true) := by have := HR.out; rw [decide_eq_true e0, decide_eq_true e1] at this; exact this.symm
      clear HR
      subst e0
      go_wp2
      go_ret
      exact ⟨by rw [HR2.out]; rfl, HB2.out⟩
    · have HR2 : Hid (R = false) := by have := HR.out; rw [decide_eq_true e0, decide_eq_false e1] at this; exact this.symm
      clear HR
      subst e0
      go_wp2
      go_ret
      exact ⟨by rw [HR2.out]; show Ending.returned (.bool (decide (vars ≤ most))) = _; rw [decide_eq_false (by omega)], HB2.out⟩
  · have HR2 : Hid (R = false) := by have := HR.out; rw [decide_eq_false e0] at this; exact this.symm
    clear HR
    have e2 : (r2 == 0) = false := by simpa using e0
    go_wp2
    go_ret
    exact ⟨by rw [HR2.out]; rfl, HB2.out⟩
/-- the lowest two bits -/
theorem and3 (x : Int) : ∃ k : Nat, k ≤ 3 ∧ bits .and .i64 x 3 = (k : Int) := by
  have hle : (BitVec.ofInt 64 x &&& BitVec.ofInt 64 3).toNat ≤ 3 := by
    rw [BitVec.toNat_and]
    exact Nat.le_trans Nat.and_le_right (by decide)
  refine ⟨(BitVec.ofInt 64 x &&& BitVec.ofInt 64 3).toNat, hle, ?_⟩
  show IntKind.i64.wrap ((BitVec.ofInt 64 x &&& BitVec.ofInt 64 3).toNat : Int) = _
  rw [IntKind.wrap_i64]
  omega
end Go.Proofs.YtnknbijbhidpnaaGreatDoor
