import Derived.Test.YtnknbijbhidpnaaGreatDoorPrB
namespace Go.Proofs.YtnknbijbhidpnaaGreatDoor
open Go.ChangeShapes Go.WideShapes Go.ChangeAt Go.RowKit Go.Sort Go.Lib

theorem one_cell (w : World) (x : UInt8) : ∀ j u, (Lib.byteCells [x])[j]? = some u → (w.alloc (.cells #[.int .u8 (x.toNat : Int)] 5)).cell? ((⟨w.heap.size, 0, none⟩ : Addr).add j) = some u := fun j u hu => by
  rw [add_lit0, World.cell?_alloc_new]
  simp [Lib.byteCells] at hu ⊢
  cases j with
  | zero => simpa using hu
  | succ j => simp at hu
theorem bel_new (w : World) (o : Obj) : Below w.heap.size w (w.alloc o) := (Below.refl _ _).alloc (Nat.le_refl _) o
set_option maxHeartbeats 4000000 in
set_option maxRecDepth 100000 in
theorem iappInt_m (B : Nat) (i : Int) (h0 : -9223372036854775808 ≤ i) (h1 : i ≤ 9223372036854775807) (sv : Value) (l : List UInt8) (w : World) (hown : OwnM w B sv l) (hB : B ≤ w.heap.size) (hlim : l.length + 22 ≤ 140737488355328) (htab : Lib.TabBelow Tryz.prog B w "internal/strconv.uint64pow10" .u64 Lib.pow10Tab) :
    Calls Tryz.prog 53 #[sv, .int .i64 i, .int .i64 10] w fun e w' => ∃ v', e = .returned v' ∧ OwnM w' B v' (l ++ Lib.itoa i) ∧ Below B w w' := by
  generalize hPP : (fun (e : Ending) (w' : World) => ∃ v', e = .returned v' ∧ OwnM w' B v' (l ++ Lib.itoa i) ∧ Below B w w') = PP
  have HPP : Hid (∀ v' w', OwnM w' B v' (l ++ Lib.itoa i) → Below B w w' → PP (.returned v') w') := fun v' w' h1 h2 => by rw [← hPP]; exact ⟨v', rfl, h1, h2⟩
  clear hPP
  by_cases hi : 0 ≤ i
  · obtain ⟨u, rfl⟩ : ∃ u : Nat, i = (u : Int) := ⟨i.toNat, by omega⟩
    rw [Lib.itoa_nonneg] at HPP
    have HA : Hid (Calls Tryz.prog 66 #[sv, .int .u64 u, .int .i64 10] w fun e w' => ∃ v', e = .returned v' ∧ OwnM w' B v' (l ++ Lib.decDigits u) ∧ Below B w w') := appU_any B u sv l w (by omega) hown hB (by omega) (htab w (Below.refl _ _))
    have hw : IntKind.u64.wrap (u : Int) = (u : Int) := by rw [IntKind.wrap_u64]; omega
    clear hown htab
    go_enter Tryz.func53, Tryz.ntmps53
    go_wp2_with fail
    refine HA.out.mono ?_
    rintro e w1 ⟨v1, rfl, ho, hb⟩
    have HE : Hid (PP (.returned v1) w1) := HPP.out v1 w1 ho hb
    clear ho hb
    go_wp2
    first | exact HE.out | (go_ret; exact HE.out) | (go_ret2; exact HE.out)
  · obtain ⟨u, rfl⟩ : ∃ u : Nat, i = -(u : Int) := ⟨(-i).toNat, by omega⟩
    have hu1 : 1 ≤ u := by omega
    rw [Lib.itoa_neg u hu1] at HPP
    have HO : Hid (OwnM (w.alloc (.cells #[.int .u8 45] 5)) B sv l) := hown.below (bel_new _ _)
    have HT : Hid (Lib.TabBelow Tryz.prog B w "internal/strconv.uint64pow10" .u64 Lib.pow10Tab) := htab
    have hw1 : IntKind.u64.wrap (-(u : Int)) = 18446744073709551616 - (u : Int) := by rw [IntKind.wrap_u64]; omega
    have hw2 : IntKind.u64.wrap (-(18446744073709551616 - (u : Int))) = (u : Int) := by rw [IntKind.wrap_u64]; omega
    have hw3 : IntKind.u64.wrap ((u : Int) - 18446744073709551616) = (u : Int) := by rw [IntKind.wrap_u64]; omega
    have q1 : -(u : Int) < 0 := by omega
    clear hown htab
    go_enter Tryz.func53, Tryz.ntmps53
    go_wp2_with (at_builtin; refine wpList_m_cells rfl _ _ rfl rfl HO.out ⟨w.heap.size, 0, none⟩ [45] _ _ rfl rfl (one_cell w 45) (by simp) (by simp; omega) (by simp; omega) ?_; intro v1 w1 ho hb; have HX : Hid (OwnM w1 B v1 (l ++ [45]) ∧ Below B w w1) := ⟨ho, (bel_le (bel_new _ _) hB).trans hb⟩; clear ho hb; refine Hid.out ?_)
    refine Lib.hid ?_
    have HA : Hid (Calls Tryz.prog 66 #[v1, .int .u64 u, .int .i64 10] w1 fun e w' => ∃ v', e = .returned v' ∧ OwnM w' B v' (l ++ [45] ++ Lib.decDigits u) ∧ Below B w1 w') := appU_any B u v1 (l ++ [45]) w1 (by omega) HX.out.1 (Nat.le_trans hB HX.out.2.size) (by simp; omega) (HT.out w1 HX.out.2)
    go_wp2_with fail
    refine HA.out.mono ?_
    rintro e w2 ⟨v2, rfl, ho, hb⟩
    have HE : Hid (PP (.returned v2) w2) := HPP.out v2 w2 (by simpa using ho) (HX.out.2.trans hb)
    clear ho hb
    go_wp2
    first | exact HE.out | (go_ret; exact HE.out) | (go_ret2; exact HE.out)
theorem appInt_m (B : Nat) (i : Int) (h0 : -9223372036854775808 ≤ i) (h1 : i ≤ 9223372036854775807) (sv : Value) (l : List UInt8) (w : World) (hown : OwnM w B sv l) (hB : B ≤ w.heap.size) (hlim : l.length + 22 ≤ 140737488355328) (htab : Lib.TabBelow Tryz.prog B w "internal/strconv.uint64pow10" .u64 Lib.pow10Tab) :
    Calls Tryz.prog 34 #[sv, .int .i64 i, .int .i64 10] w fun e w' => ∃ v', e = .returned v' ∧ OwnM w' B v' (l ++ Lib.itoa i) ∧ Below B w w' := by
  have HA : Hid (Calls Tryz.prog 53 #[sv, .int .i64 i, .int .i64 10] w fun e w' => ∃ v', e = .returned v' ∧ OwnM w' B v' (l ++ Lib.itoa i) ∧ Below B w w') := iappInt_m B i h0 h1 sv l w hown hB hlim htab
  clear hown htab
  go_enter Tryz.func34, Tryz.ntmps34
  go_wp2_with fail
  refine HA.out.mono ?_
  rintro e w2 ⟨v2, rfl, ho, hb⟩
  have HX : Hid (OwnM w2 B v2 (l ++ Lib.itoa i) ∧ Below B w w2) := ⟨ho, hb⟩
  clear ho hb
  go_wp2
  go_ret
  exact ⟨_, rfl, HX.out.1, HX.out.2⟩
end Go.Proofs.YtnknbijbhidpnaaGreatDoor
