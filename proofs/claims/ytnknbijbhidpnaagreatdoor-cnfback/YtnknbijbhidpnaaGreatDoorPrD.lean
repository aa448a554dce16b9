import Derived.Test.YtnknbijbhidpnaaGreatDoorApp
import Derived.Test.YtnknbijbhidpnaaGreatDoorPrE
namespace Go.Proofs.YtnknbijbhidpnaaGreatDoor
open Go.ChangeShapes Go.WideShapes Go.ChangeAt Go.RowKit Go.Cn

set_option maxHeartbeats 4000000 in
set_option maxRecDepth 100000 in
theorem appendLits_m (B : Nat) (sv : Value) (pre : List UInt8) (ad : Option Addr) (xs : List Int) (c : Nat) (w : World) (hown : OwnM w B sv pre) (hB : B ≤ w.heap.size) (htab : PowT B w)
    (hI : ∀ W, Below B w W → Ints W ad xs) (hlit : ∀ x ∈ xs, litB x = true) (hl : pre.length + 22 * xs.length ≤ 70368744177664) :
    Calls Tryz.prog 16 #[sv, .slice ad xs.length c] w fun e w' => ∃ v, e = .returned v ∧ OwnM w' B v (pre ++ txtL xs) ∧ Below B w w' := by
  have HI : Aside (∀ W, Below B w W → Ints W ad xs) := hI
  have HT : Aside (PowT B w) := htab
  have HO : Aside (OwnM w B sv pre) := hown
  have HLt : Aside (∀ k, (txtL (xs.take k)).length ≤ 22 * k) := fun k => Nat.le_trans (txtL_len _ (fun x hx => hlit x (List.mem_of_mem_take hx))) (by simp; omega)
  have HLit : Aside (∀ j, j < xs.length → litB (xs.getD j 0) = true) := fun j hj => hlit _ (getD_mem hj)
  clear hI htab hown hlit
  generalize hn : xs.length = n at *
  have HL : Aside (xs.length = n) := hn
  have hF : pre ++ txtL xs = pre ++ txtL (xs.take n) := by rw [← hn, List.take_length]
  have HF : Aside (pre ++ txtL xs = pre ++ txtL (xs.take n)) := hF
  clear hn hF
  go_enter Tryz.func16, Tryz.ntmps16
  go_wp2
  go_loopg [0, 9] n (fun gk v i wr => ∃ k : Nat, i = .int .i64 k ∧ k + gk = n ∧ Aside (OwnM wr B v (pre ++ txtL (xs.take k))) ∧ Aside (Below B w wr))
  case atStart => exact ⟨0, rfl, by omega, by simpa [txtL] using HO, Below.refl _ _⟩
  case round =>
    clear HO
    obtain ⟨k, rfl, hk, HO, HBl⟩ := hrel
    by_cases hlt : k < n
    · obtain ⟨b, off, rfl, hb, hc⟩ := HI.out wr HBl.out (by rw [HL.out]; omega)
      have ck := hc k (by rw [HL.out]; omega)
      have HX0 : Aside (xs.take (k + 1) = xs.take k ++ [xs.getD k 0]) := take_succ_getD xs k (by rw [HL.out]; omega)
      have hlx := litB_iff.1 (HLit.out k hlt)
      generalize xs.getD k 0 = x at *
      have HS : Aside (pre ++ txtL (xs.take (k + 1)) = (pre ++ txtL (xs.take k)) ++ Lib.itoa x ++ [32]) := by
        show pre ++ txtL (xs.take (k + 1)) = _
        rw [HX0.out, txtL_snoc]; simp
      have hlen : (pre ++ txtL (xs.take k)).length ≤ pre.length + 22 * k := by rw [List.length_append]; have := HLt.out k; omega
      have hla := Lib.itoa_length_le x (by omega) (by omega)
      have hsz : B ≤ wr.heap.size := Nat.le_trans hB HBl.out.size
      have HA : Hid (Calls Tryz.prog 34 #[u0, .int .i64 x, .int .i64 10] wr fun e w' => ∃ v', e = .returned v' ∧ OwnM w' B v' (pre ++ txtL (xs.take k) ++ Lib.itoa x) ∧ Below B wr w') :=
        appInt_m B x (by omega) (by omega) _ _ wr HO.out hsz (by omega) (HT.out.on HBl.out)
      clear hc HX0
      generalize pre ++ txtL (xs.take k) = pk at *
      go_wp2_with (go_at_call 34; refine HA.out.mono ?_; rintro e w1 ⟨v1, rfl, hown1, hb1⟩; have HO1 : Hid (OwnM (w1.alloc (.cells #[.int .u8 32] 5)) B v1 (pk ++ Lib.itoa x)) := hown1.below (bel_new _ _); have HB1 : Hid (Below B w w1) := HBl.out.trans hb1; clear hown1 hb1; refine Hid.out ?_)
      refine Lib.hid ?_
      have hsz1 : B ≤ w1.heap.size := Nat.le_trans hB HB1.out.size
      go_wp2_with (at_builtin; refine wpList_m_cells rfl _ _ rfl rfl HO1.out ⟨w1.heap.size, 0, none⟩ [32] _ _ rfl rfl (one_cell w1 32) (by simp) (by simp; omega) (by simp; omega) ?_; intro v2 w2 hown2 hgrow2; have HO2 : Aside (OwnM w2 B v2 (pk ++ Lib.itoa x ++ [32])) := hown2; have HB2 : Aside (Below B w w2) := HB1.out.trans ((bel_le (bel_new _ _) hsz1).trans hgrow2); clear hown2 hgrow2)
      go_roundg (gk - 1)
      case measure => omega
      case rel =>
        refine ⟨k + 1, by simp, by omega, ?_, HB2⟩
        rw [HS.out]
        exact HO2
    · go_wp2
      go_ret
      obtain rfl : k = n := by omega
      exact ⟨_, rfl, by rw [HF.out]; exact HO, HBl⟩
theorem sum_take (cs : List (List Int)) : ∀ k, ((cs.take k).map List.length).sum ≤ (cs.map List.length).sum := by
  induction cs with
  | nil => intro k; simp
  | cons c cs ih =>
    intro k
    cases k with
    | zero => simp
    | succ k => have := ih k; simp only [List.take_succ_cons, List.map_cons, List.sum_cons]; omega
theorem prC_len (cs : List (List Int)) (h : ∀ c ∈ cs, ∀ x ∈ c, litB x = true) : (prCt txtL cs).length ≤ 22 * (cs.map List.length).sum + 2 * cs.length := by
  induction cs with
  | nil => simp [prCt]
  | cons c cs ih =>
    have h1 := ih (fun d hd => h d (List.mem_cons_of_mem _ hd))
    have h2 := txtL_len c (h c List.mem_cons_self)
    simp only [prCt, List.flatMap_cons, List.length_append, List.map_cons, List.sum_cons, List.length_cons, List.length_nil] at *
    omega
theorem getD_memL {cs : List (List Int)} {j : Nat} (h : j < cs.length) : cs.getD j [] ∈ cs := by
  rw [List.getD_eq_getElem?_getD, List.getElem?_eq_getElem h]
  exact List.getElem_mem h
end Go.Proofs.YtnknbijbhidpnaaGreatDoor
