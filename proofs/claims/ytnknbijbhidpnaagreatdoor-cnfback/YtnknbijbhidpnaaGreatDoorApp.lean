import Derived.Test.YtnknbijbhidpnaaGreatDoorChk
import Derived.Test.YtnknbijbhidpnaaGreatDoorShelf
import Derived.Lib.ItoaLen
import Derived.Lib.Hide
namespace Go.Proofs.YtnknbijbhidpnaaGreatDoor
open Go.ChangeShapes Go.WideShapes Go.ChangeAt Go.RowKit Go.Cn

theorem Tryz.info5 : (Tryz.prog.info? 5).map (fun i => (i.zero, i.size, i.bytes)) = some (some (.int .u8 0), 1, 1) := by kernel_rfl
/-- the text of literals, a blank behind each -/
def txtL (xs : List Int) : List UInt8 := xs.flatMap fun l => Lib.itoa l ++ [32]
theorem txtL_snoc (xs : List Int) (x : Int) : txtL (xs ++ [x]) = txtL xs ++ Lib.itoa x ++ [32] := by simp [txtL, List.flatMap_append]
theorem txtL_len (xs : List Int) (h : ∀ x ∈ xs, litB x = true) : (txtL xs).length ≤ 22 * xs.length := by
  induction xs with
  | nil => simp [txtL]
  | cons a l ih =>
    have h1 := ih (fun x hx => h x (List.mem_cons_of_mem _ hx))
    have h2 := litB_iff.1 (h a (List.mem_cons_self ..))
    have h3 := Lib.itoa_length_le a (by omega) (by omega)
    simp only [txtL, List.flatMap_cons, List.length_append, List.length_cons, List.length_nil] at *
    omega
abbrev PowT (B : Nat) (w : World) : Prop := Lib.TabBelow Tryz.prog B w "internal/strconv.uint64pow10" .u64 Lib.pow10Tab
theorem appInt_any (B n : Nat) (i : Int) (h0 : -9223372036854775808 ≤ i) (h1 : i ≤ 9223372036854775807) (sv : Value) (xs : List Value) (w : World) (hown : w.ownsRow B 5 1 sv n xs) (hBw : B ≤ w.heap.size) (hlim : n + 21 ≤ 140737488355328) (htab : PowT B w) :
    Calls Tryz.prog 34 #[sv, .int .i64 i, .int .i64 10] w fun e w' => ∃ v', e = .returned v' ∧ w'.ownsRow B 5 1 v' (n + (Lib.itoa i).length) (xs ++ Lib.byteCells (Lib.itoa i)) ∧ Below B w w' :=
  (Any.strconv_AppendInt_10 Tryz.appL B n i h0 h1 sv xs w hown hBw hlim htab).mono fun _ _ ⟨v, he, ho, hb, _⟩ => ⟨v, he, ho, hb⟩
theorem byteCells_append (a b : List UInt8) : Lib.byteCells (a ++ b) = Lib.byteCells a ++ Lib.byteCells b := by simp [Lib.byteCells]
set_option maxHeartbeats 4000000 in
set_option maxRecDepth 100000 in
theorem appendLits_any (B : Nat) (sv : Value) (pre : List UInt8) (ad : Option Addr) (xs : List Int) (c : Nat) (w : World) (hown : w.ownsRow B 5 1 sv pre.length (Lib.byteCells pre)) (hB : B ≤ w.heap.size) (htab : PowT B w)
    (hI : ∀ W, Below B w W → Ints W ad xs) (hlit : ∀ x ∈ xs, litB x = true) (hl : pre.length + 22 * xs.length ≤ 70368744177664) :
    Calls Tryz.prog 16 #[sv, .slice ad xs.length c] w fun e w' => ∃ v, e = .returned v ∧ w'.ownsRow B 5 1 v (pre ++ txtL xs).length (Lib.byteCells (pre ++ txtL xs)) ∧ Below B w w' := by
  have HI : Aside (∀ W, Below B w W → Ints W ad xs) := hI
  have HT : Aside (PowT B w) := htab
  have HO : Aside (w.ownsRow B 5 1 sv pre.length (Lib.byteCells pre)) := hown
  have HLt : Aside (∀ k, (txtL (xs.take k)).length ≤ 22 * k) := fun k => Nat.le_trans (txtL_len _ (fun x hx => hlit x (List.mem_of_mem_take hx))) (by simp; omega)
  have HLit : Aside (∀ j, j < xs.length → litB (xs.getD j 0) = true) := fun j hj => hlit _ (getD_mem hj)
  obtain ⟨i0, hi, hz0, hz1, hz2⟩ := info_parts Tryz.info5
  clear hI htab hown hlit
  generalize hn : xs.length = n at *
  have HL : Aside (xs.length = n) := hn
  have hF : pre ++ txtL xs = pre ++ txtL (xs.take n) := by rw [← hn, List.take_length]
  have HF : Aside (pre ++ txtL xs = pre ++ txtL (xs.take n)) := hF
  clear hn hF
  go_enter Tryz.func16, Tryz.ntmps16
  go_wp2
  go_loopg [0, 9] n (fun gk v i wr => ∃ k : Nat, i = .int .i64 k ∧ k + gk = n ∧ Aside (wr.ownsRow B 5 1 v (pre ++ txtL (xs.take k)).length (Lib.byteCells (pre ++ txtL (xs.take k)))) ∧ Aside (Below B w wr))
  case atStart => exact ⟨0, rfl, by omega, by simpa [txtL] using HO, Below.refl _ _⟩
  case round =>
    clear HO
    obtain ⟨k, rfl, hk, HO, HBl⟩ := hrel
    by_cases hlt : k < n
    · obtain ⟨b, off, rfl, hb, hc⟩ := HI.out wr HBl.out (by rw [HL.out]; omega)
      have ck := hc k (by rw [HL.out]; omega)
      have HX0 : Aside (xs.take (k + 1) = xs.take k ++ [xs.getD k 0]) := take_succ_getD xs k (by rw [HL.out]; omega)
      have hlx := litB_iff.1 (HLit.out k hlt)
      generalize xs.getD k 0 = x at *
      have HS : Aside (pre ++ txtL (xs.take (k + 1)) = (pre ++ txtL (xs.take k)) ++ Lib.itoa x ++ [32]) := by
        show pre ++ txtL (xs.take (k + 1)) = _
        rw [HX0.out, txtL_snoc]; simp
      have hlen : (pre ++ txtL (xs.take k)).length ≤ pre.length + 22 * k := by rw [List.length_append]; have := HLt.out k; omega
      have hla := Lib.itoa_length_le x (by omega) (by omega)
      have hsz : B ≤ wr.heap.size := Nat.le_trans hB HBl.out.size
      have HA : Hid (Calls Tryz.prog 34 #[u0, .int .i64 x, .int .i64 10] wr fun e w' => ∃ v', e = .returned v' ∧ w'.ownsRow B 5 1 v' ((pre ++ txtL (xs.take k)).length + (Lib.itoa x).length) (Lib.byteCells (pre ++ txtL (xs.take k)) ++ Lib.byteCells (Lib.itoa x)) ∧ Below B wr w') :=
        appInt_any B _ x (by omega) (by omega) _ _ wr HO.out hsz (by omega) (HT.out.on HBl.out)
      clear hc HX0
      generalize pre ++ txtL (xs.take k) = pk at *
      go_wp2_with (go_at_call 34; refine HA.out.mono ?_; rintro e w1 ⟨v1, rfl, hown1, hb1⟩; have HO1 : Hid (w1.ownsRow B 5 1 v1 (pk.length + (Lib.itoa x).length) (Lib.byteCells pk ++ Lib.byteCells (Lib.itoa x))) := hown1; have HB1 : Hid (Below B w w1) := HBl.out.trans hb1; clear hown1 hb1; refine Hid.out ?_)
      refine Lib.hid ?_
      have hsz1 : B ≤ w1.heap.size := Nat.le_trans hB HB1.out.size
      go_wp2_with (at_builtin; refine wpList_append_own _ rfl _ _ 48 rfl B 5 i0 (.int .u8 0) 1 1 Tryz.underlying48 hi hz0 hz1 hz2 rfl (by decide) _ _ _ rfl (HO1.out.alloc _) ⟨w1.heap.size, 0, none⟩ 1 1 [.int .u8 32] rfl rfl (cell_one_new _ _ _) (ints_oneCell .u8 [32]) (by unfold maxLen; omega) (by omega) (by simp; omega) ?_; intro v2 w2 hown2 hgrow2 hnil2; have HO2 : Aside (w2.ownsRow B 5 1 v2 (pk.length + (Lib.itoa x).length + 1) (Lib.byteCells pk ++ Lib.byteCells (Lib.itoa x) ++ [.int .u8 32])) := hown2; have HB2 : Aside (Below B w w2) := below_append HB1.out hsz1 HO1.out hgrow2; clear hown2 hgrow2 hnil2)
      go_roundg (gk - 1)
      case measure => omega
      case rel =>
        refine ⟨k + 1, by simp, by omega, ?_, HB2⟩
        rw [HS.out, byteCells_append, byteCells_append, List.length_append, List.length_append]
        exact HO2
    · go_wp2
      go_ret
      obtain rfl : k = n := by omega
      exact ⟨_, rfl, by rw [HF.out]; exact HO, HBl⟩
end Go.Proofs.YtnknbijbhidpnaaGreatDoor
