import Derived.Test.YtopdbhkkmolllaaGreatDoorKnC
import Derived.Test.YtopdbhkkmolllaaGreatDoorRows
import Derived.WalkKit
import Derived.ProofKit
import Derived.OpenShut
import Derived.WalkSpells
import Derived.LoopTactic
import Derived.Below
import Derived.Deep.LoopGhost
import Derived.Deep.Draws
import Derived.Deep.QuietTactic
import Derived.Deep.RegionLaw
import Derived.Deep.RegionHeld3
import Derived.Lib.Hide
import Derived.Laws.StructEq
import Derived.Laws.ResultCell
import Derived.Laws.Rows
import Derived.Laws.BitsAllLaws
import Derived.Laws.ShiftsVarLaws
import Derived.BigQuiet
namespace Go.Proofs.YtopdbhkkmolllaaGreatDoor
open Go.ChangeShapes Go.WideShapes Go.ChangeAt Go.RowKit Go.Lib Go.Kn

abbrev uV (x : Nat) : Value := .int .u64 (x : Int)
abbrev fV (f : Fc) : Value := .agg #[.int .i64 f.w, uV f.one, uV f.zero, uV f.least, uV f.top]
structure F64 (f : Fc) : Prop where
  one : f.one < 18446744073709551616
  zero : f.zero < 18446744073709551616
  least : f.least < 18446744073709551616
  top : f.top < 18446744073709551616
theorem bel1 (w : World) (o : Obj) : Below w.heap.size w (w.alloc o) := (Below.refl _ _).alloc (Nat.le_refl _) o
theorem blk_cell {w : World} {B : Nat} {cs : Array Value} {ty : TypeId} {fr : Nat × Nat} (h : w.heap[B]? = some (.cells cs ty fr)) (j : Nat) : w.cell? ⟨B, j, none⟩ = cs[j]? := by
  simp [World.cell?, h]
theorem box_cells {w W : World} {cs : Array Value} {ty : TypeId} {fr : Nat × Nat} (hb : Below (w.heap.size + 1) (w.alloc (.cells cs ty fr)) W) (j : Nat) : W.cell? ⟨w.heap.size, j, none⟩ = cs[j]? := by
  rw [hb.cell (p := ⟨w.heap.size, j, none⟩) (by simp)]
  exact blk_cell (heap_alloc_new w _) j
theorem box_next {w W W' : World} {o : Obj} (h1 : Below (w.heap.size + 1) (w.alloc o) W) (h2 : Below W.heap.size W W') : Below (w.heap.size + 1) (w.alloc o) W' := h1.trans (h2.mono (by have := h1.size; simp at this; omega))
theorem box_old {w W : World} {o : Obj} (h1 : Below (w.heap.size + 1) (w.alloc o) W) : Below w.heap.size w W := (bel1 w o).trans (h1.mono (by omega))
theorem box_refl (w : World) (o : Obj) : Below (w.heap.size + 1) (w.alloc o) (w.alloc o) := Below.refl _ _
theorem ret_int {k : IntKind} {a b : Int} (h : a = b) : Ending.returned (.int k a) = .returned (.int k b) := by rw [h]
theorem ofI (a : Nat) (ha : a < 18446744073709551616) : (BitVec.ofInt 64 (a : Int)).toNat = a := by rw [BitVec.toNat_ofInt]; omega
theorem and_u (a b : Nat) (ha : a < 18446744073709551616) (hb : b < 18446744073709551616) : bits .and .u64 (a : Int) (b : Int) = ((a &&& b : Nat) : Int) := by
  have hx : a &&& b < 18446744073709551616 := Nat.lt_of_le_of_lt Nat.and_le_left ha
  show IntKind.u64.wrap ((BitVec.ofInt 64 (a : Int) &&& BitVec.ofInt 64 (b : Int)).toNat : Int) = _
  rw [BitVec.toNat_and, ofI a ha, ofI b hb, IntKind.wrap_u64]
  omega
theorem or_lt64 {a b : Nat} (ha : a < 18446744073709551616) (hb : b < 18446744073709551616) : a ||| b < 18446744073709551616 := Nat.or_lt_two_pow (n := 64) ha hb
theorem xor_lt64 {a b : Nat} (ha : a < 18446744073709551616) (hb : b < 18446744073709551616) : a ^^^ b < 18446744073709551616 := Nat.xor_lt_two_pow (n := 64) ha hb
theorem or_u (a b : Nat) (ha : a < 18446744073709551616) (hb : b < 18446744073709551616) : bits .or .u64 (a : Int) (b : Int) = ((a ||| b : Nat) : Int) := by
  have hx := or_lt64 ha hb
  show IntKind.u64.wrap ((BitVec.ofInt 64 (a : Int) ||| BitVec.ofInt 64 (b : Int)).toNat : Int) = _
  rw [BitVec.toNat_or, ofI a ha, ofI b hb, IntKind.wrap_u64]
  omega
theorem xor_u (a b : Nat) (ha : a < 18446744073709551616) (hb : b < 18446744073709551616) : bits .xor .u64 (a : Int) (b : Int) = ((a ^^^ b : Nat) : Int) := by
  have hx := xor_lt64 ha hb
  show IntKind.u64.wrap ((BitVec.ofInt 64 (a : Int) ^^^ BitVec.ofInt 64 (b : Int)).toNat : Int) = _
  rw [BitVec.toNat_xor, ofI a ha, ofI b hb, IntKind.wrap_u64]
  omega
/-- the bits of a that b has not -/
def an (a b : Nat) : Nat := a ^^^ (a &&& b)
theorem an_bit (a b i : Nat) : (an a b).testBit i = (a.testBit i && !b.testBit i) := by
  unfold an
  rw [Nat.testBit_xor, Nat.testBit_and]
  cases a.testBit i <;> cases b.testBit i <;> rfl
theorem an_lt {a : Nat} (b : Nat) (ha : a < 18446744073709551616) : an a b < 18446744073709551616 := xor_lt64 ha (Nat.lt_of_le_of_lt Nat.and_le_left ha)
theorem andn_u (a b : Nat) (ha : a < 18446744073709551616) (hb : b < 18446744073709551616) : bits .andNot .u64 (a : Int) (b : Int) = ((an a b : Nat) : Int) := by
  have hx := an_lt b ha
  show IntKind.u64.wrap ((BitVec.ofInt 64 (a : Int) &&& ~~~ (BitVec.ofInt 64 (b : Int))).toNat : Int) = _
  have e : (BitVec.ofInt 64 (a : Int) &&& ~~~ (BitVec.ofInt 64 (b : Int))).toNat = an a b := by
    apply Nat.eq_of_testBit_eq
    intro k
    rw [an_bit]
    by_cases hk : k < 64
    · rw [BitVec.testBit_toNat, BitVec.getLsbD_and, BitVec.getLsbD_not, ← BitVec.testBit_toNat, ← BitVec.testBit_toNat, ofI a ha, ofI b hb]
      simp [hk]
    · rw [tb_hi (n := 64) (BitVec.isLt _) (by omega), tb_hi (n := 64) ha (by omega)]; rfl
  rw [e, IntKind.wrap_u64]
  omega
theorem pow_cast (n : Nat) : ((2 ^ n : Nat) : Int) = (2 : Int) ^ n := by simp
theorem pow64 (n : Nat) (h : n < 64) : 2 ^ n < 18446744073709551616 := by
  have : 2 ^ n < 2 ^ 64 := Nat.pow_lt_pow_right (by omega) h
  exact this
theorem mx64 {w : Int} (h : w ≤ 64) : mx w < 18446744073709551616 := by
  have a : mx w < 2 ^ bw w := (mx_lt w _).1 (Nat.le_refl _)
  have b : 2 ^ bw w ≤ 2 ^ 64 := Nat.pow_le_pow_right (by omega) (bw_le w h)
  exact Nat.lt_of_lt_of_le a b
theorem may64 {f : Fc} (h : f.may) : F64 f := by
  obtain ⟨-, h0, a, b, c, d⟩ := h
  have := mx64 h0
  exact ⟨by omega, by omega, by omega, by omega⟩

theorem right_any (a : Int) (w : World) : Calls Tryz.prog 27 #[.int .i64 a] w fun e w' => e = .returned (.bool (decide (1 ≤ a ∧ a ≤ 64))) ∧ w' = w := by
  by_cases h1 : 1 ≤ a
  · by_cases h2 : a ≤ 64
    · have e : decide (1 ≤ a ∧ a ≤ 64) = true := decide_eq_true ⟨h1, h2⟩
      rw [e]; clear e
      go_enter Tryz.func27, Tryz.ntmps27
      go_wp2
      go_ret
      exact ⟨rfl, rfl⟩
    · have e : decide (1 ≤ a ∧ a ≤ 64) = false := decide_eq_false (by omega)
      rw [e]; clear e
      go_enter Tryz.func27, Tryz.ntmps27
      go_wp2
      go_ret
      exact ⟨rfl, rfl⟩
  · have e : decide (1 ≤ a ∧ a ≤ 64) = false := decide_eq_false (by omega)
    rw [e]; clear e
    go_enter Tryz.func27, Tryz.ntmps27
    go_wp2
    go_ret
    exact ⟨rfl, rfl⟩
theorem isw_any (a : Int) (w : World) : Calls Tryz.prog 18 #[.int .i64 a] w fun e w' => e = .returned (.bool (decide (0 ≤ a ∧ a ≤ 64))) ∧ w' = w := by
  by_cases h0 : a = 0
  · subst h0
    go_enter Tryz.func18, Tryz.ntmps18
    go_wp2
    go_ret
    exact ⟨rfl, rfl⟩
  · have HR : Hid (∀ W, Calls Tryz.prog 27 #[.int .i64 a] W fun e w' => e = .returned (.bool (decide (1 ≤ a ∧ a ≤ 64))) ∧ w' = W) := fun W => right_any a W
    have e : decide (1 ≤ a ∧ a ≤ 64) = decide (0 ≤ a ∧ a ≤ 64) := by
      by_cases h : 0 ≤ a ∧ a ≤ 64
      · rw [decide_eq_true h]; exact decide_eq_true (by omega)
      · rw [decide_eq_false h]; exact decide_eq_false (by omega)
    rw [e] at HR
    clear e
    generalize decide (0 ≤ a ∧ a ≤ 64) = b at *
    have q : (a == 0) = false := beq_eq_false_iff_ne.2 h0
    go_enter Tryz.func18, Tryz.ntmps18
    go_wp2_with (go_at_call 27; refine (HR.out _).mono ?_; rintro e w' ⟨rfl, rfl⟩)
    go_ret
    exact ⟨rfl, rfl⟩
theorem mask_u (n : Nat) (h : n < 64) : bits .and .u64 18446744073709551615 (IntKind.u64.wrap (2 ^ n - 1)) = ((2 ^ n - 1 : Nat) : Int) := by
  have hp := Nat.two_pow_pos n
  have hl := pow64 n h
  have e : (2 : Int) ^ n - 1 = ((2 ^ n - 1 : Nat) : Int) := by rw [← pow_cast]; omega
  have e2 : IntKind.u64.wrap (((2 ^ n - 1 : Nat)) : Int) = ((2 ^ n - 1 : Nat) : Int) := by rw [IntKind.wrap_u64]; omega
  rw [e, e2, show (18446744073709551615 : Int) = ((18446744073709551615 : Nat) : Int) from rfl, and_u _ _ (by omega) (by omega)]
  congr 1
  apply Nat.eq_of_testBit_eq
  intro i
  rw [Nat.testBit_and, show (18446744073709551615 : Nat) = 2 ^ 64 - 1 from rfl, Nat.testBit_two_pow_sub_one, Nat.testBit_two_pow_sub_one]
  by_cases hi : i < n
  · simp [hi]; omega
  · simp [hi]
theorem lowest_any (n : Nat) (w : World) (h1 : 1 ≤ n) (h2 : n ≤ 64) : Calls Tryz.prog 28 #[.int .i64 (n : Int)] w fun e w' => e = .returned (uV (2 ^ n - 1)) ∧ w' = w := by
  have HT : Hid (∀ W, Calls Tryz.prog 35 #[.int .i64 (n : Int), .int .u64 18446744073709551615] W fun e w' => e = .returned (uV (2 ^ n - 1)) ∧ w' = W) := fun W => by
    by_cases h3 : n = 64
    · subst h3
      go_enter Tryz.func35, Tryz.ntmps35
      go_wp2
      go_ret
      exact ⟨rfl, rfl⟩
    · have hw : IntKind.u64.wrap (2 ^ n) = 2 ^ n := by
        have hp := pow64 n (by omega)
        rw [← pow_cast, IntKind.wrap_u64]
        generalize 2 ^ n = p at *
        omega
      have hm : Hid (bits .and .u64 18446744073709551615 (IntKind.u64.wrap (2 ^ n - 1)) = ((2 ^ n - 1 : Nat) : Int)) := mask_u n (by omega)
      have q1 : ¬ (n : Int) < 1 := by omega
      have q2 : ¬ (64 : Int) ≤ (n : Int) := by omega
      go_enter Tryz.func35, Tryz.ntmps35
      go_wp2
      go_ret
      exact ⟨ret_int hm.out, rfl⟩
  go_enter Tryz.func28, Tryz.ntmps28
  go_wp2_with (go_at_call 35; refine (HT.out _).mono ?_; rintro e w' ⟨rfl, rfl⟩)
  go_ret
  exact ⟨rfl, rfl⟩
theorem ones_any (a : Int) (w : World) (h1 : 0 ≤ a) (h2 : a ≤ 64) : Calls Tryz.prog 19 #[.int .i64 a] w fun e w' => e = .returned (uV (mx a)) ∧ w' = w := by
  have HL : Hid (∀ W, Calls Tryz.prog 28 #[.int .i64 (bw a : Int)] W fun e w' => e = .returned (uV (mx a)) ∧ w' = W) := fun W => lowest_any (bw a) W (bw_pos a h1) (bw_le a h2)
  generalize mx a = m at *
  by_cases h0 : a = 0
  · subst h0
    have e : bw 0 = 1 := rfl
    rw [e] at HL
    go_enter Tryz.func19, Tryz.ntmps19
    go_wp2_with (go_at_call 28; refine (HL.out _).mono ?_; rintro e w' ⟨rfl, rfl⟩)
    go_ret
    exact ⟨rfl, rfl⟩
  · have e : ((bw a : Nat) : Int) = a := by unfold bw; rw [if_neg h0]; omega
    rw [e] at HL
    have q : max a 1 = a := by omega
    have q2 : ¬ a < 1 := by omega
    have q3 : 1 ≤ a := by omega
    go_enter Tryz.func19, Tryz.ntmps19
    go_wp2_with (go_at_call 28; refine (HL.out _).mono ?_; rintro e w' ⟨rfl, rfl⟩)
    go_ret
    exact ⟨rfl, rfl⟩
end Go.Proofs.YtopdbhkkmolllaaGreatDoor
