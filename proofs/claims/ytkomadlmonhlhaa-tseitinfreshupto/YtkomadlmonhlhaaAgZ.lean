import Derived.Test.YtkomadlmonhlhaaAgY
namespace Go.Proofs.Ytkomadlmonhlhaa
open Go.ChangeShapes Go.WideShapes Go.ChangeAt Go.RowKit Go.Lib Go.Ag Go.WideMaps Go.Maps Go.ChangeMaps Go.Cn

theorem xor_u64 (a b : Nat) (ha : a < 18446744073709551616) (hb : b < 18446744073709551616) : bits .xor .u64 (a : Int) (b : Int) = ((a ^^^ b : Nat) : Int) := by
  have hx : a ^^^ b < 18446744073709551616 := Nat.xor_lt_two_pow (n := 64) ha hb
  have e1 : ∀ c : Nat, c < 18446744073709551616 → (BitVec.ofInt 64 (c : Int)).toNat = c := fun c hc => by rw [BitVec.toNat_ofInt]; omega
  show IntKind.u64.wrap ((BitVec.ofInt 64 (a : Int) ^^^ BitVec.ofInt 64 (b : Int)).toNat : Int) = _
  rw [BitVec.toNat_xor, e1 a ha, e1 b hb, IntKind.wrap_u64]
  omega
theorem and1_u32 (l : Nat) (hl : l < 4294967296) : bits .and .u32 (l : Int) 1 = ((l % 2 : Nat) : Int) := by
  have hx : l &&& 1 = l % 2 := Nat.and_one_is_mod l
  have h1 : (BitVec.ofInt 32 (l : Int)).toNat = l := by rw [BitVec.toNat_ofInt]; omega
  have h2 : (BitVec.ofInt 32 1).toNat = 1 := rfl
  show IntKind.u32.wrap ((BitVec.ofInt 32 (l : Int) &&& BitVec.ofInt 32 1).toNat : Int) = _
  rw [BitVec.toNat_and, h1, h2, IntKind.wrap_u32, hx]
  omega
theorem ret_u64 {a b : Int} (h : a = b) : Ending.returned (.int .u64 a) = .returned (.int .u64 b) := by rw [h]
/-- a literal's rows: its node's, all turned if it is odd -/
def wordN (f : Nat → Nat) (l : Nat) : Nat := f (l / 2) ^^^ (if l % 2 = 1 then 18446744073709551615 else 0)
theorem wordN_lt {f : Nat → Nat} (hf : ∀ i, f i < 18446744073709551616) (l : Nat) : wordN f l < 18446744073709551616 := by
  unfold wordN
  exact Nat.xor_lt_two_pow (n := 64) (hf _) (by split <;> decide)
def wdV (f : Nat → Nat) (i : Nat) : Value := .int .u64 (f i : Int)
set_option maxHeartbeats 4000000 in
set_option maxRecDepth 100000 in
theorem word_any (w : World) {lo P n : Nat} {pg : Nat → Option Nat} {f : Nat → Nat} (h : TB w 116 120 (.int .u64 0) lo P n pg (wdV f)) (hf : ∀ i, f i < 18446744073709551616) (Vb : Nat) (hv : w.heap[Vb]? = some (.cells #[.slice (some ⟨P, 0, none⟩) n n] 163 (0, 0))) (l : Nat) (hl : l < 4294967296) (hn : l / 2 / 1024 < n) :
    Calls Try.prog 88 #[.int .u32 (l : Int), .pointer (some ⟨Vb, 0, none⟩)] w fun e w' => e = .returned (.int .u64 ((wordN f l : Nat) : Int)) ∧ Below w.heap.size w w' := by
  have HO : Hid (∀ W, Below w.heap.size w W → Calls Try.prog 89 #[.agg #[.slice (some ⟨P, 0, none⟩) n n], .int .u32 (l : Int)] W fun e w' => e = .returned (.int .u64 (f (l / 2) : Int)) ∧ Below W.heap.size W w') := fun W hW => ofW_any W (h.over hW) l hl hn
  have c0 : w.cell? ⟨Vb, 0, none⟩ = some (.slice (some ⟨P, 0, none⟩) n n) := ag_cell hv 0
  have hVl : Vb < w.heap.size := (Array.getElem?_eq_some_iff.1 hv).1
  have hA := and1_u32 l hl
  have hfl := hf (l / 2)
  clear h hv
  have HW : Hid (wordN f l = f (l / 2) ^^^ (if l % 2 = 1 then 18446744073709551615 else 0)) := rfl
  generalize f (l / 2) = x at *
  clear hf
  rcases Nat.mod_two_eq_zero_or_one l with e2 | e2
  · rw [e2] at hA
    go_enter Try.func88, Try.ntmps88
    go_wp2_with fail
    refine (HO.out _ (Below.refl _ _)).mono ?_
    rintro e w1 ⟨rfl, hb1⟩
    go_wp2_with fail
    go_ret
    refine ⟨?_, hb1⟩
    rw [HW.out, e2]
    exact ret_u64 (xor_u64 x 0 hfl (by omega))
  · rw [e2] at hA
    have hX : bits .xor .u64 (x : Int) 18446744073709551615 = ((x ^^^ 18446744073709551615 : Nat) : Int) := xor_u64 x 18446744073709551615 hfl (by omega)
    go_enter Try.func88, Try.ntmps88
    go_wp2_with fail
    refine (HO.out _ (Below.refl _ _)).mono ?_
    rintro e w1 ⟨rfl, hb1⟩
    go_wp2_with fail
    go_ret
    refine ⟨?_, hb1⟩
    rw [HW.out, e2]
    exact ret_u64 hX
def Bls (w : World) (ad : Option Addr) (bs : List Bool) : Prop := 0 < bs.length → ∃ b off, ad = some ⟨b, off, none⟩ ∧ b < w.heap.size ∧ ∀ j, j < bs.length → w.cell? ⟨b, off + j, none⟩ = some (.bool (bs.getD j false))
theorem Bls.below {w w' : World} {ad : Option Addr} {bs : List Bool} (h : Bls w ad bs) (hb : Below w.heap.size w w') : Bls w' ad bs := fun h0 => by
  obtain ⟨b, off, e, hlt, hc⟩ := h h0
  exact ⟨b, off, e, Nat.lt_of_lt_of_le hlt hb.size, fun j hj => (World.cell?_of_block (a := ⟨b, off + j, none⟩) (hb.block b hlt)).trans (hc j hj)⟩
set_option maxHeartbeats 4000000 in
set_option maxRecDepth 100000 in
theorem inp_any (w : World) (I : Nat) (ad : Option Addr) (bs : List Bool) (cp : Nat) (hI : w.heap[I]? = some (.cells #[.slice ad bs.length cp] 49 (0, 0))) (hb : Bls w ad bs) (i : Nat) (hi : i < bs.length) (h32 : i < 4294967296) :
    Calls Try.prog 72 #[.int .u32 (i : Int), .pointer (some ⟨I, 0, none⟩)] w fun e w' => e = .returned (.int .u64 ((if bs.getD i false then 1 else 0 : Nat) : Int)) ∧ w' = w := by
  have c0 : w.cell? ⟨I, 0, none⟩ = some (.slice ad bs.length cp) := ag_cell hI 0
  have hIl : I < w.heap.size := (Array.getElem?_eq_some_iff.1 hI).1
  obtain ⟨b, off, rfl, hbl, hc⟩ := hb (by omega)
  have ci := hc i hi
  clear hc hI
  have q1 : (i : Int) < (bs.length : Int) := by omega
  generalize bs.length = n at *
  cases hg : bs.getD i false with
  | true =>
    rw [hg] at ci
    go_enter Try.func72, Try.ntmps72
    go_wp2_with fail
    first | exact ⟨rfl, rfl⟩ | (go_ret; exact ⟨rfl, rfl⟩)
  | false =>
    rw [hg] at ci
    go_enter Try.func72, Try.ntmps72
    go_wp2_with fail
    first | exact ⟨rfl, rfl⟩ | (go_ret; exact ⟨rfl, rfl⟩)
end Go.Proofs.Ytkomadlmonhlhaa
