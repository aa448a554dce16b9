import Derived.Test.YtkomadlmonhlhaaAgK
import Derived.Test.YtkomadlmonhlhaaAgP
namespace Go.Proofs.Ytkomadlmonhlhaa
open Go.ChangeShapes Go.WideShapes Go.ChangeAt Go.RowKit Go.Lib Go.Ag Go.WideMaps Go.Maps Go.ChangeMaps Go.Cn

set_option maxRecDepth 100000 in
theorem ones_any (x : Nat) (hx : x < 18446744073709551616) (w : World) : Calls Try.prog 82 #[.int .u64 (x : Int)] w fun e w' => e = .returned (.int .i64 (pc 64 x : Nat)) ∧ w' = w := by
  obtain ⟨u, hu, hlt, hm⟩ := ones_eq x hx
  have ha := and127 u hlt
  have H1 : Hid (o6 (o5 (o4 (o3 (o2 (o1 x))))) = (u : Int)) := hu
  have H2 : Hid (bits BinOp.and IntKind.i64 (u : Int) 127 = ((u % 128 : Nat) : Int)) := ha
  have H3 : Hid (u % 128 = pc 64 x) := hm
  clear hu ha hm
  have h0 : (0 : Int) ≤ (x : Int) := by omega
  have h1 : (x : Int) ≤ 18446744073709551615 := by omega
  go_enter Try.func82, Try.ntmps82
  go_wp2
  go_ret
  refine ⟨?_, rfl⟩
  refine ag_reti ?_
  show bits BinOp.and IntKind.i64 (wrap64 (o6 (o5 (o4 (o3 (o2 (o1 x))))))) 127 = _
  rw [H1.out, show wrap64 (u : Int) = (u : Int) by unfold wrap64; omega, H2.out, H3.out]
/-- the gates ahead of a place of its block -/
theorem cnt_bits (ns : Nds) (j : Nat) : ∀ r, cntG ns (64 * j + r) = cntG ns (64 * j) + cnt (fun i => (ns.getD (64 * j + i) none).isSome) r
  | 0 => by simp [cnt]
  | r + 1 => by
    have ih := cnt_bits ns j r
    have e : cnt (fun i => (ns.getD (64 * j + i) none).isSome) (r + 1) = cnt (fun i => (ns.getD (64 * j + i) none).isSome) r + ((ns.getD (64 * j + r) none).isSome).toNat := rfl
    rw [e, show 64 * j + (r + 1) = 64 * j + r + 1 by omega]
    rw [← Nat.add_assoc (cntG ns (64 * j)), ← ih]
    by_cases h : 64 * j + r < ns.length
    · rw [cntG_succ ns _ h]
      rw [List.getD_eq_getElem?_getD, List.getElem?_eq_getElem h]
      show _ = _ + ((ns[64 * j + r]).isSome).toNat
      cases (ns[64 * j + r]).isSome <;> rfl
    · have e1 : cntG ns (64 * j + r + 1) = cntG ns (64 * j + r) := by
        unfold cntG
        rw [List.take_of_length_le (by omega), List.take_of_length_le (by omega)]
      rw [e1, List.getD_eq_getElem?_getD, List.getElem?_eq_none (by omega)]
      rfl
theorem pc_low (x r : Nat) (hr : r ≤ 64) : pc 64 (x &&& (2 ^ r - 1)) = cnt (fun b => x.testBit b) r := by
  rw [Nat.and_two_pow_sub_one_eq_mod, pc_cnt]
  have e64 : 64 = r + (64 - r) := by omega
  rw [e64, cnt_add]
  have h1 : cnt (fun b => (x % 2 ^ r).testBit b) r = cnt (fun b => x.testBit b) r := cnt_congr r (fun b hb => by rw [Nat.testBit_mod_two_pow]; simp [hb])
  have h2 : ∀ n, cnt (fun b => (x % 2 ^ r).testBit (r + b)) n = 0 := by
    intro n
    have := cnt_congr (P := fun b => (x % 2 ^ r).testBit (r + b)) (Q := fun _ => false) n (fun b hb => by show (x % 2 ^ r).testBit (r + b) = false; rw [Nat.testBit_mod_two_pow, decide_eq_false (by omega)]; rfl)
    rw [this]
    induction n with
    | zero => rfl
    | succ n ih => show cnt (fun _ => false) n + _ = 0; rw [ih (cnt_congr n (fun b hb => by show (x % 2 ^ r).testBit (r + b) = false; rw [Nat.testBit_mod_two_pow, decide_eq_false (by omega)]; rfl))]; rfl
  rw [h1, h2]
  rfl
theorem ones_block (ns : Nds) (j r : Nat) (hr : r ≤ 64) : cntG ns (64 * j) + pc 64 (bitsB ns j 64 &&& (2 ^ r - 1)) = cntG ns (64 * j + r) := by
  rw [pc_low _ _ hr, cnt_bits]
  congr 1
  exact cnt_congr r (fun b hb => bitsB_bit ns j 64 b (by omega))
end Go.Proofs.Ytkomadlmonhlhaa
