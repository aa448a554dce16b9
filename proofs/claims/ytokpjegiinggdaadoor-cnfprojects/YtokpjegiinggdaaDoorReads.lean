import Derived.Test.YtokpjegiinggdaaDoorWalks
import Derived.Test.YtokpjegiinggdaaDoorMathF
import Derived.Deep.Draws
import Derived.Deep.QuietTactic
namespace Go.Proofs.YtokpjegiinggdaaDoor
open Go.ChangeShapes Go.WideShapes Go.ChangeAt Go.RowKit Go.Cn

/-- a slice's numbers: nil, empty or not -/
def Ints (w : World) (ad : Option Addr) (xs : List Int) : Prop :=
  0 < xs.length → ∃ b off, ad = some ⟨b, off, none⟩ ∧ b < w.heap.size ∧ ∀ j, j < xs.length → w.cell? ⟨b, off + j, none⟩ = some (.int .i64 (xs.getD j 0))
theorem Ints.below {w w' : World} {ad : Option Addr} {xs : List Int} (h : Ints w ad xs) (hb : Below w.heap.size w w') : Ints w' ad xs := by
  intro h0
  obtain ⟨b, off, e, hlt, hc⟩ := h h0
  exact ⟨b, off, e, Nat.lt_of_lt_of_le hlt hb.size, fun j hj => (hb.cell (p := ⟨b, off + j, none⟩) hlt).trans (hc j hj)⟩
theorem Ints.drewN {w : World} {ad : Option Addr} {xs : List Int} (h : Ints w ad xs) (n : Nat) : Ints (w.drewN n) ad xs := h

set_option maxHeartbeats 1000000 in
theorem rhas_any (ad : Option Addr) (xs : List Int) (c : Nat) (l : Int) (w : World) (h : Ints w ad xs) (hl : xs.length ≤ 1000000000000000000) :
    Calls Tryd.prog 13 #[.slice ad xs.length c, .int .i64 l] w fun e w' => e = .returned (.bool (decide (l ∈ xs))) ∧ w' = w := by
  have HI : Aside (Ints w ad xs) := h
  clear h
  generalize hr : decide (l ∈ xs) = r
  have HR : Aside (decide (l ∈ xs) = r) := hr
  clear hr
  generalize hn : xs.length = n
  have HL : Aside (xs.length = n) := hn
  rw [hn] at hl
  clear hn
  go_enter Tryd.func13, Tryd.ntmps13
  go_wp2
  go_loopg [5] n (fun gk i wr => ∃ k : Nat, i = .int .i64 k ∧ k + gk = n ∧ w = wr ∧ Aside (∀ j, j < k → xs.getD j 0 ≠ l))
  case atStart => exact ⟨0, rfl, by omega, rfl, fun j hj => absurd hj (Nat.not_lt_zero _)⟩
  case round =>
    obtain ⟨k, rfl, hk, rfl, HN⟩ := hrel
    by_cases hlt : k < n
    · obtain ⟨b, off, rfl, hb, hc⟩ := HI.out (by rw [HL.out]; omega)
      have ck := hc k (by rw [HL.out]; omega)
      obtain ⟨y, hy⟩ : ∃ y, xs.getD k 0 = y := ⟨_, rfl⟩
      rw [hy] at ck
      have HY : Aside (xs.getD k 0 = y) := hy
      clear hy hc
      by_cases he : y = l
      · have hx : l ∈ xs := by rw [← he, ← HY.out]; exact getD_mem (by rw [HL.out]; exact hlt)
        have HX : Aside (r = true) := by show r = true; rw [← HR.out]; simpa using hx
        subst he
        clear hx
        go_wp2
        go_ret
        exact ⟨ret_bool HX.out.symm, rfl⟩
      · have heb : (y == l) = false := by simpa using he
        have HN2 : Aside (∀ j, j < k + 1 → xs.getD j 0 ≠ l) := by
          intro j hj
          by_cases h1 : j < k
          · exact HN.out j h1
          · have : j = k := by omega
            subst this
            rw [HY.out]; exact he
        clear he
        go_wp2
        go_roundg (gk - 1)
        case measure => omega
        case rel => exact ⟨k + 1, by simp, by omega, rfl, HN2⟩
    · have HX : Aside (r = false) := by
        show r = false
        rw [← HR.out]
        simp only [decide_eq_false_iff_not]
        intro hm
        obtain ⟨i, hi, ei⟩ := mem_getD hm
        exact HN.out i (by rw [HL.out] at hi; omega) ei
      go_wp2
      go_ret
      exact ⟨ret_bool HX.out.symm, rfl⟩
end Go.Proofs.YtokpjegiinggdaaDoor
