import Derived.Test.YtokpjegiinggdaaDoorTMap
import Derived.Test.YtokpjegiinggdaaDoorNil
import Derived.Test.YtokpjegiinggdaaDoorLendF
import Derived.Test.YtokpjegiinggdaaDoorLive
namespace Go.Proofs.YtokpjegiinggdaaDoor
open Go.ChangeShapes Go.WideShapes Go.ChangeAt Go.RowKit Go.Cn Go.WideMaps Go.Maps

theorem hsort_all {w : World} {B G M n : Nat} {v : Value} {pl : List Pl} {lits : Int} {over : Bool} {D : DataW Unit} (h : Gath w B G M v (pl.map slP) lits over n D) (hn : pl.length ≤ 1048576) (hr : pl.Pairwise fun a b => a.2.val < b.2.val) :
    ∀ W, Below w.heap.size w W → Calls Tryd.prog 59 #[v, .func (.func 60) #[] #[]] W fun e w' => e = .returned (.tuple #[]) ∧ Below W.heap.size W w' := by
  by_cases h0 : 0 < pl.length
  · exact hsort_of h hn h0 hr
  · intro W hW
    obtain ⟨p, cap, rfl⟩ : ∃ p cap, v = .slice p 0 cap := by
      rcases h.row.2 with ⟨e, _⟩ | ⟨g, cap, cur, e, _⟩
      · exact ⟨none, 0, e⟩
      · simp only [List.length_map] at e
        exact ⟨_, cap, by rw [e]; congr 1; omega⟩
    have hs := AnyF.slices_SortFunc_none (P := Tryd.prog) Tryd.sortP p cap (.func (.func 60) #[] #[]) W
    exact hs.mono fun e w' ⟨he, hw⟩ => ⟨he, by rw [hw]; exact Below.refl _ _⟩
theorem TSt.new {w w' : World} {B G M k : Nat} {v v' : Value} {pl : List Pl} {T : List (List Int)} {D : DataW Unit} (h : TSt w B G M v pl T k D) {a2 : Option Addr} {c2 : Nat} {S : List Int} (hk : k < 4611686018427387904) (hS : S ∉ T)
    (hx : w.ownsRow B 3 1 (.slice a2 S.length c2) S.length (S.map (Value.int .i64))) (hg : Gath w' B G M v' (pl.map slP ++ [(.slice a2 S.length c2, (k : Int))]) ((((T.map List.length).sum : Nat) : Int) + S.length) false (T.length + 1) (D.put (.string (txtL S)) (.lit (.int .i64 ((pl.map slP).length : Nat))))) (hkp : GKept w w' G M v) :
    TSt w' B G M v' (pl ++ [((a2, S.length, c2), ⟨k, hk⟩)]) (T ++ [S]) (k + 1) (D.put (.string (txtL S)) (.lit (.int .i64 (T.length : Nat)))) := by
  refine ⟨?_, by simp [h.len], fun j hj => ?_, ?_, ?_, h.tm.put hS⟩
  · have e1 : (pl ++ [((a2, S.length, c2), (⟨k, hk⟩ : Fin 4611686018427387904))]).map slP = pl.map slP ++ [(.slice a2 S.length c2, (k : Int))] := by simp [slP]
    have e2 : ((((T ++ [S]).map List.length).sum : Nat) : Int) = (((T.map List.length).sum : Nat) : Int) + S.length := by simp
    have e3 : (T ++ [S]).length = T.length + 1 := by simp
    rw [e1, e2, e3]
    have e4 : (pl.map slP).length = T.length := by rw [List.length_map, h.len]
    rw [e4] at hg
    exact hg
  · have e5 : (pl ++ [((a2, S.length, c2), (⟨k, hk⟩ : Fin 4611686018427387904))]).map slV = pl.map slV ++ [.slice a2 S.length c2] := by simp [slV]
    rw [e5]
    by_cases hlt : j < T.length
    · rw [getD_snoc_lt _ _ _ j (by rw [List.length_map, h.len]; exact hlt), getD_snoc_lt _ _ _ j hlt]
      exact row_gkept (h.each j hlt) hkp h.gath
    · have e : j = T.length := by simp at hj; omega
      subst e
      rw [getD_snoc_last T S []]
      have e6 : T.length = (pl.map slV).length := by rw [List.length_map, h.len]
      rw [e6, getD_snoc_last]
      exact row_gkept hx hkp h.gath
  · rw [List.pairwise_append]
    refine ⟨h.rise, by simp, fun a ha b hb => ?_⟩
    simp at hb
    subst hb
    exact h.bound a ha
  · intro p hp
    rcases List.mem_append.1 hp with hp | hp
    · exact Nat.lt_succ_of_lt (h.bound p hp)
    · simp at hp
      subst hp
      exact Nat.lt_succ_self k
def TdPost (vars : Int) (cs : List (List Int)) (w : World) : Ending → World → Prop := fun e w' =>
  ∃ v L, e = .returned (.tuple #[.agg #[.int .i64 (tdV vars cs), v], .int .i64 (ck vars cs).2]) ∧ OwnL w' w.heap.size v L (tdC vars cs) ∧ Below w.heap.size w w'
end Go.Proofs.YtokpjegiinggdaaDoor
