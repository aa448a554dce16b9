import Derived.Test.YtokpjegiinggdaaDoorAddOld
import Derived.Test.YtokpjegiinggdaaDoorOwn
import Derived.Test.YtokpjegiinggdaaDoorMathL
import Derived.Test.YtokpjegiinggdaaDoorTidy
namespace Go.Proofs.YtokpjegiinggdaaDoor
open Go.ChangeShapes Go.WideShapes Go.ChangeAt Go.RowKit Go.Cn Go.WideMaps Go.Maps

theorem txtL_inj {xs ys : List Int} (h : txtL xs = txtL ys) : xs = ys := text_inj xs ys h
/-- the map of the texts of clauses to their numbers -/
structure TMap (D : DataW Unit) (T : List (List Int)) : Prop where
  isMap : IsMap D
  has : ∀ S, Maps.has D (.string (txtL S)) = decide (S ∈ T)
  val : ∀ i, i < T.length → ∀ zd, D.atKey (.string (txtL (T.getD i []))) zd = .lit (.int .i64 i)
theorem TMap.nil : TMap (.map [] : DataW Unit) [] := ⟨isMap_empty, fun S => rfl, fun i hi => absurd hi (by simp)⟩
theorem isMap_put {D : DataW Unit} (h : IsMap D) (k : Lit) (d : DataW Unit) : IsMap (D.put k d) := by
  obtain ⟨es, rfl⟩ := h
  exact ⟨_, rfl⟩
theorem TMap.put {D : DataW Unit} {T : List (List Int)} (h : TMap D T) {S : List Int} (hS : S ∉ T) : TMap (D.put (.string (txtL S)) (.lit (.int .i64 T.length))) (T ++ [S]) := by
  refine ⟨isMap_put h.isMap _ _, fun S' => ?_, fun i hi zd => ?_⟩
  · by_cases e : S' = S
    · subst e
      rw [has_put_same h.isMap (by trivial)]
      simp
    · rw [has_put_other (fun e2 => e (txtL_inj (by simpa using e2))), h.has S']
      simp [e]
  · by_cases hlt : i < T.length
    · rw [getD_snoc_lt T S [] i hlt]
      have hm : T.getD i [] ∈ T := by rw [List.getD_eq_getElem?_getD, List.getElem?_eq_getElem hlt]; exact List.getElem_mem _
      rw [atKey_put_other (fun e2 => hS (by have := txtL_inj (by simpa using e2 : txtL (T.getD i []) = txtL S); rw [← this]; exact hm)), h.val i hlt zd]
    · have e : i = T.length := by simp at hi; omega
      subst e
      rw [getD_snoc_last T S [], atKey_put_same h.isMap (by trivial)]
theorem row_gkept {w w' : World} {B B' G M m n : Nat} {v y : Value} {ps : List (Value × Int)} {lits : Int} {over : Bool} {D : DataW Unit} {L : List Value} (h : w.ownsRow B' 3 1 y n L) (hk : GKept w w' G M v) (hg : Gath w B G M v ps lits over m D) : w'.ownsRow B' 3 1 y n L := by
  refine ⟨h.1, ?_⟩
  have n1 := row_ne_blk h hg.blk (by decide)
  have n2 := row_ne_map h hg.map
  rcases h.2 with h0 | ⟨g, cap, cur, e, h2, h3, h4⟩
  · exact Or.inl h0
  · refine Or.inr ⟨g, cap, cur, e, h2, ?_, h4⟩
    have n3 : v.ownBlock ≠ some g := row_ne_blk hg.row h3 (by decide)
    rw [e] at n1 n2
    rw [hk.block g (Array.getElem?_eq_some_iff.1 h3).1 (fun e2 => n1 (by rw [e2]; rfl)) (fun e2 => n2 (by rw [e2]; rfl)) (fun e2 => n3 e2.symm)]
    exact h3
/-- the gathering behind k clauses -/
structure TSt (w : World) (B G M : Nat) (v : Value) (pl : List Pl) (T : List (List Int)) (k : Nat) (D : DataW Unit) : Prop where
  gath : Gath w B G M v (pl.map slP) (((T.map List.length).sum : Nat) : Int) false T.length D
  len : pl.length = T.length
  each : ∀ j, j < T.length → w.ownsRow B 3 1 ((pl.map slV).getD j (.slice none 0 0)) (T.getD j []).length ((T.getD j []).map (Value.int .i64))
  rise : pl.Pairwise fun a b => a.2.val < b.2.val
  bound : ∀ p ∈ pl, p.2.val < k
  tm : TMap D T
theorem TSt.below {w w' : World} {B G M k : Nat} {v : Value} {pl : List Pl} {T : List (List Int)} {D : DataW Unit} (h : TSt w B G M v pl T k D) (hb : Below w.heap.size w w') : TSt w' B G M v pl T k D :=
  ⟨h.gath.below hb, h.len, fun j hj => own_below (h.each j hj) hb, h.rise, h.bound, h.tm⟩
theorem TSt.more {w : World} {B G M k : Nat} {v : Value} {pl : List Pl} {T : List (List Int)} {D : DataW Unit} (h : TSt w B G M v pl T k D) : TSt w B G M v pl T (k + 1) D :=
  ⟨h.gath, h.len, h.each, h.rise, fun p hp => Nat.lt_succ_of_lt (h.bound p hp), h.tm⟩
end Go.Proofs.YtokpjegiinggdaaDoor
