import Derived.Test.YtkomadlmonhlhaaTsY
namespace Go.Proofs.Ytkomadlmonhlhaa
open Go.ChangeShapes Go.WideShapes Go.ChangeAt Go.RowKit Go.Lib Go.Ag Go.WideMaps Go.Maps Go.ChangeMaps Go.Cn

theorem clG_sub (f : Nat → Nat) (g : GT) : (clG f g).Sublist (clG allM g) := by
  unfold clG
  rw [if_pos (allM_has _), if_pos (allM_has _)]
  refine List.Sublist.append ?_ ?_
  · split
    · exact List.Sublist.refl _
    · exact List.nil_sublist _
  · split
    · exact List.Sublist.refl _
    · exact List.nil_sublist _
theorem clGs_sub (f : Nat → Nat) : ∀ gs : List GT, (gs.flatMap (clG f)).Sublist (gs.flatMap (clG allM))
  | [] => List.Sublist.refl _
  | g :: gs => by
    rw [List.flatMap_cons, List.flatMap_cons]
    exact List.Sublist.append (clG_sub f g) (clGs_sub f gs)
theorem pol_sub (ns : Nds) (ls : List Nat) : (clsP ns ls).Sublist (clsE ns ls) := List.Sublist.append (clGs_sub _ _) (List.Sublist.refl _)
theorem sub_skip {α : Type} {p f : α} {P F : List α} (h : (p :: P).Sublist (f :: F)) (hn : f ≠ p) : (p :: P).Sublist F := by
  cases h with
  | cons _ h => exact h
  | cons_cons _ h => exact absurd rfl hn
theorem cone_few {ns : Nds} (hg : GS ns) {ls : List Nat} (hl : ∀ l ∈ ls, l / 2 ≤ ns.length) : (coneS ns ls).2.length ≤ ns.length := by
  have h := (si_cone (gs_wf hg) (m := ns.length) ls (met0, []) hl (SI.start _)).cl
  have h2 : (coneS ns ls).2.length + cntU (coneS ns ls).1 ns.length ≤ ns.length := h
  omega
theorem cls_few {ns : Nds} (hg : GS ns) {ls : List Nat} (hl : ∀ l ∈ ls, l / 2 ≤ ns.length) (f : Nat → Nat) : (clsN f (coneS ns ls).2 ls (gts ns (coneS ns ls).2 (coneS ns ls).2.length)).length ≤ 3 * ns.length + ls.length := by
  have h1 := cone_few hg hl
  have h2 := gts_len ns (coneS ns ls).2 (coneS ns ls).2.length
  have h3 := clG_few f (gts ns (coneS ns ls).2 (coneS ns ls).2.length)
  have h4 := clR_few (coneS ns ls).2 ls
  unfold clsN
  rw [List.length_append]
  omega
/-- a clause of those that were told -/
theorem ENC.at_ {w w' : World} {cn : List Nat} {cls : List (List Int)} {aL : Option Addr} {cL : Nat} {vC : Value} (h : ENC w w' cn cls (.slice aL cls.length cL) vC) {i : Nat} (hi : i < cls.length) : ∃ g ad c, aL = some ⟨g, 0, none⟩ ∧ w'.cell? ⟨g, i, none⟩ = some (.slice ad (cls.getD i []).length c) ∧ Is w' ad (cls.getD i []) := by
  obtain ⟨ads, bk, hr, hc⟩ := h.cl
  obtain ⟨a2, c2, e, _, h3⟩ := row_form hr
  cases e
  obtain ⟨g, rfl⟩ := h3 (by omega)
  have hcell := hr.cellAt i (by have := hr.1; omega)
  by_cases he : cls.getD i [] = []
  · refine ⟨g, none, 0, rfl, ?_, ?_⟩
    · rw [hcell, hc.nil i hi he, he]
      rfl
    · rw [he]
      intro h0
      simp at h0
  · obtain ⟨k1, k2, k3⟩ := hc.row i hi he
    refine ⟨g, _, _, rfl, hcell.trans k1, fun h0 => ⟨bk i, 0, rfl, (Array.getElem?_eq_some_iff.1 k3).1, fun j hj => ?_⟩⟩
    rw [Nat.zero_add, ag_cell k3]
    unfold intV
    generalize cls.getD i [] = c at *
    rw [List.getElem?_toArray, List.getElem?_map, List.getElem?_eq_getElem hj, List.getD_eq_getElem?_getD, List.getElem?_eq_getElem hj]
    rfl
theorem drop_cons {α : Type} {l : List α} {i : Nat} (d : α) (h : i < l.length) : l.drop i = l.getD i d :: l.drop (i + 1) := by
  rw [List.drop_eq_getElem_cons h, List.getD_eq_getElem?_getD, List.getElem?_eq_getElem h]
  rfl
theorem cls_len3 {ls : List Nat} {f : Nat → Nat} {cn : List Nat} {gs : List GT} : ∀ c ∈ clsN f cn ls gs, c.length ≤ 3 := by
  intro c hc
  unfold clsN at hc
  rcases List.mem_append.1 hc with h | h
  · obtain ⟨g, _, h2⟩ := List.mem_flatMap.1 h
    unfold clG at h2
    rcases List.mem_append.1 h2 with h3 | h3
    · split at h3
      · simp at h3; rcases h3 with rfl | rfl <;> simp
      · simp at h3
    · split at h3
      · simp at h3; subst h3; simp
      · simp at h3
  · obtain ⟨l, _, h2⟩ := List.mem_flatMap.1 h
    unfold clR at h2
    split at h2
    · simp at h2; subst h2; simp
    · split at h2
      · simp at h2
      · simp at h2; subst h2; simp
theorem getD_len3 {cls : List (List Int)} (h : ∀ c ∈ cls, c.length ≤ 3) (i : Nat) : (cls.getD i []).length ≤ 1000000000000 := by
  by_cases hi : i < cls.length
  · have := h (cls.getD i []) (by rw [List.getD_eq_getElem?_getD, List.getElem?_eq_getElem hi]; exact List.getElem_mem _)
    omega
  · rw [List.getD_eq_getElem?_getD, List.getElem?_eq_none (by omega)]
    simp
end Go.Proofs.Ytkomadlmonhlhaa
