import Derived.Test.YtkpapgfbnledpaaGreatDoorEwR
import Derived.Test.YtkpapgfbnledpaaGreatDoorTmPi
namespace Go.Proofs.YtkpapgfbnledpaaGreatDoor.GI
open Go.Proofs.YtkpapgfbnledpaaGreatDoor
open Go.ChangeShapes Go.WideShapes Go.ChangeAt Go.RowKit Go.Lib Go.Tm Go.Bw Go.Bn Go.WideMaps Go.Maps Go.ChangeMaps Go.Shelf
attribute [local go_sem] Oper.semAt_some

/-- what is noted where each term becomes itself; none: a part is not noted yet -/
def idS (L : List Nd) (f : Nat → Nat) (t : Nat) : Option (Nat → Nat) := if f (pA L t) = pA L t ∧ f (pB L t) = pB L t ∧ f (pC L t) = pC L t then some (fun y => if y = t then t else f y) else none
def idF (L : List Nd) {O : List Nat} (pre : List (ET O)) : Option (Nat → Nat) := pre.foldl (fun o x => o.bind fun f => idS L f x.1) (some fun _ => 0)
theorem idF_snoc (L : List Nd) {O : List Nat} (pre : List (ET O)) (x : ET O) : idF L (pre ++ [x]) = (idF L pre).bind fun f => idS L f x.1 := by
  unfold idF
  rw [List.foldl_append]
  rfl
theorem idF_or (L : List Nd) {O : List Nat} : ∀ (n : Nat) (pre : List (ET O)), pre.length = n → ∀ f, idF L pre = some f → ∀ y, (f y = y ∨ f y = 0) ∧ ((∃ x ∈ pre, x.1 = y) → f y = y) := by
  intro n
  induction n with
  | zero =>
    intro pre hl f hf y
    obtain rfl := List.eq_nil_of_length_eq_zero hl
    obtain rfl := Option.some.inj hf
    exact ⟨Or.inr rfl, fun ⟨x, hx, _⟩ => by cases hx⟩
  | succ n ih =>
    intro pre hl f hf y
    obtain ⟨pre, x, rfl⟩ : ∃ p x, pre = p ++ [x] := by
      rcases List.eq_nil_or_concat pre with rfl | ⟨p, x, e⟩
      · simp at hl
      · exact ⟨p, x, by rw [e, List.concat_eq_append]⟩
    rw [idF_snoc] at hf
    cases hg : idF L pre with
    | none => rw [hg] at hf; cases hf
    | some g =>
      rw [hg] at hf
      have hf2 : idS L g x.1 = some f := hf
      unfold idS at hf2
      split at hf2
      · obtain rfl := Option.some.inj hf2
        have h1 := ih pre (by simp at hl; exact hl) g hg y
        dsimp only
        by_cases e : y = x.1
        · rw [if_pos e]
          exact ⟨Or.inl e.symm, fun _ => e.symm⟩
        · rw [if_neg e]
          refine ⟨h1.1, fun ⟨z, hz, hzy⟩ => ?_⟩
          rcases List.mem_append.1 hz with hz | hz
          · exact h1.2 ⟨z, hz, hzy⟩
          · rw [List.mem_singleton.1 hz] at hzy
            exact absurd hzy.symm e
      · cases hf2
theorem idF_take {L : List Nd} {O : List Nat} (hw : PW L O []) : ∀ k, idF L (O.attach.take k) ≠ none := by
  intro k
  induction k with
  | zero => intro h; rw [List.take_zero] at h; cases h
  | succ k ih =>
    by_cases hk : k < O.length
    · rw [att_next hk, idF_snoc]
      cases hg : idF L (O.attach.take k) with
      | none => exact absurd hg ih
      | some f =>
        have hor := idF_or L _ _ rfl f hg
        have hp : ∀ p, (0 < p → isP L (O.getD k 0) p) → f p = p := fun p hp => by
          by_cases h0 : p = 0
          · subst h0
            rcases (hor 0).1 with h | h <;> exact h
          · have e : O = O.take k ++ O.getD k 0 :: O.drop (k + 1) := by
              have h1 := (List.take_append_drop k O).symm
              rw [List.drop_eq_getElem_cons hk] at h1
              rw [List.getD_eq_getElem?_getD, List.getElem?_eq_getElem hk]
              exact h1
            have h2 := hw.cl _ _ _ e p (hp (by omega))
            refine (hor p).2 ?_
            obtain ⟨i, hi, hi2⟩ := List.getElem_of_mem h2
            have hi3 : i < k ∧ i < O.length := by rw [List.length_take] at hi; omega
            refine ⟨⟨O.getD i 0, by rw [List.getD_eq_getElem?_getD, List.getElem?_eq_getElem hi3.2]; exact List.getElem_mem hi3.2⟩, ?_, ?_⟩
            · rw [List.mem_iff_getElem]
              refine ⟨i, by simp; omega, ?_⟩
              apply Subtype.ext
              show _ = O.getD i 0
              rw [List.getD_eq_getElem?_getD, List.getElem?_eq_getElem hi3.2]
              simp
            · show O.getD i 0 = p
              rw [List.getD_eq_getElem?_getD, List.getElem?_eq_getElem hi3.2]
              rw [List.getElem_take] at hi2
              exact hi2
        have h9 : idS L f (O.getD k 0) ≠ none := by
          unfold idS
          rw [if_pos ⟨hp _ (fun h => ⟨h, Or.inl rfl⟩), hp _ (fun h => ⟨h, Or.inr (Or.inl rfl)⟩), hp _ (fun h => ⟨h, Or.inr (Or.inr rfl)⟩)⟩]
          intro h
          cases h
        exact h9
    · rw [List.take_of_length_le (by simp; omega)]
      rw [List.take_of_length_le (by simp; omega)] at ih
      exact ih
/-- a node that wants a part that is none is refused -/
theorem rfE_hp {L : List Nd} {n : Nd} (h : hp L n = false) : rfE L n ≠ 0 := by
  unfold rfE
  split
  · decide
  · split
    · decide
    · first
        | decide
        | (rw [if_pos h]; decide)
theorem isT_0 (L : List Nd) : isT L 0 = false := by
  unfold isT
  simp
theorem hp_of {L : List Nd} {n : Nd} (h : (1 ≤ pt n.op ∧ n.a = 0) ∨ (2 ≤ pt n.op ∧ n.b = 0) ∨ (3 ≤ pt n.op ∧ n.c = 0)) : hp L n = false := by
  unfold hp
  rcases h with ⟨h1, h2⟩ | ⟨h1, h2⟩ | ⟨h1, h2⟩
  · rw [h2, isT_0, decide_eq_false (by omega)]
    rfl
  · rw [h2, isT_0, decide_eq_false (p := pt n.op < 2) (by omega)]
    simp
  · rw [h2, isT_0, decide_eq_false (p := pt n.op < 3) (by omega)]
    simp
end Go.Proofs.YtkpapgfbnledpaaGreatDoor.GI
namespace Go.Proofs.YtkpapgfbnledpaaGreatDoor.GI
open Go.Proofs.YtkpapgfbnledpaaGreatDoor
open Go.ChangeShapes Go.WideShapes Go.ChangeAt Go.RowKit Go.Lib Go.Tm Go.Bw Go.Bn Go.WideMaps Go.Maps Go.ChangeMaps Go.Shelf
attribute [local go_sem] Oper.semAt_some

theorem mk_ref {lim : Int} {L : List Nd} {n : Nd} (h : rfE L n ≠ 0) : (mk lim L n).2.2 ≠ 0 := by
  unfold mk
  rw [if_pos h]
  exact h
theorem i64_n {y : Nat} (h : y ≤ 1000000000000) : I64 (y : Int) := by unfold I64; omega
/-- what remade asks, where each term becomes itself -/
theorem rmh_id {aO : Option Addr} {B0 B Mi p1 p2 : Nat} {lim : Int} {L : List Nd} {O : List Nat} {v : Value} {M1 M2 : Option Nat} (w : World) (hS : SM 78 w B0 B lim L v M1 M2) (hB0 : B0 ≤ w.heap.size) (hP : PARS L) (hl : L.length < 1000000000000) (hM : INS w Mi 0 (fun _ => none)) (hW : PW L O []) (hO : OR w aO O)
    (h1 : w.cell? ⟨p1, 0, none⟩ = some (.map (some Mi))) (h2 : w.cell? ⟨p2, 0, none⟩ = some (.pointer (some ⟨B, 0, none⟩))) : RMH w B p1 p2 aO L O (idF L) (fun _ _ W => Below w.heap.size w W) := by
  obtain ⟨g, hSR, _, _⟩ := hS.sr
  have hlO : O.length ≤ L.length := by have := hW.len; simpa using this
  have hpar := hP.1
  have hmx : mxN O ≤ 1000000000000 := mxN_le (fun x hx => by have := (hW.ob x hx).2; omega)
  refine ⟨hW.ob, by omega, hmx, fun t ht => ?_, fun q pre W hb => ⟨⟨g, L, hSR.below hb, fun t ht => ⟨(hW.ob t ht).2, rfl⟩⟩, hO.below hb⟩, rfl, idF_take hW, fun q W _ _ hb => hb, fun q pre W W' hq hb hf => ?_, fun q pre x f W hq hb hf hlt => ?_⟩
  · have hp := hpar (t - 1) (by have := hW.ob t ht; omega)
    have := mxN_ge ht
    have := hW.ob t ht
    unfold pA pB pC
    omega
  · exact ⟨hf.os.trans hb.os, hf.tape.trans hb.tape, hf.output.trans hb.output, Nat.le_trans hb.size hf.size, fun j hj => (hf.block j (Nat.lt_of_lt_of_le hj hb.size) (by omega) (Or.inl hj)).trans (hb.block j hj)⟩
  · have hx := hW.ob x.1 x.2
    have hp := hpar (x.1 - 1) (by omega)
    have hmem : L.getD (x.1 - 1) z0 ∈ L := by
      rw [List.getD_eq_getElem?_getD, List.getElem?_eq_getElem (by omega)]
      exact List.getElem_mem _
    have hshp := hP.2 _ hmem
    have hok := hS.okL _ hmem
    have hor := fun y => (idF_or L _ pre rfl f hf y).1
    have eA : (L.getD (x.1 - 1) z0).a = ((pA L x.1 : Nat) : Int) := by unfold pA; omega
    have eB : (L.getD (x.1 - 1) z0).b = ((pB L x.1 : Nat) : Int) := by unfold pB; omega
    have eC : (L.getD (x.1 - 1) z0).c = ((pC L x.1 : Nat) : Int) := by unfold pC; omega
    have lA : pA L x.1 ≤ 1000000000000 := by omega
    have lB : pB L x.1 ≤ 1000000000000 := by omega
    have lC : pC L x.1 ≤ 1000000000000 := by omega
    have hfl : ∀ y, y ≤ 1000000000000 → f y ≤ 1000000000000 := fun y hy => by rcases hor y with h | h <;> omega
    have hsn : idF L (pre ++ [x]) = idS L f x.1 := by rw [idF_snoc, hf]; rfl
    unfold idS at hsn
    have hbs := hb.size
    have hmk : ¬ (f (pA L x.1) = pA L x.1 ∧ f (pB L x.1) = pB L x.1 ∧ f (pC L x.1) = pC L x.1) → rfE L (npN (L.getD (x.1 - 1) z0) (f (pA L x.1)) (f (pB L x.1)) (f (pC L x.1))) ≠ 0 := fun hne => by
      refine rfE_hp (hp_of ?_)
      show (1 ≤ pt (L.getD (x.1 - 1) z0).op ∧ ((f (pA L x.1) : Nat) : Int) = 0) ∨ (2 ≤ pt (L.getD (x.1 - 1) z0).op ∧ ((f (pB L x.1) : Nat) : Int) = 0) ∨ (3 ≤ pt (L.getD (x.1 - 1) z0).op ∧ ((f (pC L x.1) : Nat) : Int) = 0)
      have sa := hshp.a.2
      have sb := hshp.b.2
      have sc := hshp.c.2
      have ha := hor (pA L x.1)
      have hb := hor (pB L x.1)
      have hc := hor (pC L x.1)
      rw [eA] at sa
      rw [eB] at sb
      rw [eC] at sc
      by_cases q1 : f (pA L x.1) = pA L x.1
      · by_cases q2 : f (pB L x.1) = pB L x.1
        · have q3 : f (pC L x.1) ≠ pC L x.1 := fun e => hne ⟨q1, q2, e⟩
          refine Or.inr (Or.inr ⟨?_, ?_⟩) <;> omega
        · refine Or.inr (Or.inl ⟨?_, ?_⟩) <;> omega
      · refine Or.inl ⟨?_, ?_⟩ <;> omega
    have hokn : (npN (L.getD (x.1 - 1) z0) (f (pA L x.1)) (f (pB L x.1)) (f (pC L x.1))).ok := ⟨hok.op, hok.w, i64_n (hfl _ lA), i64_n (hfl _ lB), i64_n (hfl _ lC), hok.num, hok.name⟩
    have hMk := fun W' (hb' : Below W.heap.size W W') => makein_any B0 B lim L v M1 M2 (npN (L.getD (x.1 - 1) z0) (f (pA L x.1)) (f (pB L x.1)) (f (pC L x.1))) W' ((hS.below hb).below hb') (Nat.le_trans hB0 (Nat.le_trans hbs hb'.size)) hl hokn
    have hnm : (L.getD (x.1 - 1) z0).name.size ≤ 140737488355328 := Nat.le_trans hshp.name (by omega)
    unfold npN nodeV at hMk ⊢
    unfold npN at hmk
    generalize L.getD (x.1 - 1) z0 = nd at *
    obtain ⟨op, u, na, nb, nc, num, nm⟩ := nd
    dsimp only at *
    refine put1_any (x.1 : Int) op u na nb nc num _ _ _ nm p1 p2 B Mi 0 (fun _ => none) _ W ((hb.cell (p := ⟨p1, 0, none⟩) (block_lt_of_cell h1)).trans h1) ((hb.cell (p := ⟨p2, 0, none⟩) (block_lt_of_cell h2)).trans h2) (hM.below hb) hnm rfl (fun he w' hb' => ?_) (fun he W' hb' => ?_)
    · rw [eA, eB, eC] at he
      rw [if_pos ⟨by omega, by omega, by omega⟩] at hsn
      exact ⟨⟨hb'.os, hb'.tape, hb'.output, hb'.size, fun j hj _ => hb'.block j hj⟩, Or.inl ⟨x.1, by omega, rfl, hsn, hb.trans (below_le' hb' hbs)⟩⟩
    · rw [eA, eB, eC] at he
      have hne : ¬ (f (pA L x.1) = pA L x.1 ∧ f (pB L x.1) = pB L x.1 ∧ f (pC L x.1) = pC L x.1) := fun e => he ⟨by omega, by omega, by omega⟩
      rw [if_neg hne] at hsn
      refine (hMk W' hb').mono fun e w' ⟨hA, hr⟩ => ?_
      rcases hr with ⟨h0, _⟩ | ⟨_, ty, y, rfl⟩
      · exact absurd h0 (mk_ref (hmk hne))
      · refine ⟨_, _, rfl, ?_, Or.inr ⟨0, ty, y, rfl, hsn⟩⟩
        obtain ⟨v', N1, N2, hs, hk, ho, hne2⟩ := hA
        refine ⟨hk.os.trans hb'.os, hk.tape.trans hb'.tape, hk.output.trans hb'.output, Nat.le_trans hb'.size hk.size, fun j hj hc => (hk.block j (Nat.lt_of_lt_of_le hj hb'.size) (fun hw => ?_)).trans (hb'.block j hj)⟩
        have h7 := hS.lt hw
        rcases hc with rfl | ⟨hc, _⟩ <;> omega
end Go.Proofs.YtkpapgfbnledpaaGreatDoor.GI
