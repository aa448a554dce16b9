import Derived.Test.YtkomadlmonhlhaaAgQa
namespace Go.Proofs.Ytkomadlmonhlhaa
open Go.ChangeShapes Go.WideShapes Go.ChangeAt Go.RowKit Go.Lib Go.Ag Go.WideMaps Go.Maps Go.ChangeMaps Go.Cn

theorem gs_wf {ns : Nds} (h : GS ns) : WFN ns := fun n a b hk => by
  unfold nodK at hk
  split at hk
  · cases hk
  · rename_i hn
    split at hk
    · cases hk
    · rename_i g hg
      cases hk
      have hlt : n - 1 < ns.length := by
        by_cases e : n - 1 < ns.length
        · exact e
        · rw [List.getD_eq_getElem?_getD, List.getElem?_eq_none (by omega)] at hg
          cases hg
      rw [List.getD_eq_getElem?_getD, List.getElem?_eq_getElem hlt] at hg
      have h5 := h.ops (n - 1) (a, b) (by rw [List.getElem?_eq_getElem hlt]; exact congrArg some hg)
      exact ⟨by have := h5.1; simp at this; omega, by have := h5.2.1; simp at this; omega⟩
theorem nodK_at {ns : Nds} {n : Nat} (h0 : 0 < n) (hn : n ≤ ns.length) : (ns[n - 1]? = some none ∧ nodK ns n = (1, (inN (ns.take (n - 1)), 0))) ∨ ∃ g, ns[n - 1]? = some (some g) ∧ nodK ns n = (2, g) := by
  have hlt : n - 1 < ns.length := by omega
  cases hg : ns[n - 1] with
  | none =>
    left
    refine ⟨by rw [List.getElem?_eq_getElem hlt, hg], ?_⟩
    unfold nodK
    rw [if_neg (by omega), List.getD_eq_getElem?_getD, List.getElem?_eq_getElem hlt, hg]
    show (1, (n - 1 - cntG ns (n - 1), 0)) = _
    unfold inN cntG
    rw [List.length_take, Nat.min_eq_left (by omega)]
  | some g =>
    right
    refine ⟨g, by rw [List.getElem?_eq_getElem hlt, hg], ?_⟩
    unfold nodK
    rw [if_neg (by omega), List.getD_eq_getElem?_getD, List.getElem?_eq_getElem hlt, hg]
    rfl
theorem evs_inp (inp : Nat → Bool) {ns : Nds} {i : Nat} (hi : ns[i]? = some none) : (evs inp ns).getD (i + 1) false = inp (inN (ns.take i)) := by
  have hlt : i < ns.length := (List.getElem?_eq_some_iff.1 hi).1
  have e1 : ns = (ns.take i ++ [none]) ++ ns.drop (i + 1) := by
    have h2 : ns[i] = none := (List.getElem?_eq_some_iff.1 hi).2
    rw [← h2, List.append_assoc]
    simp
  have hl : (ns.take i).length = i := by simp; omega
  have e2 := evs_pre inp (ns.take i ++ [none]) (ns.drop (i + 1)) (i + 1) (by rw [List.length_append, hl]; simp)
  rw [← e1] at e2
  have e3 := evs_last inp (ns.take i) _ _ (evs_in inp (ns.take i))
  rw [hl] at e3
  rw [e2, e3]
theorem word_lit {f : Nat → Nat} {v : List Bool} {l : Nat} (h : (f (l / 2)).testBit 0 = v.getD (l / 2) false) : (wordN f l).testBit 0 = litV v l := by
  unfold wordN litV
  rw [Nat.testBit_xor, h]
  rcases Nat.mod_two_eq_zero_or_one l with e | e
  · rw [e]
    show (v.getD (l / 2) false ^^ (0 : Nat).testBit 0) = (v.getD (l / 2) false != false)
    cases v.getD (l / 2) false <;> rfl
  · rw [e]
    show (v.getD (l / 2) false ^^ (18446744073709551615 : Nat).testBit 0) = (v.getD (l / 2) false != true)
    cases v.getD (l / 2) false <;> rfl
/-- the rows of the nodes that were met are their values -/
structure VI (ns : Nds) (bs : List Bool) (s : (Nat → Bool) × List Nat) : Prop where
  zero : s.1 0 = true
  val : ∀ n, s.1 n = true → n ≤ ns.length → (valW ns (inpB bs) s.2 n).testBit 0 = (evs (fun i => bs.getD i false) ns).getD n false
theorem valW_snoc (ns : Nds) (inp : Nat → Nat) (cn : List Nat) (n : Nat) : valW ns inp (cn ++ [n]) = valStep ns inp (valW ns inp cn) n := by
  unfold valW
  rw [List.foldl_append]
  rfl
theorem VI.add {ns : Nds} {bs : List Bool} (hg : GS ns) {s : (Nat → Bool) × List Nat} (h : VI ns bs s) {n : Nat} (hn : n ≤ ns.length) (hm : s.1 n = false) (hop : ∀ a b, nodK ns n = (2, (a, b)) → s.1 (a / 2) = true ∧ s.1 (b / 2) = true) : VI ns bs (updB s.1 n, s.2 ++ [n]) := by
  have h0 : 0 < n := by
    rcases Nat.eq_zero_or_pos n with e | e
    · rw [e, h.zero] at hm; cases hm
    · exact e
  refine ⟨?_, fun m hm2 hml => ?_⟩
  · show updB s.1 n 0 = true
    rw [updB_ne _ (by omega)]
    exact h.zero
  · show (valW ns (inpB bs) (s.2 ++ [n]) m).testBit 0 = _
    rw [valW_snoc]
    unfold valStep updN
    by_cases e : m = n
    · subst e
      rw [if_pos rfl]
      rcases nodK_at h0 hn with ⟨h1, h2⟩ | ⟨g, h1, h2⟩
      · rw [h2, if_pos rfl]
        have h3 := evs_inp (fun i => bs.getD i false) h1
        rw [show m - 1 + 1 = m by omega] at h3
        rw [h3]
        unfold inpB
        cases bs.getD (inN (ns.take (m - 1))) false <;> rfl
      · have h3 := evs_at (fun i => bs.getD i false) hg h1
        rw [show m - 1 + 1 = m by omega] at h3
        obtain ⟨a, b⟩ := g
        have h4 := hop a b h2
        have h5 := hg.ops _ _ h1
        rw [h3, h2, if_neg (show ¬ (2 : Nat) = 1 by decide), Nat.testBit_and]
        rw [word_lit (h.val (a / 2) h4.1 (by have := h5.1; simp at this; omega)), word_lit (h.val (b / 2) h4.2 (by have := h5.2.1; simp at this; omega))]
    · rw [if_neg e]
      have hm3 : updB s.1 n m = true := hm2
      rw [updB_ne _ e] at hm3
      exact h.val m hm3 hml
theorem vi_meet {ns : Nds} {bs : List Bool} (hg : GS ns) : ∀ (f n : Nat), n < f → n ≤ ns.length → ∀ s : (Nat → Bool) × List Nat, VI ns bs s → VI ns bs (meet ns n s)
  | 0, _, h, _, _, _ => absurd h (Nat.not_lt_zero _)
  | f + 1, n, hf, hn, s, hs => by
    have hw := gs_wf hg
    cases h : s.1 n with
    | true => rw [meet_met h]; exact hs
    | false =>
      by_cases hk : (nodK ns n).1 = 2
      · have e := nodK_two hk
        have hab := hw _ _ _ e
        rw [meet_gate hw h e]
        have h1 := vi_meet hg f ((nodK ns n).2.1 / 2) (by omega) (by omega) s hs
        have h2 := vi_meet hg f ((nodK ns n).2.2 / 2) (by omega) (by omega) _ h1
        have p1 := meet_prop hw _ _ (Nat.lt_succ_self ((nodK ns n).2.1 / 2)) s
        have p2 := meet_prop hw _ _ (Nat.lt_succ_self ((nodK ns n).2.2 / 2)) (meet ns ((nodK ns n).2.1 / 2) s)
        refine h2.add hg hn (by rw [p2.2.2 n hab.2, p1.2.2 n hab.1, h]) (fun a b hk2 => ?_)
        rw [e] at hk2
        cases hk2
        exact ⟨p2.2.1 _ p1.1, p2.1⟩
      · rw [meet_leaf h hk]
        refine hs.add hg hn h (fun a b hk2 => ?_)
        rw [hk2] at hk
        exact absurd rfl hk
theorem vi_cone {ns : Nds} {bs : List Bool} (hg : GS ns) : ∀ (ls : List Nat) (s : (Nat → Bool) × List Nat), (∀ l ∈ ls, l / 2 ≤ ns.length) → VI ns bs s → VI ns bs (ls.foldl (fun s l => meet ns (l / 2) s) s) ∧ (∀ i, s.1 i = true → (ls.foldl (fun s l => meet ns (l / 2) s) s).1 i = true) ∧ ∀ l ∈ ls, (ls.foldl (fun s l => meet ns (l / 2) s) s).1 (l / 2) = true
  | [], s, _, hs => ⟨hs, fun _ h => h, fun l hl => (List.not_mem_nil hl).elim⟩
  | l :: ls, s, hl, hs => by
    have h1 := vi_meet hg _ _ (Nat.lt_succ_self (l / 2)) (hl l (by simp)) s hs
    have p1 := meet_prop (gs_wf hg) _ _ (Nat.lt_succ_self (l / 2)) s
    obtain ⟨h2, h3, h4⟩ := vi_cone hg ls (meet ns (l / 2) s) (fun x hx => hl x (by simp [hx])) h1
    refine ⟨h2, fun i hi => h3 i (p1.2.1 i hi), fun x hx => ?_⟩
    rcases List.mem_cons.1 hx with e | e
    · rw [e]; exact h3 _ p1.1
    · exact h4 x e
/-- Eval tells the literals' values -/
theorem eval_sem {ns : Nds} (hg : GS ns) (bs : List Bool) (ls : List Nat) (hl : ∀ l ∈ ls, l / 2 ≤ ns.length) : evalB ns bs ls = ls.map (litV (evs (fun i => bs.getD i false) ns)) := by
  obtain ⟨h1, h2, h3⟩ := vi_cone (bs := bs) hg ls (met0, []) hl ⟨rfl, fun n hn _ => by
    have e : n = 0 := by
      have hn2 : updB (fun _ => false) 0 n = true := hn
      by_cases e : n = 0
      · exact e
      · rw [updB_ne _ e] at hn2; cases hn2
    subst e
    have h7 := (litV_zero (fun i => bs.getD i false) ns).1
    unfold litV at h7
    have h8 : ((evs (fun i => bs.getD i false) ns).getD 0 false != false) = false := h7
    have h9 : (evs (fun i => bs.getD i false) ns).getD 0 false = false := by
      cases h10 : (evs (fun i => bs.getD i false) ns).getD 0 false with
      | false => rfl
      | true => rw [h10] at h8; cases h8
    rw [h9]
    show (0 : Nat).testBit 0 = false
    simp⟩
  unfold evalB
  apply List.map_congr_left
  intro l hm
  have h5 := word_lit (l := l) (h1.val (l / 2) (h3 l hm) (hl l hm))
  show (wordN (valW ns (inpB bs) (coneS ns ls).2) l % 2 == 1) = _
  have h6 : (wordN (valW ns (inpB bs) (coneS ns ls).2) l).testBit 0 = litV (evs (fun i => bs.getD i false) ns) l := h5
  rw [← h6, Nat.testBit_zero]
  rcases Nat.mod_two_eq_zero_or_one (wordN (valW ns (inpB bs) (coneS ns ls).2) l) with e | e <;> rw [e] <;> rfl
end Go.Proofs.Ytkomadlmonhlhaa
