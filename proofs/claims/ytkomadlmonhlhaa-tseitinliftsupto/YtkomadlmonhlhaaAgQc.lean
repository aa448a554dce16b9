import Derived.Test.YtkomadlmonhlhaaTsN
namespace Go.Proofs.Ytkomadlmonhlhaa
open Go.ChangeShapes Go.WideShapes Go.ChangeAt Go.RowKit Go.Lib Go.Ag Go.WideMaps Go.Maps Go.ChangeMaps Go.Cn

/-- a literal's value, of the nodes' values -/
def litV (v : List Bool) (l : Nat) : Bool := v.getD (l / 2) false != (l % 2 == 1)
def evF (inp : Nat → Bool) (s : List Bool × Nat) (x : Option (Nat × Nat)) : List Bool × Nat := match x with
  | none => (s.1 ++ [inp s.2], s.2 + 1)
  | some g => (s.1 ++ [litV s.1 g.1 && litV s.1 g.2], s.2)
def evS (inp : Nat → Bool) (ns : Nds) : List Bool × Nat := ns.foldl (evF inp) ([false], 0)
/-- the nodes' values -/
def evs (inp : Nat → Bool) (ns : Nds) : List Bool := (evS inp ns).1
theorem evS_snoc (inp : Nat → Bool) (ns : Nds) (x : Option (Nat × Nat)) : evS inp (ns ++ [x]) = evF inp (evS inp ns) x := by
  unfold evS
  rw [List.foldl_append]
  rfl
theorem snoc_ind {α : Type} {P : List α → Prop} (h0 : P []) (h1 : ∀ ns x, P ns → P (ns ++ [x])) (ns : List α) : P ns := by
  have key : ∀ n (ns : List α), ns.length = n → P ns := by
    intro n
    induction n with
    | zero => intro ns h; rw [List.length_eq_zero_iff.1 h]; exact h0
    | succ n ih =>
      intro ns h
      rcases List.eq_nil_or_concat ns with e | ⟨t, x, e⟩
      · rw [e] at h; cases h
      · rw [e, List.concat_eq_append]
        refine h1 t x (ih t ?_)
        rw [e, List.concat_eq_append, List.length_append] at h
        simpa using h
  exact key _ ns rfl
theorem evS_in (inp : Nat → Bool) (ns : Nds) : (evS inp ns).2 = inN ns ∧ (evS inp ns).1.length = ns.length + 1 := by
  refine snoc_ind (P := fun ns => (evS inp ns).2 = inN ns ∧ (evS inp ns).1.length = ns.length + 1) ⟨rfl, rfl⟩ (fun ns x h => ?_) ns
  rw [evS_snoc]
  cases x with
  | none => exact ⟨by rw [inN_in, ← h.1]; rfl, by show ((evS inp ns).1 ++ _).length = _; rw [List.length_append, List.length_append, h.2]; rfl⟩
  | some g => exact ⟨by rw [inN_gate, ← h.1]; rfl, by show ((evS inp ns).1 ++ _).length = _; rw [List.length_append, List.length_append, h.2]; rfl⟩
theorem evs_len (inp : Nat → Bool) (ns : Nds) : (evs inp ns).length = ns.length + 1 := (evS_in inp ns).2
theorem evs_in (inp : Nat → Bool) (ns : Nds) : evs inp (ns ++ [none]) = evs inp ns ++ [inp (inN ns)] := by
  unfold evs
  rw [evS_snoc]
  show (evS inp ns).1 ++ [inp (evS inp ns).2] = _
  rw [(evS_in inp ns).1]
theorem evs_gate (inp : Nat → Bool) (ns : Nds) (g : Nat × Nat) : evs inp (ns ++ [some g]) = evs inp ns ++ [litV (evs inp ns) g.1 && litV (evs inp ns) g.2] := by
  unfold evs
  rw [evS_snoc]
  rfl
theorem evs_pre (inp : Nat → Bool) (ns : Nds) (t : Nds) (i : Nat) (hi : i ≤ ns.length) : (evs inp (ns ++ t)).getD i false = (evs inp ns).getD i false := by
  refine snoc_ind (P := fun t => (evs inp (ns ++ t)).getD i false = (evs inp ns).getD i false) (by rw [List.append_nil]) (fun t x h => ?_) t
  rw [← List.append_assoc]
  have hlt : i < (evs inp (ns ++ t)).length := by rw [evs_len, List.length_append]; omega
  cases x with
  | none => rw [evs_in, List.getD_eq_getElem?_getD, List.getElem?_append_left hlt, ← List.getD_eq_getElem?_getD, h]
  | some g => rw [evs_gate, List.getD_eq_getElem?_getD, List.getElem?_append_left hlt, ← List.getD_eq_getElem?_getD, h]
theorem litV_pre (inp : Nat → Bool) (ns t : Nds) (l : Nat) (hl : l / 2 ≤ ns.length) : litV (evs inp (ns ++ t)) l = litV (evs inp ns) l := by
  unfold litV
  rw [evs_pre inp ns t _ hl]
theorem evs_last (inp : Nat → Bool) (ns : Nds) (v : Bool) (vs : List Bool) (h : vs = evs inp ns ++ [v]) : vs.getD (ns.length + 1) false = v := by
  rw [h, List.getD_eq_getElem?_getD, List.getElem?_append_right (by rw [evs_len]; exact Nat.le_refl _), evs_len]
  simp
/-- the gates of a graph: operands ahead, unlike, no constants; no gate twice -/
structure GS (ns : Nds) : Prop where
  ops : ∀ (p : Nat) (g : Nat × Nat), ns[p]? = some (some g) → g.1 / 2 ≤ p ∧ g.2 / 2 ≤ p ∧ 2 ≤ g.1 ∧ 2 ≤ g.2 ∧ g.1 / 2 ≠ g.2 / 2
  one : ∀ (p p' : Nat) (g : Nat × Nat), ns[p]? = some (some g) → ns[p']? = some (some g) → p = p'
theorem at_snoc {α : Type} {l : List α} {x y : α} {p : Nat} (h : (l ++ [x])[p]? = some y) : l[p]? = some y ∨ (p = l.length ∧ x = y) := by
  by_cases e : p < l.length
  · rw [List.getElem?_append_left e] at h; exact Or.inl h
  · rw [List.getElem?_append_right (by omega)] at h
    have e2 : p - l.length = 0 := by
      rcases Nat.eq_zero_or_pos (p - l.length) with e2 | e2
      · exact e2
      · rw [List.getElem?_eq_none (by simp; omega)] at h; cases h
    rw [e2] at h
    exact Or.inr ⟨by omega, by simpa using h⟩
theorem GS.input {ns : Nds} (h : GS ns) : GS (ns ++ [none]) := by
  refine ⟨fun p g hp => ?_, fun p p' g hp hp' => ?_⟩
  · rcases at_snoc hp with h1 | ⟨_, h1⟩
    · exact h.ops p g h1
    · cases h1
  · rcases at_snoc hp with h1 | ⟨_, h1⟩
    · rcases at_snoc hp' with h2 | ⟨_, h2⟩
      · exact h.one p p' g h1 h2
      · cases h2
    · cases h1
theorem fnd_not {ns : Nds} {g : Nat × Nat} (h : fnd ns g = none) (p : Nat) : ns[p]? ≠ some (some g) := by
  intro hp
  unfold fnd at h
  cases hf : ns.findIdx? (fun x => decide (x = some g)) with
  | some i => rw [hf] at h; cases h
  | none =>
    rw [List.findIdx?_eq_none_iff] at hf
    have := hf (some g) (List.mem_of_getElem? hp)
    simp at this
theorem GS.gate {ns : Nds} (h : GS ns) {a b : Nat} (ha : a / 2 ≤ ns.length) (hb : b / 2 ≤ ns.length) (h1 : 2 ≤ a) (h2 : 2 ≤ b) (h3 : a / 2 ≠ b / 2) (hf : fnd ns (a, b) = none) : GS (ns ++ [some (a, b)]) := by
  refine ⟨fun p g hp => ?_, fun p p' g hp hp' => ?_⟩
  · rcases at_snoc hp with e | ⟨e1, e⟩
    · exact h.ops p g e
    · cases e
      exact ⟨by omega, by omega, h1, h2, h3⟩
  · rcases at_snoc hp with e | ⟨e1, e⟩
    · rcases at_snoc hp' with e' | ⟨e1', e'⟩
      · exact h.one p p' g e e'
      · cases e'; exact absurd e (fnd_not hf p)
    · rcases at_snoc hp' with e' | ⟨e1', e'⟩
      · cases e; exact absurd e' (fnd_not hf p')
      · omega
theorem litV_not (v : List Bool) (l : Nat) : litV v (notN l) = !litV v l := by
  unfold litV
  rw [not_half]
  have h1 : notN l % 2 = 1 - l % 2 := by
    have h2 := not_half l
    have h3 : notN (notN l) = l := not_not l
    unfold notN at *
    have h4 : l ^^^ 1 ≠ l := fun e => by
      have h5 : (l ^^^ 1) ^^^ l = 0 := by rw [e, Nat.xor_self]
      rw [Nat.xor_comm l 1, Nat.xor_assoc, Nat.xor_self, Nat.xor_zero] at h5
      cases h5
    omega
  rw [h1]
  rcases Nat.mod_two_eq_zero_or_one l with e | e <;> rw [e] <;> cases v.getD (l / 2) false <;> rfl
theorem litV_zero (inp : Nat → Bool) (ns : Nds) : litV (evs inp ns) 0 = false ∧ litV (evs inp ns) 1 = true := by
  have h : (evs inp ns).getD 0 false = false := by
    have := evs_pre inp [] ns 0 (Nat.le_refl _)
    rw [List.nil_append] at this
    rw [this]
    rfl
  unfold litV
  constructor
  · show ((evs inp ns).getD 0 false != false) = false
    rw [h]; rfl
  · show ((evs inp ns).getD 0 false != true) = true
    rw [h]; rfl
/-- an and: what was there stays, its value, and the gates as they should be -/
structure ANS (inp : Nat → Bool) (ns ns' : Nds) : Prop where
  ext : ∃ t, ns' = ns ++ t
  gs : GS ns'
theorem ANS.refl {inp : Nat → Bool} {ns : Nds} (h : GS ns) : ANS inp ns ns := ⟨⟨[], by rw [List.append_nil]⟩, h⟩
theorem ANS.trans {inp : Nat → Bool} {n1 n2 n3 : Nds} (h : ANS inp n1 n2) (h2 : ANS inp n2 n3) : ANS inp n1 n3 := by
  obtain ⟨t, rfl⟩ := h.ext
  obtain ⟨t2, rfl⟩ := h2.ext
  exact ⟨⟨t ++ t2, by rw [List.append_assoc]⟩, h2.gs⟩
theorem ANS.lit {inp : Nat → Bool} {ns ns' : Nds} (h : ANS inp ns ns') {l : Nat} (hl : l / 2 ≤ ns.length) : litV (evs inp ns') l = litV (evs inp ns) l := by
  obtain ⟨t, rfl⟩ := h.ext
  exact litV_pre inp ns t l hl
theorem andS_sem {inp : Nat → Bool} {ns : Nds} {a b l : Nat} (h : andS a b = some l) : litV (evs inp ns) l = (litV (evs inp ns) a && litV (evs inp ns) b) := by
  have hz := litV_zero inp ns
  unfold andS at h
  split at h
  · rename_i h1
    cases h
    rw [hz.1]
    rcases h1 with rfl | rfl | rfl
    · rw [hz.1]; rfl
    · rw [hz.1]; cases litV (evs inp ns) a <;> rfl
    · rw [litV_not]; cases litV (evs inp ns) b <;> rfl
  · split at h
    · rename_i h1
      cases h
      rcases h1 with rfl | rfl
      · rw [hz.2]; rfl
      · cases litV (evs inp ns) a <;> rfl
    · split at h
      · rename_i h1
        cases h
        rw [h1, hz.2]
        cases litV (evs inp ns) a <;> rfl
      · cases h
theorem andS_none {a b : Nat} (h : andS a b = none) : 2 ≤ a ∧ 2 ≤ b ∧ a / 2 ≠ b / 2 := by
  unfold andS at h
  split at h
  · cases h
  · split at h
    · cases h
    · split at h
      · cases h
      · rename_i h1 h2 h3
        have h4 := not_half b
        have h5 : notN (notN b) = b := not_not b
        have h6 : notN b ≠ b := fun e => by
          unfold notN at e
          have h7 : (b ^^^ 1) ^^^ b = 0 := by rw [e, Nat.xor_self]
          rw [Nat.xor_comm b 1, Nat.xor_assoc, Nat.xor_self, Nat.xor_zero] at h7
          cases h7
        refine ⟨by omega, by omega, fun e => ?_⟩
        omega
theorem evs_at (inp : Nat → Bool) {ns : Nds} (h : GS ns) {i : Nat} {g : Nat × Nat} (hi : ns[i]? = some (some g)) : (evs inp ns).getD (i + 1) false = (litV (evs inp ns) g.1 && litV (evs inp ns) g.2) := by
  have hlt : i < ns.length := (List.getElem?_eq_some_iff.1 hi).1
  have hop := h.ops i g hi
  have e1 : ns = (ns.take i ++ [some g]) ++ ns.drop (i + 1) := by
    have h2 : ns[i] = some g := (List.getElem?_eq_some_iff.1 hi).2
    rw [← h2, List.append_assoc]
    simp
  have hl : (ns.take i).length = i := by simp; omega
  have e2 := evs_pre inp (ns.take i ++ [some g]) (ns.drop (i + 1)) (i + 1) (by rw [List.length_append, hl]; simp)
  rw [← e1] at e2
  have e3 := evs_last inp (ns.take i) _ _ (evs_gate inp (ns.take i) g)
  rw [hl] at e3
  rw [e2, e3]
  have e4 := litV_pre inp (ns.take i) ([some g] ++ ns.drop (i + 1)) g.1 (by rw [hl]; exact hop.1)
  have e5 := litV_pre inp (ns.take i) ([some g] ++ ns.drop (i + 1)) g.2 (by rw [hl]; exact hop.2.1)
  rw [← List.append_assoc, ← e1] at e4 e5
  rw [e4, e5]
theorem andN_sem {inp : Nat → Bool} {ns ns' : Nds} (hs : GS ns) {a b l : Nat} (h : andN ns a b = some (l, ns')) (ha : a / 2 ≤ ns.length) (hb : b / 2 ≤ ns.length) : ANS inp ns ns' ∧ litV (evs inp ns') l = (litV (evs inp ns) a && litV (evs inp ns) b) := by
  unfold andN at h
  split at h
  · rename_i x hx
    cases h
    exact ⟨ANS.refl hs, andS_sem hx⟩
  · rename_i hx
    split at h
    · rename_i x hf
      cases h
      obtain ⟨i, hi, e, hg⟩ := fnd_is hf
      refine ⟨ANS.refl hs, ?_⟩
      have h7 := evs_at inp hs hg
      unfold litV at h7 ⊢
      rw [show l / 2 = i + 1 by omega, show (l % 2 == 1) = false by rw [show l % 2 = 0 by omega]; rfl, h7]
      simp
    · rename_i hf
      split at h
      · cases h
      · cases h
        have hn := andS_none hx
        refine ⟨⟨⟨_, rfl⟩, hs.gate ha hb hn.1 hn.2.1 hn.2.2 hf⟩, ?_⟩
        have h7 := evs_last inp ns _ _ (evs_gate inp ns (a, b))
        unfold litV at h7 ⊢
        rw [show 2 * (ns.length + 1) / 2 = ns.length + 1 by omega, show (2 * (ns.length + 1) % 2 == 1) = false by rw [show 2 * (ns.length + 1) % 2 = 0 by omega]; rfl, h7]
        simp
end Go.Proofs.Ytkomadlmonhlhaa
namespace Go.Proofs.Ytkomadlmonhlhaa
open Go.ChangeShapes Go.WideShapes Go.ChangeAt Go.RowKit Go.Lib Go.Ag Go.WideMaps Go.Maps Go.ChangeMaps Go.Cn

theorem gs_wf {ns : Nds} (h : GS ns) : WFN ns := fun n a b hk => by
  unfold nodK at hk
  split at hk
  · cases hk
  · rename_i hn
    split at hk
    · cases hk
    · rename_i g hg
      cases hk
      have hlt : n - 1 < ns.length := by
        by_cases e : n - 1 < ns.length
        · exact e
        · rw [List.getD_eq_getElem?_getD, List.getElem?_eq_none (by omega)] at hg
          cases hg
      rw [List.getD_eq_getElem?_getD, List.getElem?_eq_getElem hlt] at hg
      have h5 := h.ops (n - 1) (a, b) (by rw [List.getElem?_eq_getElem hlt]; exact congrArg some hg)
      exact ⟨by have := h5.1; simp at this; omega, by have := h5.2.1; simp at this; omega⟩
theorem nodK_at {ns : Nds} {n : Nat} (h0 : 0 < n) (hn : n ≤ ns.length) : (ns[n - 1]? = some none ∧ nodK ns n = (1, (inN (ns.take (n - 1)), 0))) ∨ ∃ g, ns[n - 1]? = some (some g) ∧ nodK ns n = (2, g) := by
  have hlt : n - 1 < ns.length := by omega
  cases hg : ns[n - 1] with
  | none =>
    left
    refine ⟨by rw [List.getElem?_eq_getElem hlt, hg], ?_⟩
    unfold nodK
    rw [if_neg (by omega), List.getD_eq_getElem?_getD, List.getElem?_eq_getElem hlt, hg]
    show (1, (n - 1 - cntG ns (n - 1), 0)) = _
    unfold inN cntG
    rw [List.length_take, Nat.min_eq_left (by omega)]
  | some g =>
    right
    refine ⟨g, by rw [List.getElem?_eq_getElem hlt, hg], ?_⟩
    unfold nodK
    rw [if_neg (by omega), List.getD_eq_getElem?_getD, List.getElem?_eq_getElem hlt, hg]
    rfl
theorem evs_inp (inp : Nat → Bool) {ns : Nds} {i : Nat} (hi : ns[i]? = some none) : (evs inp ns).getD (i + 1) false = inp (inN (ns.take i)) := by
  have hlt : i < ns.length := (List.getElem?_eq_some_iff.1 hi).1
  have e1 : ns = (ns.take i ++ [none]) ++ ns.drop (i + 1) := by
    have h2 : ns[i] = none := (List.getElem?_eq_some_iff.1 hi).2
    rw [← h2, List.append_assoc]
    simp
  have hl : (ns.take i).length = i := by simp; omega
  have e2 := evs_pre inp (ns.take i ++ [none]) (ns.drop (i + 1)) (i + 1) (by rw [List.length_append, hl]; simp)
  rw [← e1] at e2
  have e3 := evs_last inp (ns.take i) _ _ (evs_in inp (ns.take i))
  rw [hl] at e3
  rw [e2, e3]
theorem word_lit {f : Nat → Nat} {v : List Bool} {l : Nat} (h : (f (l / 2)).testBit 0 = v.getD (l / 2) false) : (wordN f l).testBit 0 = litV v l := by
  unfold wordN litV
  rw [Nat.testBit_xor, h]
  rcases Nat.mod_two_eq_zero_or_one l with e | e
  · rw [e]
    show (v.getD (l / 2) false ^^ (0 : Nat).testBit 0) = (v.getD (l / 2) false != false)
    cases v.getD (l / 2) false <;> rfl
  · rw [e]
    show (v.getD (l / 2) false ^^ (18446744073709551615 : Nat).testBit 0) = (v.getD (l / 2) false != true)
    cases v.getD (l / 2) false <;> rfl
/-- the rows of the nodes that were met are their values -/
structure VI (ns : Nds) (bs : List Bool) (s : (Nat → Bool) × List Nat) : Prop where
  zero : s.1 0 = true
  val : ∀ n, s.1 n = true → n ≤ ns.length → (valW ns (inpB bs) s.2 n).testBit 0 = (evs (fun i => bs.getD i false) ns).getD n false
theorem valW_snoc (ns : Nds) (inp : Nat → Nat) (cn : List Nat) (n : Nat) : valW ns inp (cn ++ [n]) = valStep ns inp (valW ns inp cn) n := by
  unfold valW
  rw [List.foldl_append]
  rfl
theorem VI.add {ns : Nds} {bs : List Bool} (hg : GS ns) {s : (Nat → Bool) × List Nat} (h : VI ns bs s) {n : Nat} (hn : n ≤ ns.length) (hm : s.1 n = false) (hop : ∀ a b, nodK ns n = (2, (a, b)) → s.1 (a / 2) = true ∧ s.1 (b / 2) = true) : VI ns bs (updB s.1 n, s.2 ++ [n]) := by
  have h0 : 0 < n := by
    rcases Nat.eq_zero_or_pos n with e | e
    · rw [e, h.zero] at hm; cases hm
    · exact e
  refine ⟨?_, fun m hm2 hml => ?_⟩
  · show updB s.1 n 0 = true
    rw [updB_ne _ (by omega)]
    exact h.zero
  · show (valW ns (inpB bs) (s.2 ++ [n]) m).testBit 0 = _
    rw [valW_snoc]
    unfold valStep updN
    by_cases e : m = n
    · subst e
      rw [if_pos rfl]
      rcases nodK_at h0 hn with ⟨h1, h2⟩ | ⟨g, h1, h2⟩
      · rw [h2, if_pos rfl]
        have h3 := evs_inp (fun i => bs.getD i false) h1
        rw [show m - 1 + 1 = m by omega] at h3
        rw [h3]
        unfold inpB
        cases bs.getD (inN (ns.take (m - 1))) false <;> rfl
      · have h3 := evs_at (fun i => bs.getD i false) hg h1
        rw [show m - 1 + 1 = m by omega] at h3
        obtain ⟨a, b⟩ := g
        have h4 := hop a b h2
        have h5 := hg.ops _ _ h1
        rw [h3, h2, if_neg (show ¬ (2 : Nat) = 1 by decide), Nat.testBit_and]
        rw [word_lit (h.val (a / 2) h4.1 (by have := h5.1; simp at this; omega)), word_lit (h.val (b / 2) h4.2 (by have := h5.2.1; simp at this; omega))]
    · rw [if_neg e]
      have hm3 : updB s.1 n m = true := hm2
      rw [updB_ne _ e] at hm3
      exact h.val m hm3 hml
theorem vi_meet {ns : Nds} {bs : List Bool} (hg : GS ns) : ∀ (f n : Nat), n < f → n ≤ ns.length → ∀ s : (Nat → Bool) × List Nat, VI ns bs s → VI ns bs (meet ns n s)
  | 0, _, h, _, _, _ => absurd h (Nat.not_lt_zero _)
  | f + 1, n, hf, hn, s, hs => by
    have hw := gs_wf hg
    cases h : s.1 n with
    | true => rw [meet_met h]; exact hs
    | false =>
      by_cases hk : (nodK ns n).1 = 2
      · have e := nodK_two hk
        have hab := hw _ _ _ e
        rw [meet_gate hw h e]
        have h1 := vi_meet hg f ((nodK ns n).2.1 / 2) (by omega) (by omega) s hs
        have h2 := vi_meet hg f ((nodK ns n).2.2 / 2) (by omega) (by omega) _ h1
        have p1 := meet_prop hw _ _ (Nat.lt_succ_self ((nodK ns n).2.1 / 2)) s
        have p2 := meet_prop hw _ _ (Nat.lt_succ_self ((nodK ns n).2.2 / 2)) (meet ns ((nodK ns n).2.1 / 2) s)
        refine h2.add hg hn (by rw [p2.2.2 n hab.2, p1.2.2 n hab.1, h]) (fun a b hk2 => ?_)
        rw [e] at hk2
        cases hk2
        exact ⟨p2.2.1 _ p1.1, p2.1⟩
      · rw [meet_leaf h hk]
        refine hs.add hg hn h (fun a b hk2 => ?_)
        rw [hk2] at hk
        exact absurd rfl hk
theorem vi_cone {ns : Nds} {bs : List Bool} (hg : GS ns) : ∀ (ls : List Nat) (s : (Nat → Bool) × List Nat), (∀ l ∈ ls, l / 2 ≤ ns.length) → VI ns bs s → VI ns bs (ls.foldl (fun s l => meet ns (l / 2) s) s) ∧ (∀ i, s.1 i = true → (ls.foldl (fun s l => meet ns (l / 2) s) s).1 i = true) ∧ ∀ l ∈ ls, (ls.foldl (fun s l => meet ns (l / 2) s) s).1 (l / 2) = true
  | [], s, _, hs => ⟨hs, fun _ h => h, fun l hl => (List.not_mem_nil hl).elim⟩
  | l :: ls, s, hl, hs => by
    have h1 := vi_meet hg _ _ (Nat.lt_succ_self (l / 2)) (hl l (by simp)) s hs
    have p1 := meet_prop (gs_wf hg) _ _ (Nat.lt_succ_self (l / 2)) s
    obtain ⟨h2, h3, h4⟩ := vi_cone hg ls (meet ns (l / 2) s) (fun x hx => hl x (by simp [hx])) h1
    refine ⟨h2, fun i hi => h3 i (p1.2.1 i hi), fun x hx => ?_⟩
    rcases List.mem_cons.1 hx with e | e
    · rw [e]; exact h3 _ p1.1
    · exact h4 x e
/-- Eval tells the literals' values -/
theorem eval_sem {ns : Nds} (hg : GS ns) (bs : List Bool) (ls : List Nat) (hl : ∀ l ∈ ls, l / 2 ≤ ns.length) : evalB ns bs ls = ls.map (litV (evs (fun i => bs.getD i false) ns)) := by
  obtain ⟨h1, h2, h3⟩ := vi_cone (bs := bs) hg ls (met0, []) hl ⟨rfl, fun n hn _ => by
    have e : n = 0 := by
      have hn2 : updB (fun _ => false) 0 n = true := hn
      by_cases e : n = 0
      · exact e
      · rw [updB_ne _ e] at hn2; cases hn2
    subst e
    have h7 := (litV_zero (fun i => bs.getD i false) ns).1
    unfold litV at h7
    have h8 : ((evs (fun i => bs.getD i false) ns).getD 0 false != false) = false := h7
    have h9 : (evs (fun i => bs.getD i false) ns).getD 0 false = false := by
      cases h10 : (evs (fun i => bs.getD i false) ns).getD 0 false with
      | false => rfl
      | true => rw [h10] at h8; cases h8
    rw [h9]
    show (0 : Nat).testBit 0 = false
    simp⟩
  unfold evalB
  apply List.map_congr_left
  intro l hm
  have h5 := word_lit (l := l) (h1.val (l / 2) (h3 l hm) (hl l hm))
  show (wordN (valW ns (inpB bs) (coneS ns ls).2) l % 2 == 1) = _
  have h6 : (wordN (valW ns (inpB bs) (coneS ns ls).2) l).testBit 0 = litV (evs (fun i => bs.getD i false) ns) l := h5
  rw [← h6, Nat.testBit_zero]
  rcases Nat.mod_two_eq_zero_or_one (wordN (valW ns (inpB bs) (coneS ns ls).2) l) with e | e <;> rw [e] <;> rfl
end Go.Proofs.Ytkomadlmonhlhaa
