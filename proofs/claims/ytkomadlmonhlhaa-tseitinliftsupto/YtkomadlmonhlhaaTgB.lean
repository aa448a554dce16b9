import Derived.Test.YtkomadlmonhlhaaTsM
import Derived.Test.YtkomadlmonhlhaaAgQc
namespace Go.Proofs.Ytkomadlmonhlhaa
open Go.ChangeShapes Go.WideShapes Go.ChangeAt Go.RowKit Go.Lib Go.Ag Go.WideMaps Go.Maps Go.ChangeMaps Go.Cn

/-- a literal, turned with another one's sign -/
def xs (a l : Nat) : Nat := if l % 2 = 1 then (if a % 2 = 1 then a - 1 else a + 1) else a
theorem xs_div (a l : Nat) : xs a l / 2 = a / 2 := by
  unfold xs
  split
  · split <;> omega
  · rfl
/-- the document's mark: which literals are wanted -/
def mkN (ns : Nds) : Nat → Nat → (Nat → Bool) → (Nat → Bool)
  | 0, _, s => s
  | f + 1, l, s => if s l = true then s else match nodK ns (l / 2) with
    | (2, (a, b)) => mkN ns f (xs b l) (mkN ns f (xs a l) (updB s l))
    | _ => updB s l
def mk (ns : Nds) (l : Nat) (s : Nat → Bool) : Nat → Bool := mkN ns (l / 2 + 1) l s
theorem mkN_fuel {ns : Nds} (hw : WFN ns) : ∀ (f g l : Nat) (s : Nat → Bool), l / 2 < f → l / 2 < g → mkN ns f l s = mkN ns g l s
  | 0, _, _, _, h, _ => absurd h (Nat.not_lt_zero _)
  | _, 0, _, _, _, h => absurd h (Nat.not_lt_zero _)
  | f + 1, g + 1, l, s, hf, hg => by
    unfold mkN
    by_cases h : s l = true
    · rw [if_pos h, if_pos h]
    · rw [if_neg h, if_neg h]
      split
      · rename_i a b hk
        have := hw _ a b hk
        rw [mkN_fuel hw f g (xs a l) _ (by rw [xs_div]; omega) (by rw [xs_div]; omega), mkN_fuel hw f g (xs b l) _ (by rw [xs_div]; omega) (by rw [xs_div]; omega)]
      · rfl
theorem mk_met {ns : Nds} {l : Nat} {s : Nat → Bool} (h : s l = true) : mk ns l s = s := by
  unfold mk mkN
  rw [if_pos h]
theorem mk_gate {ns : Nds} (hw : WFN ns) {l a b : Nat} {s : Nat → Bool} (h : s l = false) (hk : nodK ns (l / 2) = (2, (a, b))) : mk ns l s = mk ns (xs b l) (mk ns (xs a l) (updB s l)) := by
  have hab := hw _ a b hk
  conv => lhs; unfold mk mkN
  rw [if_neg (by rw [h]; decide), hk]
  show mkN ns (l / 2) (xs b l) (mkN ns (l / 2) (xs a l) (updB s l)) = _
  unfold mk
  rw [mkN_fuel hw (l / 2) (xs a l / 2 + 1) (xs a l) _ (by rw [xs_div]; omega) (by omega), mkN_fuel hw (l / 2) (xs b l / 2 + 1) (xs b l) _ (by rw [xs_div]; omega) (by omega)]
theorem mk_leaf {ns : Nds} {l : Nat} {s : Nat → Bool} (h : s l = false) (hk : (nodK ns (l / 2)).1 ≠ 2) : mk ns l s = updB s l := by
  unfold mk mkN
  rw [if_neg (by rw [h]; decide)]
  split
  · rename_i a b e
    rw [e] at hk
    exact absurd rfl hk
  · rfl
/-- closed at a literal: what it wants is wanted -/
def clAt (ns : Nds) (s : Nat → Bool) (l : Nat) : Prop := ∀ a b, nodK ns (l / 2) = (2, (a, b)) → s (xs a l) = true ∧ s (xs b l) = true
theorem mk_up {ns : Nds} (hw : WFN ns) : ∀ (q l : Nat), l / 2 < q → ∀ s : Nat → Bool, (mk ns l s) l = true ∧ ∀ i, s i = true → (mk ns l s) i = true
  | 0, _, h, _ => absurd h (Nat.not_lt_zero _)
  | q + 1, l, hq, s => by
    cases h : s l with
    | true => rw [mk_met h]; exact ⟨h, fun i hi => hi⟩
    | false =>
      have hu : ∀ i, s i = true → updB s l i = true := fun i hi => by
        by_cases e : i = l
        · rw [e]; exact updB_self _ _
        · rw [updB_ne _ e]; exact hi
      by_cases hk : (nodK ns (l / 2)).1 = 2
      · rcases e : nodK ns (l / 2) with ⟨kd, a, b⟩
        rw [e] at hk
        obtain rfl : kd = 2 := hk
        have hab := hw _ a b e
        rw [mk_gate hw h e]
        obtain ⟨a1, a2⟩ := mk_up hw q (xs a l) (by rw [xs_div]; omega) (updB s l)
        obtain ⟨b1, b2⟩ := mk_up hw q (xs b l) (by rw [xs_div]; omega) (mk ns (xs a l) (updB s l))
        exact ⟨b2 l (a2 l (updB_self _ _)), fun i hi => b2 i (a2 i (hu i hi))⟩
      · rw [mk_leaf h hk]
        exact ⟨updB_self _ _, hu⟩
/-- what was closed but at those that are on their way is so behind it -/
theorem mk_closed {ns : Nds} (hw : WFN ns) : ∀ (q l : Nat), l / 2 < q → ∀ (E : Nat → Prop) (s : Nat → Bool), (∀ i, E i → l / 2 < i / 2) → (∀ i, s i = true → E i ∨ clAt ns s i) → ∀ i, (mk ns l s) i = true → E i ∨ clAt ns (mk ns l s) i
  | 0, _, h, _, _, _, _ => absurd h (Nat.not_lt_zero _)
  | q + 1, l, hq, E, s, hE, hc => by
    cases h : s l with
    | true => rw [mk_met h]; exact hc
    | false =>
      by_cases hk : (nodK ns (l / 2)).1 = 2
      · rcases e : nodK ns (l / 2) with ⟨kd, a, b⟩
        rw [e] at hk
        obtain rfl : kd = 2 := hk
        have hab := hw _ a b e
        rw [mk_gate hw h e]
        have h0 : ∀ i, updB s l i = true → (E i ∨ i = l) ∨ clAt ns (updB s l) i := fun i hi => by
          by_cases e1 : i = l
          · exact Or.inl (Or.inr e1)
          · rw [updB_ne _ e1] at hi
            rcases hc i hi with h1 | h1
            · exact Or.inl (Or.inl h1)
            · refine Or.inr (fun a' b' e' => ?_)
              obtain ⟨x1, x2⟩ := h1 a' b' e'
              constructor
              · by_cases e2 : xs a' i = l
                · rw [e2]; exact updB_self _ _
                · rw [updB_ne _ e2]; exact x1
              · by_cases e2 : xs b' i = l
                · rw [e2]; exact updB_self _ _
                · rw [updB_ne _ e2]; exact x2
        have hE2 : ∀ c, c / 2 < l / 2 → ∀ i, (E i ∨ i = l) → c / 2 < i / 2 := fun c hcl i hi => by
          rcases hi with h1 | h1
          · have := hE i h1; omega
          · rw [h1]; exact hcl
        have h1 := mk_closed hw q (xs a l) (by rw [xs_div]; omega) (fun i => E i ∨ i = l) (updB s l) (hE2 _ (by rw [xs_div]; omega)) h0
        have h2 := mk_closed hw q (xs b l) (by rw [xs_div]; omega) (fun i => E i ∨ i = l) _ (hE2 _ (by rw [xs_div]; omega)) h1
        intro i hi
        rcases h2 i hi with (h3 | h3) | h3
        · exact Or.inl h3
        · refine Or.inr ?_
          rw [h3]
          intro a' b' e'
          rw [e] at e'
          cases e'
          obtain ⟨a1, _⟩ := mk_up hw (xs a l / 2 + 1) (xs a l) (by omega) (updB s l)
          obtain ⟨b1, b2⟩ := mk_up hw (xs b l / 2 + 1) (xs b l) (by omega) (mk ns (xs a l) (updB s l))
          exact ⟨b2 _ a1, b1⟩
        · exact Or.inr h3
      · rw [mk_leaf h hk]
        intro i hi
        by_cases e1 : i = l
        · refine Or.inr (fun a' b' e' => ?_)
          rw [e1] at e'
          rw [e'] at hk
          exact absurd rfl hk
        · rw [updB_ne _ e1] at hi
          rcases hc i hi with h1 | h1
          · exact Or.inl h1
          · refine Or.inr (fun a' b' e' => ?_)
            obtain ⟨x1, x2⟩ := h1 a' b' e'
            constructor
            · by_cases e2 : xs a' i = l
              · rw [e2]; exact updB_self _ _
              · rw [updB_ne _ e2]; exact x1
            · by_cases e2 : xs b' i = l
              · rw [e2]; exact updB_self _ _
              · rw [updB_ne _ e2]; exact x2
/-- nothing is marked that need not be -/
theorem mk_least {ns : Nds} (hw : WFN ns) (T : Nat → Prop) (hT : ∀ i, T i → ∀ a b, nodK ns (i / 2) = (2, (a, b)) → T (xs a i) ∧ T (xs b i)) : ∀ (q l : Nat), l / 2 < q → T l → ∀ s : Nat → Bool, (∀ i, s i = true → T i) → ∀ i, (mk ns l s) i = true → T i
  | 0, _, h, _, _, _ => absurd h (Nat.not_lt_zero _)
  | q + 1, l, hq, hl, s, hs => by
    cases h : s l with
    | true => rw [mk_met h]; exact hs
    | false =>
      have hu : ∀ i, updB s l i = true → T i := fun i hi => by
        by_cases e : i = l
        · rw [e]; exact hl
        · rw [updB_ne _ e] at hi; exact hs i hi
      by_cases hk : (nodK ns (l / 2)).1 = 2
      · rcases e : nodK ns (l / 2) with ⟨kd, a, b⟩
        rw [e] at hk
        obtain rfl : kd = 2 := hk
        have hab := hw _ a b e
        rw [mk_gate hw h e]
        obtain ⟨t1, t2⟩ := hT l hl a b e
        exact mk_least hw T hT q (xs b l) (by rw [xs_div]; omega) t2 _ (mk_least hw T hT q (xs a l) (by rw [xs_div]; omega) t1 _ hu)
      · rw [mk_leaf h hk]
        exact hu
/-- the marks of all roots -/
def mks (ns : Nds) (ls : List Nat) : Nat → Bool := ls.foldl (fun s l => mk ns l s) (fun _ => false)
theorem mks_all {ns : Nds} (hw : WFN ns) : ∀ (ls : List Nat) (s : Nat → Bool), (∀ i, s i = true → clAt ns s i) → (∀ l ∈ ls, (ls.foldl (fun s l => mk ns l s) s) l = true) ∧ (∀ i, s i = true → (ls.foldl (fun s l => mk ns l s) s) i = true) ∧ (∀ i, (ls.foldl (fun s l => mk ns l s) s) i = true → clAt ns (ls.foldl (fun s l => mk ns l s) s) i) ∧ ∀ T : Nat → Prop, (∀ i, T i → ∀ a b, nodK ns (i / 2) = (2, (a, b)) → T (xs a i) ∧ T (xs b i)) → (∀ l ∈ ls, T l) → (∀ i, s i = true → T i) → ∀ i, (ls.foldl (fun s l => mk ns l s) s) i = true → T i := by
  intro ls
  induction ls with
  | nil => exact fun s hs => ⟨fun l hl => absurd hl (by simp), fun i hi => hi, hs, fun T _ _ h3 => h3⟩
  | cons x r ih =>
    intro s hs
    rw [List.foldl_cons]
    have hc : ∀ i, (mk ns x s) i = true → clAt ns (mk ns x s) i := fun i hi => by
      rcases mk_closed hw (x / 2 + 1) x (by omega) (fun _ => False) s (fun i h => h.elim) (fun i hi => Or.inr (hs i hi)) i hi with h | h
      · exact h.elim
      · exact h
    obtain ⟨u1, u2⟩ := mk_up hw (x / 2 + 1) x (by omega) s
    obtain ⟨i1, i2, i3, i4⟩ := ih (mk ns x s) hc
    refine ⟨fun l hl => ?_, fun i hi => i2 i (u2 i hi), i3, fun T h1 h2 h3 => i4 T h1 (fun l hl => h2 l (List.mem_cons_of_mem _ hl)) (mk_least hw T h1 (x / 2 + 1) x (by omega) (h2 x List.mem_cons_self) s h3)⟩
    rcases List.mem_cons.1 hl with e | e
    · rw [e]; exact i2 x u1
    · exact i1 l e
end Go.Proofs.Ytkomadlmonhlhaa
namespace Go.Proofs.Ytkomadlmonhlhaa
open Go.ChangeShapes Go.WideShapes Go.ChangeAt Go.RowKit Go.Lib Go.Ag Go.WideMaps Go.Maps Go.ChangeMaps Go.Cn

/-- a gate whose operands stand ahead of it -/
structure OG (g : GT) : Prop where
  n : 0 < g.1
  a : g.2.1 ≠ 0 ∧ -g.1 < g.2.1 ∧ g.2.1 < g.1
  b : g.2.2 ≠ 0 ∧ -g.1 < g.2.2 ∧ g.2.2 < g.1
theorem has_grow (f : Nat → Nat) {l x : Int} (hl : l ≠ 0) (hx : x ≠ 0) (h : hasM f x = true) : hasM (addM f l) x = true := by rw [hasM_add f hl hx, h]; rfl
theorem has_self (f : Nat → Nat) {l : Int} (hl : l ≠ 0) : hasM (addM f l) l = true := by rw [hasM_add f hl hl]; simp
theorem has_back {f : Nat → Nat} {l x : Int} (hl : l ≠ 0) (hx : x ≠ 0) (hn : x ≠ l) (h : hasM (addM f l) x = true) : hasM f x = true := by
  rw [hasM_add f hl hx, decide_eq_false hn, Bool.or_false] at h
  exact h
theorem one_grow {f : Nat → Nat} {g : GT} (hg : OG g) {x : Int} (hx : x ≠ 0) (h : hasM f x = true) : hasM (wOne f g) x = true := by
  unfold wOne
  split
  · exact has_grow _ hg.b.1 hx (has_grow _ hg.a.1 hx h)
  · exact h
theorem two_grow {f : Nat → Nat} {g : GT} (hg : OG g) {x : Int} (hx : x ≠ 0) (h : hasM f x = true) : hasM (wTwo f g) x = true := by
  have h1 := hg.a
  have h2 := hg.b
  unfold wTwo
  split
  · exact has_grow _ (by omega) hx (has_grow _ (by omega) hx h)
  · exact h
theorem gate_grow {f : Nat → Nat} {g : GT} (hg : OG g) {x : Int} (hx : x ≠ 0) (h : hasM f x = true) : hasM (wGate f g) x = true := two_grow hg hx (one_grow hg hx h)
/-- a gate's marks are of what stands ahead of it -/
theorem gate_back {f : Nat → Nat} {g : GT} (hg : OG g) {x : Int} (hx : g.1 ≤ x ∨ x ≤ -g.1) (h : hasM (wGate f g) x = true) : hasM f x = true := by
  have h0 := hg.n
  have h1 := hg.a
  have h2 := hg.b
  have hx0 : x ≠ 0 := by omega
  have p1 : hasM (wOne f g) x = true := by
    unfold wGate wTwo at h
    split at h
    · exact has_back (by omega) hx0 (by omega) (has_back (by omega) hx0 (by omega) h)
    · exact h
  unfold wOne at p1
  split at p1
  · exact has_back (by omega) hx0 (by omega) (has_back (by omega) hx0 (by omega) p1)
  · exact p1
theorem gate_marks {f : Nat → Nat} {g : GT} (hg : OG g) : (hasM (wGate f g) g.1 = true → hasM (wGate f g) g.2.1 = true ∧ hasM (wGate f g) g.2.2 = true) ∧ (hasM (wGate f g) (-g.1) = true → hasM (wGate f g) (-g.2.1) = true ∧ hasM (wGate f g) (-g.2.2) = true) := by
  have h0 := hg.n
  have h1 := hg.a
  have h2 := hg.b
  constructor
  · intro h
    have h3 := gate_back hg (Or.inl (Int.le_refl _)) h
    have e : wOne f g = addM (addM f g.2.1) g.2.2 := by unfold wOne; rw [if_pos h3]
    unfold wGate
    rw [e]
    exact ⟨two_grow hg h1.1 (has_grow _ h2.1 h1.1 (has_self _ h1.1)), two_grow hg h2.1 (has_self _ h2.1)⟩
  · intro h
    have h3 := gate_back hg (Or.inr (Int.le_refl _)) h
    have h4 : hasM (wOne f g) (-g.1) = true := one_grow hg (by omega) h3
    unfold wGate
    have e : wTwo (wOne f g) g = addM (addM (wOne f g) (-g.2.1)) (-g.2.2) := by unfold wTwo; rw [if_pos h4]
    rw [e]
    exact ⟨has_grow _ (by omega) (by omega) (has_self _ (by omega)), has_self _ (by omega)⟩
/-- marks are closed -/
theorem want_closed (f0 : Nat → Nat) : ∀ gs : List GT, gs.Pairwise (fun g h => g.1 < h.1) → (∀ g ∈ gs, OG g) → ∀ g ∈ gs, (hasM (gs.foldr (fun g f => wGate f g) f0) g.1 = true → hasM (gs.foldr (fun g f => wGate f g) f0) g.2.1 = true ∧ hasM (gs.foldr (fun g f => wGate f g) f0) g.2.2 = true) ∧ (hasM (gs.foldr (fun g f => wGate f g) f0) (-g.1) = true → hasM (gs.foldr (fun g f => wGate f g) f0) (-g.2.1) = true ∧ hasM (gs.foldr (fun g f => wGate f g) f0) (-g.2.2) = true)
  | [], _, _, g, hm => (List.not_mem_nil hm).elim
  | h :: gs, hp, ho, g, hm => by
    obtain ⟨hp1, hp2⟩ := List.pairwise_cons.1 hp
    have hoh := ho h (by simp)
    rw [List.foldr_cons]
    rcases List.mem_cons.1 hm with e | e
    · rw [e]
      exact gate_marks hoh
    · have ih := want_closed f0 gs hp2 (fun x hx => ho x (by simp [hx])) g e
      have hlt := hp1 g e
      have hog := ho g hm
      have h0 := hog.n
      have h1 := hog.a
      have h2 := hog.b
      refine ⟨fun h5 => ?_, fun h5 => ?_⟩
      · have h6 := ih.1 (gate_back hoh (Or.inl (by omega)) h5)
        exact ⟨gate_grow hoh h1.1 h6.1, gate_grow hoh h2.1 h6.2⟩
      · have h6 := ih.2 (gate_back hoh (Or.inr (by omega)) h5)
        exact ⟨gate_grow hoh (by omega) h6.1, gate_grow hoh (by omega) h6.2⟩
theorem fold_grow (f0 : Nat → Nat) {x : Int} (hx : x ≠ 0) (h : hasM f0 x = true) : ∀ gs : List GT, (∀ g ∈ gs, OG g) → hasM (gs.foldr (fun g f => wGate f g) f0) x = true
  | [], _ => h
  | g :: gs, ho => by
    rw [List.foldr_cons]
    exact gate_grow (ho g (by simp)) hx (fold_grow f0 hx h gs (fun y hy => ho y (by simp [hy])))
theorem want_eq (cn ls : List Nat) (gs : List GT) : wantM cn ls gs = gs.foldr (fun g f => wGate f g) (ls.foldl (wRoot cn) (fun _ => 0)) := by
  unfold wantM
  rw [List.foldl_reverse]
theorem roots_mark (cn : List Nat) : ∀ (ls : List Nat) (f : Nat → Nat) (l : Nat), litI cn l ≠ 0 → (l ∈ ls ∨ hasM f (litI cn l) = true) → hasM (ls.foldl (wRoot cn) f) (litI cn l) = true
  | [], f, l, _, h => h.elim (fun h => (List.not_mem_nil h).elim) id
  | r :: ls, f, l, hl, h => by
    rw [List.foldl_cons]
    refine roots_mark cn ls (wRoot cn f r) l hl ?_
    have hg : hasM f (litI cn l) = true → hasM (wRoot cn f r) (litI cn l) = true := fun h2 => by
      unfold wRoot
      split
      · exact h2
      · rename_i hr
        exact has_grow _ hr hl h2
    rcases h with h | h
    · rcases List.mem_cons.1 h with e | e
      · refine Or.inr ?_
        rw [e] at hl ⊢
        unfold wRoot
        rw [if_neg hl]
        exact has_self _ hl
      · exact Or.inl e
    · exact Or.inr (hg h)
theorem gts_pair {ns : Nds} {cn ls : List Nat} (hc : CN ns cn ls) : ∀ k, k ≤ cn.length → (gts ns cn k).Pairwise (fun g h => g.1 < h.1)
  | 0, _ => by simp [gts]
  | k + 1, hk => by
    rw [gts_succ, List.pairwise_append]
    refine ⟨gts_pair hc k (by omega), ?_, fun g hg h hh => ?_⟩
    · unfold gtAt
      split <;> simp
    · obtain ⟨i, n, a, b, h1, _, _, rfl⟩ := gts_mem hc k (by omega) hg
      unfold gtAt at hh
      split at hh
      · rw [List.mem_singleton] at hh
        rw [hh]
        show (i : Int) + 1 < (k : Int) + 1
        omega
      · cases hh
theorem take_vN {cn : List Nat} (hd : cn.Nodup) {n i : Nat} (h : n ∈ cn.take i) : 0 < vN cn n ∧ vN cn n ≤ i := by
  obtain ⟨j, hj, e⟩ := List.getElem_of_mem h
  rw [List.length_take] at hj
  rw [List.getElem_take] at e
  have h2 : cn[j]? = some n := by rw [List.getElem?_eq_getElem (by omega), e]
  rw [vN_at hd h2]
  omega
theorem gts_og {ns : Nds} {cn ls : List Nat} (hc : CN ns cn ls) {g : GT} (hm : g ∈ gts ns cn cn.length) : OG g := by
  obtain ⟨i, n, a, b, h1, h2, h3, rfl⟩ := gts_mem hc _ (Nat.le_refl _) hm
  have h4 := hc.ops i n a b h2 h3
  have ha := take_vN hc.nd h4.1
  have hb := take_vN hc.nd h4.2
  refine ⟨by show (0 : Int) < (i : Int) + 1; omega, ⟨litI_ne (List.mem_of_mem_take h4.1), ?_⟩, ⟨litI_ne (List.mem_of_mem_take h4.2), ?_⟩⟩
  · show -((i : Int) + 1) < litI cn a ∧ litI cn a < (i : Int) + 1
    unfold litI
    split <;> omega
  · show -((i : Int) + 1) < litI cn b ∧ litI cn b < (i : Int) + 1
    unfold litI
    split <;> omega
end Go.Proofs.Ytkomadlmonhlhaa
namespace Go.Proofs.Ytkomadlmonhlhaa
open Go.ChangeShapes Go.WideShapes Go.ChangeAt Go.RowKit Go.Lib Go.Ag Go.WideMaps Go.Maps Go.ChangeMaps Go.Cn

theorem litI_even {cn : List Nat} (hd : cn.Nodup) {i n : Nat} (h : cn[i]? = some n) : litI cn (2 * n) = (i : Int) + 1 := by
  unfold litI
  rw [if_neg (by omega), show 2 * n / 2 = n by omega, vN_at hd h]
  simp
theorem litI_odd {cn : List Nat} (hd : cn.Nodup) {i n : Nat} (h : cn[i]? = some n) : litI cn (2 * n + 1) = -((i : Int) + 1) := by
  unfold litI
  rw [if_pos (by omega), show (2 * n + 1) / 2 = n by omega, vN_at hd h]
  simp
theorem litI_xs_even (cn : List Nat) (a : Nat) {l : Nat} (hl : l % 2 = 0) : litI cn (xs a l) = litI cn a := by
  unfold xs
  rw [if_neg (by omega)]
theorem litI_xs_odd (cn : List Nat) (a : Nat) {l : Nat} (hl : l % 2 = 1) : litI cn (xs a l) = -litI cn a := by
  unfold xs litI
  rw [if_pos hl]
  by_cases h : a % 2 = 1
  · rw [if_pos h, if_neg (by omega), if_pos h, show (a - 1) / 2 = a / 2 by omega]
    simp
  · rw [if_neg h, if_pos (by omega), if_neg h, show (a + 1) / 2 = a / 2 by omega]
/-- a literal of the cone is told by its number -/
theorem litI_is {cn : List Nat} (hd : cn.Nodup) {i n l : Nat} (h : cn[i]? = some n) (hl : l / 2 ∈ cn) : (litI cn l = (i : Int) + 1 → l = 2 * n) ∧ (litI cn l = -((i : Int) + 1) → l = 2 * n + 1) := by
  obtain ⟨j, hj⟩ := List.mem_iff_getElem?.1 hl
  have hv := vN_at hd hj
  have hij : j = i → l / 2 = n := fun e => by rw [e, h] at hj; exact (Option.some.inj hj).symm
  unfold litI
  rw [hv]
  constructor
  · intro e
    by_cases ho : l % 2 = 1
    · rw [if_pos ho] at e; omega
    · rw [if_neg ho] at e
      have := hij (by omega)
      omega
  · intro e
    by_cases ho : l % 2 = 1
    · rw [if_pos ho] at e
      have := hij (by omega)
      omega
    · rw [if_neg ho] at e; omega
/-- each mark is one that the document makes -/
def SND (cn : List Nat) (D : Nat → Bool) (f : Nat → Nat) : Prop := ∀ x, x ≠ 0 → hasM f x = true → ∃ l, l / 2 ∈ cn ∧ litI cn l = x ∧ D l = true
theorem SND.add {cn : List Nat} {D : Nat → Bool} {f : Nat → Nat} (h : SND cn D f) {l : Nat} (hl : l / 2 ∈ cn) (hD : D l = true) : SND cn D (addM f (litI cn l)) := fun x hx hh => by
  rw [hasM_add f (litI_ne hl) hx] at hh
  rw [Bool.or_eq_true] at hh
  rcases hh with h1 | h1
  · exact h x hx h1
  · exact ⟨l, hl, (of_decide_eq_true h1).symm, hD⟩
theorem SND.root {cn : List Nat} {D : Nat → Bool} {f : Nat → Nat} (h : SND cn D f) {l : Nat} (hD : D l = true) : SND cn D (wRoot cn f l) := by
  unfold wRoot
  by_cases h0 : litI cn l = 0
  · rw [if_pos h0]; exact h
  · rw [if_neg h0]
    exact h.add (by by_cases hm : l / 2 ∈ cn; exact hm; exact absurd (litI_zero hm) h0) hD
theorem SND.roots {cn : List Nat} {D : Nat → Bool} : ∀ (ls : List Nat) (f : Nat → Nat), SND cn D f → (∀ l ∈ ls, D l = true) → SND cn D (ls.foldl (wRoot cn) f)
  | [], _, h, _ => h
  | x :: r, f, h, hD => by
    rw [List.foldl_cons]
    exact SND.roots r _ (h.root (hD x List.mem_cons_self)) (fun l hl => hD l (List.mem_cons_of_mem _ hl))
theorem SND.gate {ns : Nds} {cn ls : List Nat} (hc : CN ns cn ls) {D : Nat → Bool} (hcl : ∀ i, D i = true → clAt ns D i) {f : Nat → Nat} (h : SND cn D f) {g : GT} (hg : g ∈ gts ns cn cn.length) : SND cn D (wGate f g) := by
  obtain ⟨i, n, a, b, hi, hn, hk, rfl⟩ := gts_mem hc cn.length (Nat.le_refl _) hg
  have hop := hc.ops i n a b hn hk
  have ha : a / 2 ∈ cn := List.mem_of_mem_take hop.1
  have hb : b / 2 ∈ cn := List.mem_of_mem_take hop.2
  have h1 : SND cn D (wOne f ((i : Int) + 1, litI cn a, litI cn b)) := by
    unfold wOne
    by_cases hh : hasM f ((i : Int) + 1) = true
    · rw [if_pos hh]
      obtain ⟨l, e1, e2, e3⟩ := h _ (by omega) hh
      have e4 := (litI_is hc.nd hn e1).1 e2
      have h5 := hcl l e3 a b (by rw [e4, show 2 * n / 2 = n by omega]; exact hk)
      have hev : l % 2 = 0 := by omega
      have x1 : xs a l = a := by unfold xs; rw [if_neg (by omega)]
      have x2 : xs b l = b := by unfold xs; rw [if_neg (by omega)]
      rw [x1, x2] at h5
      exact (h.add ha h5.1).add hb h5.2
    · rw [if_neg hh]; exact h
  show SND cn D (wTwo (wOne f ((i : Int) + 1, litI cn a, litI cn b)) ((i : Int) + 1, litI cn a, litI cn b))
  unfold wTwo
  by_cases hh : hasM (wOne f ((i : Int) + 1, litI cn a, litI cn b)) (-((i : Int) + 1)) = true
  · rw [if_pos hh]
    obtain ⟨l, e1, e2, e3⟩ := h1 _ (by omega) hh
    have e4 := (litI_is hc.nd hn e1).2 e2
    have h5 := hcl l e3 a b (by rw [e4, show (2 * n + 1) / 2 = n by omega]; exact hk)
    have hod : l % 2 = 1 := by omega
    show SND cn D (addM (addM _ (-litI cn a)) (-litI cn b))
    rw [← litI_xs_odd cn a hod, ← litI_xs_odd cn b hod]
    exact (h1.add (by rw [xs_div]; exact ha) h5.1).add (by rw [xs_div]; exact hb) h5.2
  · rw [if_neg hh]; exact h1
/-- the program's marks are the document's -/
theorem want_mks {ns : Nds} (hgs : GS ns) {ls : List Nat} (hl : ∀ l ∈ ls, l / 2 ≤ ns.length) {i n : Nat} (hn : (coneS ns ls).2[i]? = some n) :
    hasM (wantM (coneS ns ls).2 ls (gts ns (coneS ns ls).2 (coneS ns ls).2.length)) ((i : Int) + 1) = mks ns ls (2 * n) ∧ hasM (wantM (coneS ns ls).2 ls (gts ns (coneS ns ls).2 (coneS ns ls).2.length)) (-((i : Int) + 1)) = mks ns ls (2 * n + 1) := by
  have hc := cn_cone hgs hl
  have hw := gs_wf hgs
  obtain ⟨m1, _, m3, m4⟩ := mks_all hw ls (fun _ => false) (fun i h => absurd h (by simp))
  generalize (coneS ns ls).2 = cn at *
  have hD1 : ∀ l ∈ ls, mks ns ls l = true := m1
  have hD3 : ∀ i, mks ns ls i = true → clAt ns (mks ns ls) i := m3
  have hsnd : SND cn (mks ns ls) (wantM cn ls (gts ns cn cn.length)) := by
    rw [want_eq]
    have h0 : SND cn (mks ns ls) (ls.foldl (wRoot cn) (fun _ => 0)) := SND.roots ls _ (fun x _ h => absurd h (by unfold hasM; simp)) hD1
    have hg : ∀ gs : List GT, (∀ g ∈ gs, g ∈ gts ns cn cn.length) → SND cn (mks ns ls) (gs.foldr (fun g f => wGate f g) (ls.foldl (wRoot cn) (fun _ => 0))) := by
      intro gs
      induction gs with
      | nil => exact fun _ => h0
      | cons g r ih => exact fun hm => SND.gate hc hD3 (ih (fun g' hg' => hm g' (List.mem_cons_of_mem _ hg'))) (hm g List.mem_cons_self)
    exact hg _ (fun g h => h)
  have hclo : ∀ g ∈ gts ns cn cn.length, (hasM (wantM cn ls (gts ns cn cn.length)) g.1 = true → hasM (wantM cn ls (gts ns cn cn.length)) g.2.1 = true ∧ hasM (wantM cn ls (gts ns cn cn.length)) g.2.2 = true) ∧ (hasM (wantM cn ls (gts ns cn cn.length)) (-g.1) = true → hasM (wantM cn ls (gts ns cn cn.length)) (-g.2.1) = true ∧ hasM (wantM cn ls (gts ns cn cn.length)) (-g.2.2) = true) := by
    rw [want_eq]
    exact want_closed _ _ (gts_pair hc cn.length (Nat.le_refl _)) (fun g hg => gts_og hc hg)
  have hrt : ∀ l ∈ ls, litI cn l ≠ 0 → hasM (wantM cn ls (gts ns cn cn.length)) (litI cn l) = true := fun l hm h0 => by
    rw [want_eq]
    exact fold_grow _ h0 (roots_mark cn ls _ l h0 (Or.inl hm)) _ (fun g hg => gts_og hc hg)
  have hT : ∀ l, mks ns ls l = true → l / 2 = 0 ∨ (l / 2 ∈ cn ∧ hasM (wantM cn ls (gts ns cn cn.length)) (litI cn l) = true) := by
    refine m4 (fun l => l / 2 = 0 ∨ (l / 2 ∈ cn ∧ hasM (wantM cn ls (gts ns cn cn.length)) (litI cn l) = true)) (fun l hl a b hk => ?_) (fun l hm => ?_) (fun i h => absurd h (by simp))
    · rcases hl with h0 | ⟨h1, h2⟩
      · rw [h0] at hk
        exact absurd (nodK_gate hk).1 (by omega)
      · obtain ⟨j, hj⟩ := List.mem_iff_getElem?.1 h1
        have hop := hc.ops j (l / 2) a b hj hk
        have hmem : ((j : Int) + 1, litI cn a, litI cn b) ∈ gts ns cn cn.length := by
          unfold gts
          refine List.mem_flatMap.2 ⟨j, List.mem_range.2 (List.getElem?_eq_some_iff.1 hj).1, ?_⟩
          have e9 : cn.getD j 0 = l / 2 := by rw [List.getD_eq_getElem?_getD, hj]; rfl
          unfold gtAt
          rw [e9, hk, if_pos rfl]
          exact List.mem_singleton.2 rfl
        have hcg := hclo _ hmem
        rcases Nat.mod_two_eq_zero_or_one l with e | e
        · have e2 : l = 2 * (l / 2) := by omega
          have e3 : litI cn l = (j : Int) + 1 := by rw [e2]; exact litI_even hc.nd hj
          rw [e3] at h2
          have h5 := hcg.1 h2
          exact ⟨Or.inr ⟨by rw [xs_div]; exact List.mem_of_mem_take hop.1, by rw [litI_xs_even cn a e]; exact h5.1⟩, Or.inr ⟨by rw [xs_div]; exact List.mem_of_mem_take hop.2, by rw [litI_xs_even cn b e]; exact h5.2⟩⟩
        · have e2 : l = 2 * (l / 2) + 1 := by omega
          have e3 : litI cn l = -((j : Int) + 1) := by rw [e2]; exact litI_odd hc.nd hj
          rw [e3] at h2
          have h5 := hcg.2 h2
          exact ⟨Or.inr ⟨by rw [xs_div]; exact List.mem_of_mem_take hop.1, by rw [litI_xs_odd cn a e]; exact h5.1⟩, Or.inr ⟨by rw [xs_div]; exact List.mem_of_mem_take hop.2, by rw [litI_xs_odd cn b e]; exact h5.2⟩⟩
    · by_cases h2 : 2 ≤ l
      · have hm2 := hc.rt l hm h2
        exact Or.inr ⟨hm2, hrt l hm (litI_ne hm2)⟩
      · exact Or.inl (by omega)
  have hn0 := (hc.bd n (List.mem_of_getElem? hn)).1
  constructor
  · apply Bool.eq_iff_iff.2
    constructor
    · intro h
      obtain ⟨l, e1, e2, e3⟩ := hsnd _ (by omega) h
      rw [← (litI_is hc.nd hn e1).1 e2]
      exact e3
    · intro h
      rcases hT _ h with h0 | ⟨_, h2⟩
      · omega
      · rw [litI_even hc.nd hn] at h2
        exact h2
  · apply Bool.eq_iff_iff.2
    constructor
    · intro h
      obtain ⟨l, e1, e2, e3⟩ := hsnd _ (by omega) h
      rw [← (litI_is hc.nd hn e1).2 e2]
      exact e3
    · intro h
      rcases hT _ h with h0 | ⟨_, h2⟩
      · omega
      · rw [litI_odd hc.nd hn] at h2
        exact h2
end Go.Proofs.Ytkomadlmonhlhaa
