import Derived.Test.YtbkkdoehggkecaaTqA
namespace Go.Proofs.Ytbkkdoehggkecaa
open Go.ChangeShapes Go.WideShapes Go.ChangeAt Go.RowKit Go.Lib Go.Ag Go.WideMaps Go.Maps Go.ChangeMaps Go.Cn

/-- a gate whose operands stand ahead of it -/
structure OG (g : GT) : Prop where
  n : 0 < g.1
  a : g.2.1 ≠ 0 ∧ -g.1 < g.2.1 ∧ g.2.1 < g.1
  b : g.2.2 ≠ 0 ∧ -g.1 < g.2.2 ∧ g.2.2 < g.1
theorem has_grow (f : Nat → Nat) {l x : Int} (hl : l ≠ 0) (hx : x ≠ 0) (h : hasM f x = true) : hasM (addM f l) x = true := by rw [hasM_add f hl hx, h]; rfl
theorem has_self (f : Nat → Nat) {l : Int} (hl : l ≠ 0) : hasM (addM f l) l = true := by rw [hasM_add f hl hl]; simp
theorem has_back {f : Nat → Nat} {l x : Int} (hl : l ≠ 0) (hx : x ≠ 0) (hn : x ≠ l) (h : hasM (addM f l) x = true) : hasM f x = true := by
  rw [hasM_add f hl hx, decide_eq_false hn, Bool.or_false] at h
  exact h
theorem one_grow {f : Nat → Nat} {g : GT} (hg : OG g) {x : Int} (hx : x ≠ 0) (h : hasM f x = true) : hasM (wOne f g) x = true := by
  unfold wOne
  split
  · exact has_grow _ hg.b.1 hx (has_grow _ hg.a.1 hx h)
  · exact h
theorem two_grow {f : Nat → Nat} {g : GT} (hg : OG g) {x : Int} (hx : x ≠ 0) (h : hasM f x = true) : hasM (wTwo f g) x = true := by
  have h1 := hg.a
  have h2 := hg.b
  unfold wTwo
  split
  · exact has_grow _ (by omega) hx (has_grow _ (by omega) hx h)
  · exact h
theorem gate_grow {f : Nat → Nat} {g : GT} (hg : OG g) {x : Int} (hx : x ≠ 0) (h : hasM f x = true) : hasM (wGate f g) x = true := two_grow hg hx (one_grow hg hx h)
/-- a gate's marks are of what stands ahead of it -/
theorem gate_back {f : Nat → Nat} {g : GT} (hg : OG g) {x : Int} (hx : g.1 ≤ x ∨ x ≤ -g.1) (h : hasM (wGate f g) x = true) : hasM f x = true := by
  have h0 := hg.n
  have h1 := hg.a
  have h2 := hg.b
  have hx0 : x ≠ 0 := by omega
  have p1 : hasM (wOne f g) x = true := by
    unfold wGate wTwo at h
    split at h
    · exact has_back (by omega) hx0 (by omega) (has_back (by omega) hx0 (by omega) h)
    · exact h
  unfold wOne at p1
  split at p1
  · exact has_back (by omega) hx0 (by omega) (has_back (by omega) hx0 (by omega) p1)
  · exact p1
theorem gate_marks {f : Nat → Nat} {g : GT} (hg : OG g) : (hasM (wGate f g) g.1 = true → hasM (wGate f g) g.2.1 = true ∧ hasM (wGate f g) g.2.2 = true) ∧ (hasM (wGate f g) (-g.1) = true → hasM (wGate f g) (-g.2.1) = true ∧ hasM (wGate f g) (-g.2.2) = true) := by
  have h0 := hg.n
  have h1 := hg.a
  have h2 := hg.b
  constructor
  · intro h
    have h3 := gate_back hg (Or.inl (Int.le_refl _)) h
    have e : wOne f g = addM (addM f g.2.1) g.2.2 := by unfold wOne; rw [if_pos h3]
    unfold wGate
    rw [e]
    exact ⟨two_grow hg h1.1 (has_grow _ h2.1 h1.1 (has_self _ h1.1)), two_grow hg h2.1 (has_self _ h2.1)⟩
  · intro h
    have h3 := gate_back hg (Or.inr (Int.le_refl _)) h
    have h4 : hasM (wOne f g) (-g.1) = true := one_grow hg (by omega) h3
    unfold wGate
    have e : wTwo (wOne f g) g = addM (addM (wOne f g) (-g.2.1)) (-g.2.2) := by unfold wTwo; rw [if_pos h4]
    rw [e]
    exact ⟨has_grow _ (by omega) (by omega) (has_self _ (by omega)), has_self _ (by omega)⟩
/-- marks are closed -/
theorem want_closed (f0 : Nat → Nat) : ∀ gs : List GT, gs.Pairwise (fun g h => g.1 < h.1) → (∀ g ∈ gs, OG g) → ∀ g ∈ gs, (hasM (gs.foldr (fun g f => wGate f g) f0) g.1 = true → hasM (gs.foldr (fun g f => wGate f g) f0) g.2.1 = true ∧ hasM (gs.foldr (fun g f => wGate f g) f0) g.2.2 = true) ∧ (hasM (gs.foldr (fun g f => wGate f g) f0) (-g.1) = true → hasM (gs.foldr (fun g f => wGate f g) f0) (-g.2.1) = true ∧ hasM (gs.foldr (fun g f => wGate f g) f0) (-g.2.2) = true)
  | [], _, _, g, hm => (List.not_mem_nil hm).elim
  | h :: gs, hp, ho, g, hm => by
    obtain ⟨hp1, hp2⟩ := List.pairwise_cons.1 hp
    have hoh := ho h (by simp)
    rw [List.foldr_cons]
    rcases List.mem_cons.1 hm with e | e
    · rw [e]
      exact gate_marks hoh
    · have ih := want_closed f0 gs hp2 (fun x hx => ho x (by simp [hx])) g e
      have hlt := hp1 g e
      have hog := ho g hm
      have h0 := hog.n
      have h1 := hog.a
      have h2 := hog.b
      refine ⟨fun h5 => ?_, fun h5 => ?_⟩
      · have h6 := ih.1 (gate_back hoh (Or.inl (by omega)) h5)
        exact ⟨gate_grow hoh h1.1 h6.1, gate_grow hoh h2.1 h6.2⟩
      · have h6 := ih.2 (gate_back hoh (Or.inr (by omega)) h5)
        exact ⟨gate_grow hoh (by omega) h6.1, gate_grow hoh (by omega) h6.2⟩
theorem fold_grow (f0 : Nat → Nat) {x : Int} (hx : x ≠ 0) (h : hasM f0 x = true) : ∀ gs : List GT, (∀ g ∈ gs, OG g) → hasM (gs.foldr (fun g f => wGate f g) f0) x = true
  | [], _ => h
  | g :: gs, ho => by
    rw [List.foldr_cons]
    exact gate_grow (ho g (by simp)) hx (fold_grow f0 hx h gs (fun y hy => ho y (by simp [hy])))
theorem want_eq (cn ls : List Nat) (gs : List GT) : wantM cn ls gs = gs.foldr (fun g f => wGate f g) (ls.foldl (wRoot cn) (fun _ => 0)) := by
  unfold wantM
  rw [List.foldl_reverse]
theorem roots_mark (cn : List Nat) : ∀ (ls : List Nat) (f : Nat → Nat) (l : Nat), litI cn l ≠ 0 → (l ∈ ls ∨ hasM f (litI cn l) = true) → hasM (ls.foldl (wRoot cn) f) (litI cn l) = true
  | [], f, l, _, h => h.elim (fun h => (List.not_mem_nil h).elim) id
  | r :: ls, f, l, hl, h => by
    rw [List.foldl_cons]
    refine roots_mark cn ls (wRoot cn f r) l hl ?_
    have hg : hasM f (litI cn l) = true → hasM (wRoot cn f r) (litI cn l) = true := fun h2 => by
      unfold wRoot
      split
      · exact h2
      · rename_i hr
        exact has_grow _ hr hl h2
    rcases h with h | h
    · rcases List.mem_cons.1 h with e | e
      · refine Or.inr ?_
        rw [e] at hl ⊢
        unfold wRoot
        rw [if_neg hl]
        exact has_self _ hl
      · exact Or.inl e
    · exact Or.inr (hg h)
theorem gts_pair {ns : Nds} {cn ls : List Nat} (hc : CN ns cn ls) : ∀ k, k ≤ cn.length → (gts ns cn k).Pairwise (fun g h => g.1 < h.1)
  | 0, _ => by simp [gts]
  | k + 1, hk => by
    rw [gts_succ, List.pairwise_append]
    refine ⟨gts_pair hc k (by omega), ?_, fun g hg h hh => ?_⟩
    · unfold gtAt
      split <;> simp
    · obtain ⟨i, n, a, b, h1, _, _, rfl⟩ := gts_mem hc k (by omega) hg
      unfold gtAt at hh
      split at hh
      · rw [List.mem_singleton] at hh
        rw [hh]
        show (i : Int) + 1 < (k : Int) + 1
        omega
      · cases hh
theorem take_vN {cn : List Nat} (hd : cn.Nodup) {n i : Nat} (h : n ∈ cn.take i) : 0 < vN cn n ∧ vN cn n ≤ i := by
  obtain ⟨j, hj, e⟩ := List.getElem_of_mem h
  rw [List.length_take] at hj
  rw [List.getElem_take] at e
  have h2 : cn[j]? = some n := by rw [List.getElem?_eq_getElem (by omega), e]
  rw [vN_at hd h2]
  omega
theorem gts_og {ns : Nds} {cn ls : List Nat} (hc : CN ns cn ls) {g : GT} (hm : g ∈ gts ns cn cn.length) : OG g := by
  obtain ⟨i, n, a, b, h1, h2, h3, rfl⟩ := gts_mem hc _ (Nat.le_refl _) hm
  have h4 := hc.ops i n a b h2 h3
  have ha := take_vN hc.nd h4.1
  have hb := take_vN hc.nd h4.2
  refine ⟨by show (0 : Int) < (i : Int) + 1; omega, ⟨litI_ne (List.mem_of_mem_take h4.1), ?_⟩, ⟨litI_ne (List.mem_of_mem_take h4.2), ?_⟩⟩
  · show -((i : Int) + 1) < litI cn a ∧ litI cn a < (i : Int) + 1
    unfold litI
    split <;> omega
  · show -((i : Int) + 1) < litI cn b ∧ litI cn b < (i : Int) + 1
    unfold litI
    split <;> omega
end Go.Proofs.Ytbkkdoehggkecaa
namespace Go.Proofs.Ytbkkdoehggkecaa
open Go.ChangeShapes Go.WideShapes Go.ChangeAt Go.RowKit Go.Lib Go.Ag Go.WideMaps Go.Maps Go.ChangeMaps Go.Cn

/-- the inputs are as an assignment of the cone's variables says -/
def Rd (ns : Nds) (cn : List Nat) (ms : List Int) (bs : List Bool) : Prop := ∀ i n j, cn[i]? = some n → nodK ns n = (1, (j, 0)) → bs.getD j false = decide (ms.getD i 0 = 1)
/-- the marks of a gate's operands -/
def Cz (f : Nat → Nat) (g : GT) : Prop := (hasM f g.1 = true → hasM f g.2.1 = true ∧ hasM f g.2.2 = true) ∧ (hasM f (-g.1) = true → hasM f (-g.2.1) = true ∧ hasM f (-g.2.2) = true)
theorem gts_in {ns : Nds} {cn : List Nat} {i n a b : Nat} (h : cn[i]? = some n) (hk : nodK ns n = (2, (a, b))) : ((i : Int) + 1, litI cn a, litI cn b) ∈ gts ns cn cn.length := by
  have hi := (List.getElem?_eq_some_iff.1 h).1
  unfold gts
  rw [List.mem_flatMap]
  refine ⟨i, List.mem_range.2 hi, ?_⟩
  unfold gtAt
  rw [List.getD_eq_getElem?_getD, h]
  show _ ∈ if (nodK ns n).1 = 2 then [((i : Int) + 1, litI cn (nodK ns n).2.1, litI cn (nodK ns n).2.2)] else []
  rw [hk, if_pos rfl]
  simp
theorem litI_at {cn : List Nat} (hd : cn.Nodup) {i l : Nat} (h : cn[i]? = some (l / 2)) : litI cn l = if l % 2 = 1 then -((i : Int) + 1) else (i : Int) + 1 := by
  unfold litI
  rw [vN_at hd h]
  split <;> omega
theorem litI_not (cn : List Nat) (l : Nat) : litI cn (notN l) = -litI cn l := by
  have h1 := not_half l
  have h2 : notN l % 2 = 1 - l % 2 := by
    have h4 : notN (notN l) = l := not_not l
    unfold notN at *
    have h5 : l ^^^ 1 ≠ l := fun e => by
      have h6 : (l ^^^ 1) ^^^ l = 0 := by rw [e, Nat.xor_self]
      rw [Nat.xor_comm l 1, Nat.xor_assoc, Nat.xor_self, Nat.xor_zero] at h6
      cases h6
    omega
  unfold litI
  rw [h1, h2]
  rcases Nat.mod_two_eq_zero_or_one l with e | e
  · rw [e, if_pos (by omega), if_neg (by omega)]
  · rw [e, if_neg (by omega), if_pos (by omega), Int.neg_neg]
theorem take_get {cn : List Nat} {n i : Nat} (h : n ∈ cn.take i) : ∃ j, j < i ∧ cn[j]? = some n := by
  obtain ⟨j, hj, e⟩ := List.getElem_of_mem h
  rw [List.length_take] at hj
  rw [List.getElem_take] at e
  exact ⟨j, by omega, by rw [List.getElem?_eq_getElem (by omega), e]⟩
/-- a literal that is wanted and true under an assignment that makes the gates' clauses true is true of the inputs that it says -/
theorem back_lit {ns : Nds} (hg : GS ns) {cn ls : List Nat} (hc : CN ns cn ls) {ms : List Int} (hm : gM ms) (hl : ms.length = cn.length) {bs : List Bool} (hr : Rd ns cn ms bs) {f : Nat → Nat} (hz : ∀ g ∈ gts ns cn cn.length, Cz f g) (hcl : ∀ g ∈ gts ns cn cn.length, (clG f g).all (tC ms) = true) :
    ∀ (k i l : Nat), i < k → cn[i]? = some (l / 2) → hasM f (litI cn l) = true → tL ms (litI cn l) = true → litV (evs (fun i => bs.getD i false) ns) l = true
  | 0, _, _, h, _, _, _ => absurd h (Nat.not_lt_zero _)
  | k + 1, i, l, hik, hi, hh, ht => by
    have hi2 := (List.getElem?_eq_some_iff.1 hi).1
    have hmem : l / 2 ∈ cn := List.mem_of_getElem? hi
    have hbd := hc.bd _ hmem
    have hla := litI_at hc.nd hi
    rw [hla] at hh ht
    unfold litV
    rcases nodK_at hbd.1 hbd.2 with ⟨h1, h2⟩ | ⟨⟨a, b⟩, h1, h2⟩
    · have h3 := evs_inp (fun i => bs.getD i false) h1
      rw [show l / 2 - 1 + 1 = l / 2 by omega] at h3
      rw [h3, hr i (l / 2) _ hi h2]
      rcases Nat.mod_two_eq_zero_or_one l with e | e
      · rw [if_neg (by omega), tL_pos] at ht
        rw [ht, e]
        rfl
      · rw [if_pos e, tL_neg] at ht
        have h5 : ms.getD i 0 = -1 := of_decide_eq_true ht
        rw [h5, e]
        rfl
    · have h3 := evs_at (fun i => bs.getD i false) hg h1
      rw [show l / 2 - 1 + 1 = l / 2 by omega] at h3
      have hgm := gts_in hi h2
      have hgz := hz _ hgm
      have hgc := hcl _ hgm
      obtain ⟨g1, g2, g3⟩ := okg_gL (gts_ok hc _ (Nat.le_refl _) hgm)
      rw [← hl] at g1 g2 g3
      have n1 := tL_not hm g1
      have h4 := hc.ops i _ a b hi h2
      obtain ⟨ja, hja, ea⟩ := take_get h4.1
      obtain ⟨jb, hjb, eb⟩ := take_get h4.2
      unfold clG at hgc
      rw [List.all_append, Bool.and_eq_true] at hgc
      rw [h3]
      rcases Nat.mod_two_eq_zero_or_one l with e | e
      · rw [if_neg (by omega)] at hh ht
        have hc1 := hgc.1
        rw [if_pos (show hasM f ((i : Int) + 1, litI cn a, litI cn b).1 = true from hh)] at hc1
        simp only [List.all_cons, List.all_nil, tC, List.any_cons, List.any_nil, Bool.or_false, Bool.and_true, Bool.and_eq_true] at hc1
        have n2 : tL ms (-((i : Int) + 1)) = !tL ms ((i : Int) + 1) := n1
        rw [n2, ht] at hc1
        have hA : tL ms (litI cn a) = true := by simpa using hc1.1
        have hB : tL ms (litI cn b) = true := by simpa using hc1.2
        have hab := hgz.1 hh
        have hva := back_lit hg hc hm hl hr hz hcl k ja a (by omega) ea hab.1 hA
        have hvb := back_lit hg hc hm hl hr hz hcl k jb b (by omega) eb hab.2 hB
        rw [show litV (evs (fun i => bs.getD i false) ns) (a, b).1 = true from hva, show litV (evs (fun i => bs.getD i false) ns) (a, b).2 = true from hvb, e]
        rfl
      · rw [if_pos e] at hh ht
        have hc2 := hgc.2
        rw [if_pos (show hasM f (-((i : Int) + 1, litI cn a, litI cn b).1) = true from hh)] at hc2
        simp only [List.all_cons, List.all_nil, tC, List.any_cons, List.any_nil, Bool.or_false, Bool.and_true] at hc2
        have n2 : tL ms (-((i : Int) + 1)) = !tL ms ((i : Int) + 1) := n1
        rw [n2] at ht
        have ht2 : tL ms ((i : Int) + 1) = false := by simpa using ht
        rw [ht2, Bool.false_or, Bool.or_eq_true] at hc2
        have hab := hgz.2 hh
        have key : (litV (evs (fun i => bs.getD i false) ns) a && litV (evs (fun i => bs.getD i false) ns) b) = false := by
          rcases hc2 with h7 | h7
          · have hva := back_lit hg hc hm hl hr hz hcl k ja (notN a) (by omega) (by rw [not_half]; exact ea) (by rw [litI_not]; exact hab.1) (by rw [litI_not]; exact h7)
            rw [litV_not] at hva
            have h8 : litV (evs (fun i => bs.getD i false) ns) a = false := by simpa using hva
            rw [h8]
            rfl
          · have hvb := back_lit hg hc hm hl hr hz hcl k jb (notN b) (by omega) (by rw [not_half]; exact eb) (by rw [litI_not]; exact hab.2) (by rw [litI_not]; exact h7)
            rw [litV_not] at hvb
            have h8 : litV (evs (fun i => bs.getD i false) ns) b = false := by simpa using hvb
            rw [h8, Bool.and_false]
        rw [show (litV (evs (fun i => bs.getD i false) ns) (a, b).1 && litV (evs (fun i => bs.getD i false) ns) (a, b).2) = false from key, e]
        rfl
/-- clauses that are true under an assignment make the roots true -/
theorem back_roots {ns : Nds} (hg : GS ns) {cn ls : List Nat} (hc : CN ns cn ls) {ms : List Int} (hm : gM ms) (hl : ms.length = cn.length) {bs : List Bool} (hr : Rd ns cn ms bs) {f : Nat → Nat} (hz : ∀ g ∈ gts ns cn cn.length, Cz f g) (hroot : ∀ l ∈ ls, litI cn l ≠ 0 → hasM f (litI cn l) = true)
    (hcl : (clsN f cn ls (gts ns cn cn.length)).all (tC ms) = true) : ∀ l ∈ ls, litV (evs (fun i => bs.getD i false) ns) l = true := fun l hml => by
  unfold clsN at hcl
  rw [List.all_append, Bool.and_eq_true, List.all_flatMap, List.all_flatMap] at hcl
  have hgs := List.all_eq_true.1 hcl.1
  have hrt := List.all_eq_true.1 hcl.2 l hml
  have hz0 := litV_zero (fun i => bs.getD i false) ns
  unfold clR at hrt
  split at hrt
  · cases hrt
  · split at hrt
    · rename_i e
      rw [e]
      exact hz0.2
    · have hin := hc.rt l hml (by omega)
      obtain ⟨j, h1, _, _⟩ := vN_get hin
      simp only [List.all_cons, List.all_nil, tC, List.any_cons, List.any_nil, Bool.or_false, Bool.and_true] at hrt
      exact back_lit hg hc hm hl hr hz hgs (j + 1) j l (Nat.lt_succ_self _) h1 (hroot l hml (litI_ne hin)) hrt
/-- of all clauses it is just the one that its inputs fill -/
theorem back_fill {ns : Nds} (hg : GS ns) {cn ls : List Nat} (hc : CN ns cn ls) {ms : List Int} (hm : gM ms) (hl : ms.length = cn.length) {bs : List Bool} (hr : Rd ns cn ms bs) (hcl : (clsN allM cn ls (gts ns cn cn.length)).all (tC ms) = true) : fillN ns bs cn = ms := by
  unfold clsN at hcl
  rw [List.all_append, Bool.and_eq_true, List.all_flatMap] at hcl
  have hgs := List.all_eq_true.1 hcl.1
  have hz : ∀ g ∈ gts ns cn cn.length, Cz allM g := fun g _ => ⟨fun _ => ⟨allM_has _, allM_has _⟩, fun _ => ⟨allM_has _, allM_has _⟩⟩
  apply List.ext_getElem?
  intro i
  by_cases hi : i < cn.length
  · have h1 : cn[i]? = some cn[i] := List.getElem?_eq_getElem hi
    have h2 := fill_at ns bs h1
    have h3 : (fillN ns bs cn)[i]? = some ((fillN ns bs cn).getD i 0) := by rw [List.getD_eq_getElem?_getD, List.getElem?_eq_getElem (by rw [fill_len]; exact hi)]; rfl
    have h4 : ms[i]? = some (ms.getD i 0) := by rw [List.getD_eq_getElem?_getD, List.getElem?_eq_getElem (by omega)]; rfl
    rw [h3, h4, h2]
    congr 1
    generalize hn : cn[i] = n at *
    have e1 : cn[i]? = some (2 * n / 2) := by rw [h1]; congr 1; omega
    have e2 : cn[i]? = some ((2 * n + 1) / 2) := by rw [h1]; congr 1; omega
    have l1 : litI cn (2 * n) = (i : Int) + 1 := by rw [litI_at hc.nd e1, if_neg (by omega)]
    have l2 : litI cn (2 * n + 1) = -((i : Int) + 1) := by rw [litI_at hc.nd e2, if_pos (by omega)]
    rcases hm (ms.getD i 0) (int_mem (by omega)) with e | e
    · have h5 := back_lit hg hc hm hl hr hz hgs (i + 1) i (2 * n) (Nat.lt_succ_self _) e1 (allM_has _) (by rw [l1, tL_pos, e]; rfl)
      rw [ev_node] at h5
      rw [h5, e, if_pos rfl]
    · have h5 := back_lit hg hc hm hl hr hz hgs (i + 1) i (2 * n + 1) (Nat.lt_succ_self _) e2 (allM_has _) (by rw [l2, tL_neg, e]; rfl)
      unfold litV at h5
      rw [show (2 * n + 1) / 2 = n by omega, show ((2 * n + 1) % 2 == 1) = true by rw [show (2 * n + 1) % 2 = 1 by omega]; rfl] at h5
      have h6 : (evs (fun i => bs.getD i false) ns).getD n false = false := by
        cases h7 : (evs (fun i => bs.getD i false) ns).getD n false with
        | false => rfl
        | true => rw [h7] at h5; cases h5
      rw [h6, e, if_neg (by decide)]
  · rw [List.getElem?_eq_none (by rw [fill_len]; omega), List.getElem?_eq_none (by omega)]
theorem want_ok {ns : Nds} {cn ls : List Nat} (hc : CN ns cn ls) : (∀ g ∈ gts ns cn cn.length, Cz (wantM cn ls (gts ns cn cn.length)) g) ∧ ∀ l ∈ ls, litI cn l ≠ 0 → hasM (wantM cn ls (gts ns cn cn.length)) (litI cn l) = true := by
  rw [want_eq]
  exact ⟨fun g hg => want_closed _ _ (gts_pair hc _ (Nat.le_refl _)) (fun g hg => gts_og hc hg) g hg, fun l hl h0 => fold_grow _ h0 (roots_mark cn ls _ l h0 (Or.inl hl)) _ (fun g hg => gts_og hc hg)⟩
end Go.Proofs.Ytbkkdoehggkecaa
