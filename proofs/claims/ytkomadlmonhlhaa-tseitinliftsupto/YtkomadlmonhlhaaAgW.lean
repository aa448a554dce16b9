import Derived.Test.YtkomadlmonhlhaaAgV
namespace Go.Proofs.Ytkomadlmonhlhaa
open Go.ChangeShapes Go.WideShapes Go.ChangeAt Go.RowKit Go.Lib Go.Ag Go.WideMaps Go.Maps Go.ChangeMaps Go.Cn

def updB (mt : Nat → Bool) (n : Nat) (i : Nat) : Bool := if i = n then true else mt i
theorem updB_self (mt : Nat → Bool) (n : Nat) : updB mt n n = true := if_pos rfl
theorem updB_ne (mt : Nat → Bool) {n i : Nat} (h : i ≠ n) : updB mt n i = mt i := if_neg h
/-- a node's operands are ahead of it -/
def WFN (ns : Nds) : Prop := ∀ n a b, nodK ns n = (2, (a, b)) → a / 2 < n ∧ b / 2 < n
/-- a node is met behind its operands: which nodes were met, and in which order -/
def meetN (ns : Nds) : Nat → Nat → (Nat → Bool) × List Nat → (Nat → Bool) × List Nat
  | 0, _, s => s
  | f + 1, n, s => if s.1 n = true then s else match nodK ns n with
    | (2, (a, b)) => (updB (meetN ns f (b / 2) (meetN ns f (a / 2) s)).1 n, (meetN ns f (b / 2) (meetN ns f (a / 2) s)).2 ++ [n])
    | _ => (updB s.1 n, s.2 ++ [n])
def meet (ns : Nds) (n : Nat) (s : (Nat → Bool) × List Nat) : (Nat → Bool) × List Nat := meetN ns (n + 1) n s
theorem meetN_fuel {ns : Nds} (hw : WFN ns) : ∀ (f g n : Nat) (s : (Nat → Bool) × List Nat), n < f → n < g → meetN ns f n s = meetN ns g n s
  | 0, _, _, _, h, _ => absurd h (Nat.not_lt_zero _)
  | _, 0, _, _, _, h => absurd h (Nat.not_lt_zero _)
  | f + 1, g + 1, n, s, hf, hg => by
    unfold meetN
    by_cases h : s.1 n = true
    · rw [if_pos h, if_pos h]
    · rw [if_neg h, if_neg h]
      split
      · rename_i a b hk
        have := hw n a b hk
        rw [meetN_fuel hw f g (a / 2) s (by omega) (by omega), meetN_fuel hw f g (b / 2) _ (by omega) (by omega)]
      · rfl
theorem meet_met {ns : Nds} {n : Nat} {s : (Nat → Bool) × List Nat} (h : s.1 n = true) : meet ns n s = s := by
  unfold meet meetN
  rw [if_pos h]
theorem meet_gate {ns : Nds} (hw : WFN ns) {n a b : Nat} {s : (Nat → Bool) × List Nat} (h : s.1 n = false) (hk : nodK ns n = (2, (a, b))) : meet ns n s = (updB (meet ns (b / 2) (meet ns (a / 2) s)).1 n, (meet ns (b / 2) (meet ns (a / 2) s)).2 ++ [n]) := by
  have hab := hw n a b hk
  conv => lhs; unfold meet meetN
  rw [if_neg (by rw [h]; decide), hk]
  show (updB (meetN ns n (b / 2) (meetN ns n (a / 2) s)).1 n, (meetN ns n (b / 2) (meetN ns n (a / 2) s)).2 ++ [n]) = _
  rw [meetN_fuel hw n (a / 2 + 1) (a / 2) s (by omega) (by omega), meetN_fuel hw n (b / 2 + 1) (b / 2) _ (by omega) (by omega)]
  rfl
theorem meet_leaf {ns : Nds} {n : Nat} {s : (Nat → Bool) × List Nat} (h : s.1 n = false) (hk : (nodK ns n).1 ≠ 2) : meet ns n s = (updB s.1 n, s.2 ++ [n]) := by
  unfold meet meetN
  rw [if_neg (by rw [h]; decide)]
  split
  · rename_i a b e
    rw [e] at hk
    exact absurd rfl hk
  · rfl
theorem meet_prop {ns : Nds} (hw : WFN ns) : ∀ (f n : Nat), n < f → ∀ s : (Nat → Bool) × List Nat, (meet ns n s).1 n = true ∧ (∀ i, s.1 i = true → (meet ns n s).1 i = true) ∧ ∀ i, n < i → (meet ns n s).1 i = s.1 i
  | 0, _, h, _ => absurd h (Nat.not_lt_zero _)
  | f + 1, n, hf, s => by
    cases h : s.1 n with
    | true =>
      rw [meet_met h]
      exact ⟨h, fun i hi => hi, fun i _ => rfl⟩
    | false =>
      by_cases hk : (nodK ns n).1 = 2
      · rcases e : nodK ns n with ⟨kd, a, b⟩
        rw [e] at hk
        obtain rfl : kd = 2 := hk
        have hab := hw n a b e
        rw [meet_gate hw h e]
        obtain ⟨a1, a2, a3⟩ := meet_prop hw f (a / 2) (by omega) s
        obtain ⟨b1, b2, b3⟩ := meet_prop hw f (b / 2) (by omega) (meet ns (a / 2) s)
        refine ⟨updB_self _ _, fun i hi => ?_, fun i hi => ?_⟩
        · show updB _ n i = true
          unfold updB
          split
          · rfl
          · exact b2 i (a2 i hi)
        · show updB _ n i = _
          rw [updB_ne _ (by omega), b3 i (by omega), a3 i (by omega)]
      · rw [meet_leaf h hk]
        refine ⟨updB_self _ _, fun i hi => ?_, fun i hi => updB_ne _ (by omega)⟩
        show updB _ n i = true
        unfold updB
        split
        · rfl
        · exact hi
theorem meet_push {ns : Nds} (hw : WFN ns) {n : Nat} {s : (Nat → Bool) × List Nat} (h : s.1 n = false) (hu : unmN ns s.1 n ≠ 0) : meet ns n (meet ns (unmN ns s.1 n) s) = meet ns n s ∧ s.1 (unmN ns s.1 n) = false ∧ unmN ns s.1 n < n := by
  have HU : unmN ns s.1 n = match nodK ns n with
    | (2, (a, b)) => if s.1 (a / 2) = false then a / 2 else if s.1 (b / 2) = false then b / 2 else 0
    | _ => 0 := rfl
  rcases e : nodK ns n with ⟨kd, a, b⟩
  rw [e] at HU
  by_cases hk : kd = 2
  · subst hk
    have hab := hw n a b e
    have HU2 : unmN ns s.1 n = if s.1 (a / 2) = false then a / 2 else if s.1 (b / 2) = false then b / 2 else 0 := HU
    by_cases ha : s.1 (a / 2) = false
    · rw [if_pos ha] at HU2
      rw [HU2]
      refine ⟨?_, ha, hab.1⟩
      obtain ⟨a1, a2, a3⟩ := meet_prop hw (a / 2 + 1) (a / 2) (by omega) s
      rw [meet_gate hw h e, meet_gate hw ((a3 n hab.1).trans h) e, meet_met a1]
    · rw [if_neg ha] at HU2
      by_cases hb : s.1 (b / 2) = false
      · rw [if_pos hb] at HU2
        rw [HU2]
        refine ⟨?_, hb, hab.2⟩
        have ha2 : s.1 (a / 2) = true := by cases h5 : s.1 (a / 2) with
          | true => rfl
          | false => exact absurd h5 ha
        obtain ⟨b1, b2, b3⟩ := meet_prop hw (b / 2 + 1) (b / 2) (by omega) s
        rw [meet_gate hw h e, meet_gate hw ((b3 n hab.2).trans h) e, meet_met (b2 _ ha2), meet_met ha2, meet_met b1]
      · rw [if_neg hb] at HU2
        exact absurd HU2 hu
  · exfalso
    apply hu
    rw [HU]
    split
    · rename_i h7; cases h7; exact absurd rfl hk
    · rfl
theorem meet_pop {ns : Nds} (hw : WFN ns) {n : Nat} {s : (Nat → Bool) × List Nat} (h0 : s.1 0 = true) (h : s.1 n = false) (hu : unmN ns s.1 n = 0) : meet ns n s = (updB s.1 n, s.2 ++ [n]) := by
  have HU : unmN ns s.1 n = match nodK ns n with
    | (2, (a, b)) => if s.1 (a / 2) = false then a / 2 else if s.1 (b / 2) = false then b / 2 else 0
    | _ => 0 := rfl
  rcases e : nodK ns n with ⟨kd, a, b⟩
  rw [e] at HU
  by_cases hk : kd = 2
  · subst hk
    have HU2 : unmN ns s.1 n = if s.1 (a / 2) = false then a / 2 else if s.1 (b / 2) = false then b / 2 else 0 := HU
    rw [hu] at HU2
    have ha : s.1 (a / 2) = true := by
      cases h5 : s.1 (a / 2) with
      | true => rfl
      | false =>
        rw [if_pos h5] at HU2
        rw [← HU2, h0] at h5
        cases h5
    rw [if_neg (by rw [ha]; decide)] at HU2
    have hb : s.1 (b / 2) = true := by
      cases h5 : s.1 (b / 2) with
      | true => rfl
      | false =>
        rw [if_pos h5] at HU2
        rw [← HU2, h0] at h5
        cases h5
    rw [meet_gate hw h e, meet_met ha, meet_met hb]
  · exact meet_leaf h (by rw [e]; exact hk)
/-- the stack's nodes, the last one first -/
def finS (ns : Nds) (st : List Nat) (s : (Nat → Bool) × List Nat) : (Nat → Bool) × List Nat := st.foldr (fun n s => meet ns n s) s
theorem finS_snoc (ns : Nds) (st : List Nat) (n : Nat) (s : (Nat → Bool) × List Nat) : finS ns (st ++ [n]) s = finS ns st (meet ns n s) := by
  unfold finS
  rw [List.foldr_append]
  rfl
/-- how many of 1 .. m were not met -/
def cntU (mt : Nat → Bool) : Nat → Nat
  | 0 => 0
  | k + 1 => cntU mt k + (if mt (k + 1) = true then 0 else 1)
theorem cntU_le (mt : Nat → Bool) : ∀ m, cntU mt m ≤ m
  | 0 => Nat.le_refl _
  | k + 1 => by
    have := cntU_le mt k
    unfold cntU
    split <;> omega
theorem cntU_out {mt : Nat → Bool} {n : Nat} : ∀ m, m < n → cntU (updB mt n) m = cntU mt m
  | 0, _ => rfl
  | k + 1, h => by
    unfold cntU
    rw [cntU_out k (by omega), updB_ne _ (by omega)]
theorem cntU_in {mt : Nat → Bool} {n : Nat} (h : mt n = false) (h0 : 0 < n) : ∀ m, n ≤ m → cntU (updB mt n) m + 1 = cntU mt m
  | 0, h2 => by omega
  | k + 1, h2 => by
    unfold cntU
    by_cases e : k + 1 = n
    · subst e
      rw [cntU_out k (by omega), updB_self, if_pos rfl, h, if_neg (by decide)]
    · have := cntU_in h h0 k (by omega)
      rw [updB_ne _ e]
      split <;> omega
/-- the walk under way: m bounds all nodes -/
structure SI (m : Nat) (st : List Nat) (s : (Nat → Bool) × List Nat) : Prop where
  zero : s.1 0 = true
  inn : ∀ x ∈ st, s.1 x = false ∧ 0 < x ∧ x ≤ m
  pw : st.Pairwise (· > ·)
  bd : ∀ i x, st[i]? = some x → x + i ≤ m
  cl : s.2.length + cntU s.1 m ≤ m
  cb : ∀ x ∈ s.2, 0 < x ∧ x ≤ m
theorem SI.len {m : Nat} {st : List Nat} {s : (Nat → Bool) × List Nat} (h : SI m st s) : st.length ≤ m := by
  by_cases e : st.length = 0
  · omega
  · have := h.bd (st.length - 1) (st[st.length - 1]'(by omega)) (List.getElem?_eq_getElem _)
    have h2 := (h.inn _ (List.getElem_mem (l := st) (n := st.length - 1) (by omega))).2.1
    omega
theorem SI.root {m : Nat} {s : (Nat → Bool) × List Nat} (h : SI m [] s) {n : Nat} (hn : n ≤ m) (h1 : s.1 n = false) : SI m [n] s := by
  have h0 : 0 < n := by
    rcases Nat.eq_zero_or_pos n with e | e
    · rw [e, h.zero] at h1; cases h1
    · exact e
  refine ⟨h.zero, fun x hx => ?_, List.pairwise_singleton _ _, fun i x hi => ?_, h.cl, h.cb⟩
  · rw [List.mem_singleton] at hx; subst hx; exact ⟨h1, h0, hn⟩
  · match i, hi with
    | 0, hi => simp at hi; omega
    | i + 1, hi => simp at hi
theorem SI.push {m : Nat} {st : List Nat} {n a : Nat} {s : (Nat → Bool) × List Nat} (h : SI m (st ++ [n]) s) (ha : s.1 a = false) (hlt : a < n) : SI m (st ++ [n] ++ [a]) s := by
  have h0 : 0 < a := by
    rcases Nat.eq_zero_or_pos a with e | e
    · rw [e, h.zero] at ha; cases ha
    · exact e
  have hn := h.inn n (by simp)
  have hbn := h.bd st.length n (by rw [List.getElem?_append_right (Nat.le_refl _)]; simp)
  refine ⟨h.zero, fun x hx => ?_, ?_, fun i x hi => ?_, h.cl, h.cb⟩
  · rcases List.mem_append.1 hx with hx | hx
    · exact h.inn x hx
    · rw [List.mem_singleton] at hx; subst hx; exact ⟨ha, h0, by omega⟩
  · rw [List.pairwise_append]
    refine ⟨h.pw, List.pairwise_singleton _ _, fun x hx y hy => ?_⟩
    rw [List.mem_singleton] at hy
    subst hy
    rcases List.mem_append.1 hx with hx | hx
    · have := (List.pairwise_append.1 h.pw).2.2 x hx n (by simp)
      omega
    · rw [List.mem_singleton] at hx; omega
  · by_cases e : i < (st ++ [n]).length
    · rw [List.getElem?_append_left e] at hi
      exact h.bd i x hi
    · rw [List.getElem?_append_right (by omega)] at hi
      have e2 : i - (st ++ [n]).length = 0 := by
        rcases Nat.eq_zero_or_pos (i - (st ++ [n]).length) with e2 | e2
        · exact e2
        · rw [List.getElem?_eq_none (by simp; simp at e2; omega)] at hi; cases hi
      rw [e2] at hi
      simp at hi e2
      simp at e
      omega
theorem SI.pop {m : Nat} {st : List Nat} {n : Nat} {s : (Nat → Bool) × List Nat} (h : SI m (st ++ [n]) s) : SI m st (updB s.1 n, s.2 ++ [n]) := by
  have hn := h.inn n (by simp)
  have hp := List.pairwise_append.1 h.pw
  refine ⟨?_, fun x hx => ?_, hp.1, fun i x hi => ?_, ?_, fun x hx => ?_⟩
  · show updB s.1 n 0 = true
    rw [updB_ne _ (by omega)]
    exact h.zero
  · have h1 := h.inn x (by simp [hx])
    have h2 := hp.2.2 x hx n (by simp)
    exact ⟨(updB_ne _ (by omega)).trans h1.1, h1.2⟩
  · have : i < st.length := by
      rcases Nat.lt_or_ge i st.length with e | e
      · exact e
      · rw [List.getElem?_eq_none e] at hi; cases hi
    exact h.bd i x (by rw [List.getElem?_append_left this]; exact hi)
  · have h1 := h.cl
    have h2 := cntU_in hn.1 hn.2.1 m hn.2.2
    show (s.2 ++ [n]).length + cntU (updB s.1 n) m ≤ m
    rw [List.length_append]
    show s.2.length + 1 + _ ≤ m
    omega
  · rcases List.mem_append.1 hx with hx | hx
    · exact h.cb x hx
    · rw [List.mem_singleton] at hx; subst hx; exact hn.2
/-- what is left of the walk -/
def muS (m : Nat) (st : List Nat) (s : (Nat → Bool) × List Nat) : Nat := cntU s.1 m * (m + 1) + st.getLastD 0
theorem muS_push {m : Nat} {st : List Nat} {n a : Nat} {s : (Nat → Bool) × List Nat} (hlt : a < n) : muS m (st ++ [n] ++ [a]) s < muS m (st ++ [n]) s := by
  unfold muS
  rw [List.getLastD_concat, List.getLastD_concat]
  omega
theorem muS_pop {m : Nat} {st : List Nat} {n : Nat} {s : (Nat → Bool) × List Nat} (h : SI m (st ++ [n]) s) : muS m st (updB s.1 n, s.2 ++ [n]) < muS m (st ++ [n]) s := by
  have hn := h.inn n (by simp)
  have h2 := cntU_in hn.1 hn.2.1 m hn.2.2
  have h3 : st.getLastD 0 ≤ m := by
    rcases List.eq_nil_or_concat st with e | ⟨l, x, e⟩
    · rw [e]; exact Nat.zero_le _
    · rw [e, List.concat_eq_append, List.getLastD_concat]
      exact (h.inn x (by rw [e]; simp)).2.2
  unfold muS
  rw [List.getLastD_concat, ← h2]
  show cntU (updB s.1 n) m * (m + 1) + st.getLastD 0 < (cntU (updB s.1 n) m + 1) * (m + 1) + n
  rw [Nat.add_mul]
  omega
/-- the cone of roots -/
def met0 (i : Nat) : Bool := updB (fun _ => false) 0 i
def coneS (ns : Nds) (ls : List Nat) : (Nat → Bool) × List Nat := ls.foldl (fun s l => meet ns (l / 2) s) (met0, [])
theorem SI.start (m : Nat) : SI m [] (met0, []) :=
  ⟨rfl, fun x hx => (List.not_mem_nil hx).elim, List.Pairwise.nil, fun i x hi => by simp at hi, by simpa using cntU_le _ _, fun x hx => (List.not_mem_nil hx).elim⟩
end Go.Proofs.Ytkomadlmonhlhaa
