import Derived.Test.YtokpjegiinggdaaDoorMathL
namespace Go.Cn

/-- clauses that were gathered, each with the least place at which it came -/
structure Gst (X : List (List Int)) (D : Nat → Prop) (I : List (List Int × Nat)) : Prop where
  dist : (I.map Prod.fst).Nodup
  src : ∀ e ∈ I, D e.2 ∧ X[e.2]? = some e.1 ∧ two e.1 = false ∧ ∀ q, D q → X[q]? = some e.1 → e.2 ≤ q
  all : ∀ q S, D q → X[q]? = some S → two S = false → S ∈ I.map Prod.fst
theorem Gst.nil (X : List (List Int)) {D : Nat → Prop} (hD : ∀ q, ¬ D q) : Gst X D [] := ⟨List.nodup_nil, fun e he => absurd he (by simp), fun q S h => absurd h (hD q)⟩
theorem Gst.congr {X : List (List Int)} {D D' : Nat → Prop} {I : List (List Int × Nat)} (h : Gst X D I) (hD : ∀ q, D' q ↔ D q) : Gst X D' I :=
  ⟨h.dist, fun e he => by
    obtain ⟨a, b, c, d⟩ := h.src e he
    exact ⟨(hD _).2 a, b, c, fun q hq => d q ((hD q).1 hq)⟩, fun q S hq => h.all q S ((hD q).1 hq)⟩
theorem Gst.skip {X : List (List Int)} {D D' : Nat → Prop} {I : List (List Int × Nat)} {p : Nat} {S : List Int} (h : Gst X D I) (hp : X[p]? = some S) (ht : two S = true) (hD : ∀ q, D' q ↔ D q ∨ q = p) : Gst X D' I := by
  refine ⟨h.dist, fun e he => ?_, fun q T hq hX hT => ?_⟩
  · obtain ⟨a, b, c, d⟩ := h.src e he
    refine ⟨(hD _).2 (Or.inl a), b, c, fun q hq hX => ?_⟩
    rcases (hD q).1 hq with hq | rfl
    · exact d q hq hX
    · rw [hp] at hX
      cases hX
      rw [ht] at c
      cases c
  · rcases (hD q).1 hq with hq | rfl
    · exact h.all q T hq hX hT
    · rw [hp] at hX
      cases hX
      rw [ht] at hT
      cases hT
theorem Gst.dup {X : List (List Int)} {D D' : Nat → Prop} {I : List (List Int × Nat)} {p q0 : Nat} {S : List Int} (h : Gst X D I) (hp : X[p]? = some S) (h0 : D q0) (hX0 : X[q0]? = some S) (hle : q0 ≤ p) (hD : ∀ q, D' q ↔ D q ∨ q = p) : Gst X D' I := by
  refine ⟨h.dist, fun e he => ?_, fun q T hq hX hT => ?_⟩
  · obtain ⟨a, b, c, d⟩ := h.src e he
    refine ⟨(hD _).2 (Or.inl a), b, c, fun q hq hX => ?_⟩
    rcases (hD q).1 hq with hq | rfl
    · exact d q hq hX
    · rw [hp] at hX
      have e1 : S = e.1 := by simpa using hX
      have := d q0 h0 (by rw [hX0, e1])
      omega
  · rcases (hD q).1 hq with hq | rfl
    · exact h.all q T hq hX hT
    · rw [hp] at hX
      have e1 : S = T := by simpa using hX
      exact h.all q0 T h0 (by rw [hX0, e1]) hT
theorem Gst.new {X : List (List Int)} {D D' : Nat → Prop} {I : List (List Int × Nat)} {p : Nat} {S : List Int} (h : Gst X D I) (hp : X[p]? = some S) (ht : two S = false) (hS : S ∉ I.map Prod.fst) (hD : ∀ q, D' q ↔ D q ∨ q = p) : Gst X D' (I ++ [(S, p)]) := by
  refine ⟨?_, fun e he => ?_, fun q T hq hX hT => ?_⟩
  · rw [List.map_append, List.nodup_append]
    refine ⟨h.dist, by simp, fun a ha b hb => ?_⟩
    have hb' : b = S := by simpa using hb
    rw [hb']
    exact fun e => hS (e ▸ ha)
  · rcases List.mem_append.1 he with he2 | he2
    · obtain ⟨a, b, c, d⟩ := h.src e he2
      refine ⟨(hD _).2 (Or.inl a), b, c, fun q hq hX => ?_⟩
      rcases (hD q).1 hq with hq | rfl
      · exact d q hq hX
      · rw [hp] at hX
        have e1 : S = e.1 := by simpa using hX
        exact absurd (show S ∈ I.map Prod.fst from List.mem_map.2 ⟨e, he2, e1.symm⟩) hS
    · have e1 : e = (S, p) := by simpa using he2
      subst e1
      refine ⟨(hD _).2 (Or.inr rfl), hp, ht, fun q hq hX => ?_⟩
      rcases (hD q).1 hq with hq | rfl
      · exact absurd (h.all q S hq hX ht) hS
      · exact Nat.le_refl _
  · rw [List.map_append, List.mem_append]
    rcases (hD q).1 hq with hq | rfl
    · exact Or.inl (h.all q T hq hX hT)
    · rw [hp] at hX
      have e1 : S = T := by simpa using hX
      exact Or.inr (by simp [e1])
theorem set_fst (I : List (List Int × Nat)) (i : Nat) (S : List Int) (p0 p : Nat) (hi : I[i]? = some (S, p0)) : (I.set i (S, p)).map Prod.fst = I.map Prod.fst := by
  apply List.ext_getElem?
  intro j
  rw [List.getElem?_map, List.getElem?_map, List.getElem?_set]
  split
  · next e =>
    subst e
    rw [hi]
    have : i < I.length := by
      rcases Nat.lt_or_ge i I.length with h | h
      · exact h
      · rw [List.getElem?_eq_none h] at hi; cases hi
    simp [this]
  · rfl
theorem Gst.old {X : List (List Int)} {D D' : Nat → Prop} {I : List (List Int × Nat)} {p p0 i : Nat} {S : List Int} (h : Gst X D I) (hi : I[i]? = some (S, p0)) (hp : X[p]? = some S) (hD : ∀ q, D' q ↔ D q ∨ q = p) : Gst X D' (I.set i (S, min p0 p)) := by
  have hil : i < I.length := by
    rcases Nat.lt_or_ge i I.length with h | h
    · exact h
    · rw [List.getElem?_eq_none h] at hi; cases hi
  have hm : (S, p0) ∈ I := List.mem_of_getElem? hi
  obtain ⟨a0, b0, c0, d0⟩ := h.src _ hm
  refine ⟨by rw [set_fst I i S p0 _ hi]; exact h.dist, fun e he => ?_, fun q T hq hX hT => ?_⟩
  · obtain ⟨j, hj, ej⟩ := List.getElem_of_mem he
    by_cases hji : j = i
    · subst hji
      rw [List.getElem_set_self] at ej
      subst ej
      refine ⟨?_, ?_, c0, fun q hq hX => ?_⟩
      · rcases Nat.le_total p0 p with hle | hle
        · rw [Nat.min_eq_left hle]; exact (hD _).2 (Or.inl a0)
        · rw [Nat.min_eq_right hle]; exact (hD _).2 (Or.inr rfl)
      · rcases Nat.le_total p0 p with hle | hle
        · rw [Nat.min_eq_left hle]; exact b0
        · rw [Nat.min_eq_right hle]; exact hp
      · rcases (hD q).1 hq with hq | rfl
        · exact Nat.le_trans (Nat.min_le_left _ _) (d0 q hq hX)
        · exact Nat.min_le_right _ _
    · rw [List.getElem_set_ne (fun e => hji e.symm)] at ej
      have hj' : j < I.length := by simpa using hj
      have he2 : e ∈ I := by rw [← ej]; exact List.getElem_mem hj'
      obtain ⟨a, b, c, d⟩ := h.src e he2
      refine ⟨(hD _).2 (Or.inl a), b, c, fun q hq hX => ?_⟩
      rcases (hD q).1 hq with hq | rfl
      · exact d q hq hX
      · exfalso
        rw [hp] at hX
        have e1 : S = e.1 := by simpa using hX
        have hn := h.dist
        unfold List.Nodup at hn
        rw [List.pairwise_iff_getElem] at hn
        have hi2 : I[i] = (S, p0) := by rw [List.getElem?_eq_getElem hil] at hi; simpa using hi
        rcases Nat.lt_or_gt_of_ne hji with hlt | hlt
        · have := hn j i (by simpa using hj') (by simpa using hil) hlt
          simp [ej, hi2, e1] at this
        · have := hn i j (by simpa using hil) (by simpa using hj') hlt
          simp [ej, hi2, e1] at this
  · rw [set_fst I i S p0 _ hi]
    rcases (hD q).1 hq with hq | rfl
    · exact h.all q T hq hX hT
    · rw [hp] at hX
      have e1 : S = T := by simpa using hX
      subst e1
      exact List.mem_map.2 ⟨_, hm, rfl⟩
/-- the tidy list by first places -/
theorem td_gst (X : List (List Int)) (hX : ∀ S ∈ X, setL S = S) : ∀ n, n ≤ X.length → ∃ J, Gst X (fun q => q < n) J ∧ J.map Prod.fst = td (X.take n) ∧ (J.Pairwise fun a b => a.2 < b.2)
  | 0, _ => ⟨[], Gst.nil X (fun q => Nat.not_lt_zero q), by simp [td], List.Pairwise.nil⟩
  | n + 1, hn => by
    obtain ⟨J, hG, hJ, hP⟩ := td_gst X hX n (by omega)
    have hlt : n < X.length := by omega
    have hp : X[n]? = some X[n] := List.getElem?_eq_getElem hlt
    have hs : setL X[n] = X[n] := hX _ (List.getElem_mem hlt)
    have hD : ∀ q, q < n + 1 ↔ q < n ∨ q = n := fun q => by omega
    have ht : X.take (n + 1) = X.take n ++ [X[n]] := by rw [List.take_add_one, hp]; rfl
    by_cases h2 : two X[n] = true
    · exact ⟨J, hG.skip hp h2 hD, by rw [ht, td_old (Or.inl (by rw [hs]; exact h2)), hJ], hP⟩
    · have h2' : two X[n] = false := by simpa using h2
      by_cases hin : X[n] ∈ J.map Prod.fst
      · obtain ⟨e, he, e1⟩ := List.mem_map.1 hin
        obtain ⟨a, b, c, d⟩ := hG.src e he
        refine ⟨J, hG.dup hp a (by rw [b, e1]) (by omega) hD, ?_, hP⟩
        rw [ht, td_old (Or.inr (by rw [hs, ← hJ]; exact hin)), hJ]
      · refine ⟨J ++ [(X[n], n)], hG.new hp h2' hin hD, ?_, ?_⟩
        · rw [ht, td_new (fun hh => hh.elim (fun h1 => h2 (by rw [hs] at h1; exact h1)) (fun h1 => hin (by rw [hs, ← hJ] at h1; exact h1))), hs, List.map_append, hJ]
          rfl
        · rw [List.pairwise_append]
          refine ⟨hP, by simp, fun a ha b hb => ?_⟩
          have hb' : b = (X[n], n) := by simpa using hb
          rw [hb']
          exact (hG.src a ha).1
theorem gst_mem {X : List (List Int)} {D : Nat → Prop} {I J : List (List Int × Nat)} (hI : Gst X D I) (hJ : Gst X D J) {e : List Int × Nat} (he : e ∈ I) : e ∈ J := by
  obtain ⟨a, b, c, d⟩ := hI.src e he
  obtain ⟨e', he', e1⟩ := List.mem_map.1 (hJ.all e.2 e.1 a b c)
  obtain ⟨a', b', c', d'⟩ := hJ.src e' he'
  have h1 := d e'.2 a' (by rw [b', e1])
  have h2 := d' e.2 a (by rw [b, e1])
  have h3 : e' = e := Prod.ext e1 (by omega)
  rw [← h3]
  exact he'
theorem rising_eq : ∀ {l m : List (List Int × Nat)}, (l.Pairwise fun a b => a.2 < b.2) → (m.Pairwise fun a b => a.2 < b.2) → (∀ x, x ∈ l ↔ x ∈ m) → l = m
  | [], [], _, _, _ => rfl
  | [], b :: m, _, _, h => absurd ((h b).2 (List.mem_cons_self ..)) (by simp)
  | a :: l, [], _, _, h => absurd ((h a).1 (List.mem_cons_self ..)) (by simp)
  | a :: l, b :: m, hl, hm, h => by
    rw [List.pairwise_cons] at hl hm
    have hab : a = b := by
      rcases List.mem_cons.1 ((h a).1 (List.mem_cons_self ..)) with e | e
      · exact e
      · rcases List.mem_cons.1 ((h b).2 (List.mem_cons_self ..)) with e2 | e2
        · exact e2.symm
        · have h1 := hm.1 a e
          have h2 := hl.1 b e2
          omega
    subst hab
    have : l = m := rising_eq hl.2 hm.2 (fun x => by
      constructor
      · intro hx
        rcases List.mem_cons.1 ((h x).1 (List.mem_cons_of_mem _ hx)) with e | e
        · subst e
          exact absurd (hl.1 x hx) (by omega)
        · exact e
      · intro hx
        rcases List.mem_cons.1 ((h x).2 (List.mem_cons_of_mem _ hx)) with e | e
        · subst e
          exact absurd (hm.1 x hx) (by omega)
        · exact e)
    rw [this]
/-- what was gathered of all places, by rising places, is the tidy list -/
theorem gst_done {X : List (List Int)} (hX : ∀ S ∈ X, setL S = S) {D : Nat → Prop} {I L : List (List Int × Nat)} (h : Gst X D I) (hD : ∀ q, q < X.length → D q) (hp : ∀ x, x ∈ L ↔ x ∈ I) (hs : L.Pairwise fun a b => a.2 < b.2) : L.map Prod.fst = td X := by
  obtain ⟨J, hG, hJ, hP⟩ := td_gst X hX X.length (Nat.le_refl _)
  rw [List.take_length] at hJ
  have lt : ∀ {q S}, X[q]? = some S → q < X.length := fun {q S} h => by
    rcases Nat.lt_or_ge q X.length with h1 | h1
    · exact h1
    · rw [List.getElem?_eq_none h1] at h; cases h
  have hI : Gst X (fun q => q < X.length) I := ⟨h.dist, fun e he => by
    obtain ⟨a, b, c, d⟩ := h.src e he
    exact ⟨lt b, b, c, fun q hq => d q (hD q hq)⟩, fun q S hq => h.all q S (hD q hq)⟩
  rw [← hJ]
  congr 1
  refine rising_eq hs hP (fun x => ?_)
  rw [hp x]
  exact ⟨gst_mem hI hG, gst_mem hG hI⟩
theorem sub_len : ∀ (A B : List (List Int)), A.Nodup → (∀ x ∈ A, x ∈ B) → A.length ≤ B.length ∧ (A.map List.length).sum ≤ (B.map List.length).sum
  | [], B, _, _ => by simp
  | a :: A, B, hn, h => by
    obtain ⟨s, t, rfl⟩ := List.append_of_mem (h a (List.mem_cons_self ..))
    have hn' := List.nodup_cons.1 hn
    have := sub_len A (s ++ t) hn'.2 (fun x hx => by
      rcases List.mem_append.1 (h x (List.mem_cons_of_mem _ hx)) with h1 | h1
      · exact List.mem_append.2 (Or.inl h1)
      · rcases List.mem_cons.1 h1 with e | e
        · subst e; exact absurd hx hn'.1
        · exact List.mem_append.2 (Or.inr e))
    simp at this ⊢
    omega
/-- there are more than a formula may hold -/
def OverX (X : List (List Int)) : Prop := 1048576 < (td X).length ∨ 4194304 < ((td X).map List.length).sum
theorem gst_sub {X : List (List Int)} (hX : ∀ S ∈ X, setL S = S) {D : Nat → Prop} {I : List (List Int × Nat)} (h : Gst X D I) : ∀ S ∈ I.map Prod.fst, S ∈ td X := by
  intro S hS
  obtain ⟨e, he, rfl⟩ := List.mem_map.1 hS
  obtain ⟨a, b, c, d⟩ := h.src e he
  have hm := List.mem_of_getElem? b
  exact td_has_go X [] e.1 (Or.inr ⟨e.1, hm, (hX _ hm).symm, c⟩)
theorem gst_len {X : List (List Int)} (hX : ∀ S ∈ X, setL S = S) {D : Nat → Prop} {I : List (List Int × Nat)} (h : Gst X D I) : I.length ≤ (td X).length ∧ ((I.map Prod.fst).map List.length).sum ≤ ((td X).map List.length).sum := by
  have := sub_len (I.map Prod.fst) (td X) h.dist (gst_sub hX h)
  simpa using this
theorem gst_over {X : List (List Int)} (hX : ∀ S ∈ X, setL S = S) {D : Nat → Prop} {I : List (List Int × Nat)} {p : Nat} {S : List Int} (h : Gst X D I) (hp : X[p]? = some S) (ht : two S = false) (hS : S ∉ I.map Prod.fst) (ho : 1048576 ≤ I.length ∨ 4194304 < ((I.map Prod.fst).map List.length).sum + S.length) : OverX X := by
  have hn := h.new hp ht hS (D' := fun q => D q ∨ q = p) (fun q => Iff.rfl)
  have := gst_len hX hn
  simp at this ho
  unfold OverX
  omega
/-- what Check says of clauses whose literals are all right -/
theorem ckGo_sum (vars : Int) : ∀ (cs : List (List Int)) (i n : Nat), (∀ c ∈ cs, c.length ≤ 65536 ∧ ∀ x ∈ c, amB vars x = true) → 4194304 < n + (cs.map List.length).sum → n ≤ 4194304 → (ckGo vars cs i n).2 = 23
  | [], i, n, _, h, h2 => by simp at h; omega
  | c :: cs, i, n, hc, h, h2 => by
    have h1 := hc c (List.mem_cons_self ..)
    unfold ckGo
    rw [if_neg (by omega), if_neg (by rw [List.all_eq_true.2 h1.2]; simp)]
    split
    · rfl
    · next h3 =>
      refine ckGo_sum vars cs (i + 1) (n + c.length) (fun d hd => hc d (List.mem_cons_of_mem _ hd)) ?_ (by omega)
      simp only [List.map_cons, List.sum_cons] at h
      omega
theorem ck_over {vars : Int} {X : List (List Int)} (h0 : 0 ≤ vars) (h1 : vars ≤ 1048576) (h3 : ∀ c ∈ td X, c.length ≤ 65536 ∧ ∀ x ∈ c, amB vars x = true) (h : OverX X) : (ck vars (td X)).2 = 23 := by
  unfold ck
  rw [if_neg (by omega)]
  split
  · rfl
  · next h2 =>
    rcases h with h | h
    · exact absurd h h2
    · exact ckGo_sum vars _ 0 0 h3 (by omega) (by omega)
end Go.Cn
namespace Go.Cn

/-- all pairs, by the first and then by the second -/
def joins (W A : List (List Int)) : List (List Int) := W.flatMap fun a => A.map fun b => setL (a ++ b)
/-- the clauses by their places -/
def eX (R W A : List (List Int)) : List (List Int) := R ++ joins W A
theorem joins_len (W A : List (List Int)) : (joins W A).length = W.length * A.length := by
  unfold joins
  induction W with
  | nil => simp
  | cons a W ih => simp [List.flatMap_cons, ih, Nat.succ_mul, Nat.add_comm]
theorem joins_at : ∀ (W A : List (List Int)) (i k : Nat), i < W.length → k < A.length → (joins W A)[i * A.length + k]? = some (setL (W.getD i [] ++ A.getD k []))
  | [], A, i, k, hi, _ => by simp at hi
  | a :: W, A, 0, k, _, hk => by
    have e : joins (a :: W) A = A.map (fun b => setL (a ++ b)) ++ joins W A := by unfold joins; rw [List.flatMap_cons]
    rw [e, Nat.zero_mul, Nat.zero_add, List.getElem?_append_left (by simpa using hk), List.getElem?_map, List.getElem?_eq_getElem hk]
    simp [List.getD_eq_getElem?_getD, hk]
  | a :: W, A, i + 1, k, hi, hk => by
    have e : joins (a :: W) A = A.map (fun b => setL (a ++ b)) ++ joins W A := by unfold joins; rw [List.flatMap_cons]
    have h2 : (i + 1) * A.length + k = A.length + (i * A.length + k) := by rw [Nat.succ_mul]; omega
    rw [e, h2, List.getElem?_append_right (by simp)]
    simp only [List.length_map, Nat.add_sub_cancel_left]
    rw [joins_at W A i k (by simpa using hi) hk]
    simp [List.getD_eq_getElem?_getD]
/-- one of two ways to go through the pairs -/
structure Ori (X : List (List Int)) (n0 : Nat) (Bs Os : List (List Int)) (pl : Nat → Nat → Nat) : Prop where
  at_ : ∀ b o, b < Bs.length → o < Os.length → X[pl b o]? = some (setL (Bs.getD b [] ++ Os.getD o []))
  mono : ∀ b o o', b < Bs.length → o ≤ o' → pl b o ≤ pl b o'
  cov : ∀ q, n0 ≤ q → q < X.length → ∃ b o, b < Bs.length ∧ o < Os.length ∧ q = pl b o
theorem eX_cov (R W A : List (List Int)) (q : Nat) (h1 : R.length ≤ q) (h2 : q < (eX R W A).length) : ∃ i k, i < W.length ∧ k < A.length ∧ q = R.length + i * A.length + k := by
  unfold eX at h2
  rw [List.length_append, joins_len] at h2
  have hA : 0 < A.length := by
    rcases Nat.eq_zero_or_pos A.length with h | h
    · rw [h] at h2; omega
    · exact h
  refine ⟨(q - R.length) / A.length, (q - R.length) % A.length, ?_, Nat.mod_lt _ hA, ?_⟩
  · rw [Nat.div_lt_iff_lt_mul hA]; omega
  · have := Nat.div_add_mod' (q - R.length) A.length
    omega
theorem eX_at (R W A : List (List Int)) (i k : Nat) (hi : i < W.length) (hk : k < A.length) : (eX R W A)[R.length + i * A.length + k]? = some (setL (W.getD i [] ++ A.getD k [])) := by
  unfold eX
  rw [List.getElem?_append_right (by omega)]
  have : R.length + i * A.length + k - R.length = i * A.length + k := by omega
  rw [this]
  exact joins_at W A i k hi hk
theorem ori_one (R W A : List (List Int)) : Ori (eX R W A) R.length W A (fun b o => R.length + b * A.length + o) :=
  ⟨fun b o hb ho => eX_at R W A b o hb ho, fun b o o' _ h => by omega, fun q h1 h2 => eX_cov R W A q h1 h2⟩
theorem ori_two (R W A : List (List Int)) : Ori (eX R W A) R.length A W (fun b o => R.length + o * A.length + b) :=
  ⟨fun b o hb ho => by rw [setL_comm]; exact eX_at R W A o b ho hb, fun b o o' _ h => by
    have := Nat.mul_le_mul_right A.length h
    omega, fun q h1 h2 => by
    obtain ⟨i, k, hi, hk, e⟩ := eX_cov R W A q h1 h2
    exact ⟨k, i, hk, hi, e⟩⟩
/-- the places that are done: those ahead, and the pairs up to one -/
def DD (n0 : Nat) (pl : Nat → Nat → Nat) (nb no k j : Nat) (q : Nat) : Prop := q < n0 ∨ ∃ b o, b < nb ∧ o < no ∧ (b < k ∨ b = k ∧ o < j) ∧ q = pl b o
theorem dd_step {n0 nb no k j : Nat} {pl : Nat → Nat → Nat} (hk : k < nb) (hj : j < no) (q : Nat) : DD n0 pl nb no k (j + 1) q ↔ DD n0 pl nb no k j q ∨ q = pl k j := by
  unfold DD
  constructor
  · rintro (h | ⟨b, o, hb, ho, h, e⟩)
    · exact Or.inl (Or.inl h)
    · by_cases hbo : b = k ∧ o = j
      · obtain ⟨rfl, rfl⟩ := hbo
        exact Or.inr e
      · exact Or.inl (Or.inr ⟨b, o, hb, ho, by omega, e⟩)
  · rintro ((h | ⟨b, o, hb, ho, h, e⟩) | e)
    · exact Or.inl h
    · exact Or.inr ⟨b, o, hb, ho, by omega, e⟩
    · exact Or.inr ⟨k, j, hk, hj, by omega, e⟩
theorem dd_row {n0 nb no k : Nat} {pl : Nat → Nat → Nat} (q : Nat) : DD n0 pl nb no (k + 1) 0 q ↔ DD n0 pl nb no k no q := by
  unfold DD
  constructor
  · rintro (h | ⟨b, o, hb, ho, h, e⟩)
    · exact Or.inl h
    · exact Or.inr ⟨b, o, hb, ho, by omega, e⟩
  · rintro (h | ⟨b, o, hb, ho, h, e⟩)
    · exact Or.inl h
    · exact Or.inr ⟨b, o, hb, ho, by omega, e⟩
theorem dd_first {n0 nb no : Nat} {pl : Nat → Nat → Nat} (q : Nat) : DD n0 pl nb no 0 0 q ↔ q < n0 := by
  unfold DD
  constructor
  · rintro (h | ⟨b, o, hb, ho, h, e⟩)
    · exact h
    · omega
  · exact Or.inl
theorem dd_all {X Bs Os : List (List Int)} {n0 : Nat} {pl : Nat → Nat → Nat} (h : Ori X n0 Bs Os pl) (q : Nat) (hq : q < X.length) : DD n0 pl Bs.length Os.length Bs.length 0 q := by
  rcases Nat.lt_or_ge q n0 with h1 | h1
  · exact Or.inl h1
  · obtain ⟨b, o, hb, ho, e⟩ := h.cov q h1 hq
    exact Or.inr ⟨b, o, hb, ho, Or.inl hb, e⟩
/-- what a clause has beyond another -/
def moreL (B C : List Int) : List Int := C.filter fun l => !decide (l ∈ B)
def bothB (B C : List Int) : Bool := C.any fun l => decide (-l ∈ B)
theorem mem_more (B C : List Int) (x : Int) : x ∈ moreL B C ↔ x ∈ C ∧ x ∉ B := by unfold moreL; simp
theorem more_snoc (B C : List Int) (l : Int) : moreL B (C ++ [l]) = if l ∈ B then moreL B C else moreL B C ++ [l] := by
  unfold moreL
  rw [List.filter_append]
  by_cases h : l ∈ B <;> simp [h]
theorem both_snoc (B C : List Int) (l : Int) : bothB B (C ++ [l]) = (bothB B C || decide (-l ∈ B)) := by
  unfold bothB
  rw [List.any_append]
  simp
theorem more_len (B C : List Int) : (moreL B C).length ≤ C.length := List.length_filter_le _ _
theorem setC_more {B C : List Int} (h : SetC C) : SetC (moreL B C) := by
  unfold SetC at *
  exact h.sublist List.filter_sublist
theorem more_set (B C : List Int) : setL (B ++ moreL B C) = setL (B ++ C) := by
  apply setC_ext (setC_setL _) (setC_setL _)
  intro x
  rw [mem_setL, mem_setL, List.mem_append, List.mem_append, mem_more]
  constructor
  · rintro (h | h)
    · exact Or.inl h
    · exact Or.inr h.1
  · rintro (h | h)
    · exact Or.inl h
    · by_cases hb : x ∈ B
      · exact Or.inl hb
      · exact Or.inr ⟨h, hb⟩
theorem nodup_len : ∀ (A B : List Int), A.Nodup → (∀ x ∈ A, x ∈ B) → A.length ≤ B.length
  | [], B, _, _ => by simp
  | a :: A, B, hn, h => by
    obtain ⟨s, t, rfl⟩ := List.append_of_mem (h a (List.mem_cons_self ..))
    have hn' := List.nodup_cons.1 hn
    have := nodup_len A (s ++ t) hn'.2 (fun x hx => by
      rcases List.mem_append.1 (h x (List.mem_cons_of_mem _ hx)) with h1 | h1
      · exact List.mem_append.2 (Or.inl h1)
      · rcases List.mem_cons.1 h1 with e | e
        · subst e; exact absurd hx hn'.1
        · exact List.mem_append.2 (Or.inr e))
    simp at this ⊢
    omega
theorem join_len {B C : List Int} (hB : SetC B) (hC : SetC C) : (setL (B ++ C)).length = B.length + (moreL B C).length := by
  have hn : (B ++ moreL B C).Nodup := by
    rw [List.nodup_append]
    refine ⟨setC_nodup hB, setC_nodup (setC_more hC), fun a ha b hb e => ?_⟩
    rw [mem_more] at hb
    exact hb.2 (e ▸ ha)
  have h1 := nodup_len (setL (B ++ C)) (B ++ moreL B C) (setC_nodup (setC_setL _)) (fun x hx => by rw [← more_set, mem_setL] at hx; exact hx)
  have h2 := nodup_len (B ++ moreL B C) (setL (B ++ C)) hn (fun x hx => by rw [← more_set, mem_setL]; exact hx)
  rw [List.length_append] at h1 h2
  omega
theorem join_two {B C : List Int} (hB : two B = false) (hC : two C = false) : two (setL (B ++ C)) = bothB B C := by
  unfold two at *
  unfold bothB
  rw [List.any_eq_false] at hB hC
  rw [Bool.eq_iff_iff, List.any_eq_true, List.any_eq_true]
  constructor
  · rintro ⟨x, hx, h⟩
    rw [mem_setL, List.mem_append] at hx
    have h' : -x ∈ B ∨ -x ∈ C := by
      have := of_decide_eq_true h
      rwa [mem_setL, List.mem_append] at this
    rcases hx with hx | hx
    · rcases h' with h' | h'
      · exact absurd (decide_eq_true h') (hB x hx)
      · exact ⟨-x, h', by rw [Int.neg_neg]; exact decide_eq_true hx⟩
    · rcases h' with h' | h'
      · exact ⟨x, hx, decide_eq_true h'⟩
      · exact absurd (decide_eq_true h') (hC x hx)
  · rintro ⟨x, hx, h⟩
    refine ⟨x, by rw [mem_setL]; exact List.mem_append.2 (Or.inr hx), decide_eq_true ?_⟩
    rw [mem_setL]
    exact List.mem_append.2 (Or.inl (of_decide_eq_true h))
theorem two_sub {B C : List Int} (h : two C = false) (hs : ∀ x ∈ B, x ∈ C) : two B = false := by
  unfold two at *
  rw [List.any_eq_false] at *
  intro x hx hn
  exact h x (hs x hx) (decide_eq_true (hs _ (of_decide_eq_true hn)))
theorem joins_mem {W A : List (List Int)} {S : List Int} : S ∈ joins W A ↔ ∃ a ∈ W, ∃ b ∈ A, setL (a ++ b) = S := by
  unfold joins
  rw [List.mem_flatMap]
  constructor
  · rintro ⟨a, ha, h⟩
    rw [List.mem_map] at h
    exact ⟨a, ha, h⟩
  · rintro ⟨a, ha, b, hb, e⟩
    exact ⟨a, ha, List.mem_map.2 ⟨b, hb, e⟩⟩
end Go.Cn
namespace Go.Cn

def eRs (v : Int) (T : List (List Int)) : List (List Int) := T.filter fun c => !decide (v ∈ c) && !decide (-v ∈ c)
def eW0 (v : Int) (T : List (List Int)) : List (List Int) := T.filter fun c => decide (v ∈ c)
def eA0 (v : Int) (T : List (List Int)) : List (List Int) := T.filter fun c => !decide (v ∈ c) && decide (-v ∈ c)
def eWs (v : Int) (T : List (List Int)) : List (List Int) := (eW0 v T).map fun c => woC c v
def eAs (v : Int) (T : List (List Int)) : List (List Int) := (eA0 v T).map fun c => woC c (-v)
theorem e_with {v : Int} {T : List (List Int)} {c : List Int} (h : v ∈ c) : eRs v (T ++ [c]) = eRs v T ∧ eW0 v (T ++ [c]) = eW0 v T ++ [c] ∧ eA0 v (T ++ [c]) = eA0 v T ∧ eWs v (T ++ [c]) = eWs v T ++ [woC c v] ∧ eAs v (T ++ [c]) = eAs v T := by
  simp [eRs, eW0, eA0, eWs, eAs, List.filter_append, h]
theorem e_against {v : Int} {T : List (List Int)} {c : List Int} (h : v ∉ c) (h2 : -v ∈ c) : eRs v (T ++ [c]) = eRs v T ∧ eW0 v (T ++ [c]) = eW0 v T ∧ eA0 v (T ++ [c]) = eA0 v T ++ [c] ∧ eWs v (T ++ [c]) = eWs v T ∧ eAs v (T ++ [c]) = eAs v T ++ [woC c (-v)] := by
  simp [eRs, eW0, eA0, eWs, eAs, List.filter_append, h, h2]
theorem e_rest {v : Int} {T : List (List Int)} {c : List Int} (h : v ∉ c) (h2 : -v ∉ c) : eRs v (T ++ [c]) = eRs v T ++ [c] ∧ eW0 v (T ++ [c]) = eW0 v T ∧ eA0 v (T ++ [c]) = eA0 v T ∧ eWs v (T ++ [c]) = eWs v T ∧ eAs v (T ++ [c]) = eAs v T := by
  simp [eRs, eW0, eA0, eWs, eAs, List.filter_append, h, h2]
def elX (v : Int) (T : List (List Int)) : List (List Int) := eX (eRs v T) (eWs v T) (eAs v T)
def elLong (v : Int) (T : List (List Int)) : Bool := (joins (eWs v T) (eAs v T)).any fun S => decide (65536 < S.length)
/-- Eliminate: the error -/
def elE (vars : Int) (cs : List (List Int)) (v : Int) : Int :=
  if (ck vars cs).2 ≠ 0 then (ck vars cs).2 else if v < 1 ∨ vars < v then 20 else if 1048576 < (eWs v (td cs)).length * (eAs v (td cs)).length then 23 else if elLong v (td cs) = true then 22 else (ck vars (td (elX v (td cs)))).2
def elC (vars : Int) (cs : List (List Int)) (v : Int) : List (List Int) := if elE vars cs v = 0 then td (elX v (td cs)) else []
def elV (vars : Int) (cs : List (List Int)) (v : Int) : Int := if elE vars cs v = 0 then vars else 0
theorem mem_woC (x v : Int) (l : List Int) : x ∈ woC l v ↔ x ∈ l ∧ x ≠ v := by
  unfold woC; rw [List.mem_filter]; simp
theorem setC_woC {l : List Int} (h : SetC l) (v : Int) : SetC (woC l v) := by
  unfold SetC at *
  exact h.sublist List.filter_sublist
theorem woC_len (l : List Int) (v : Int) : (woC l v).length ≤ l.length := List.length_filter_le _ _
/-- what each of the lists is like -/
structure Cl1 (vars : Int) (c : List Int) : Prop where
  set : SetC c
  one : two c = false
  lits : ∀ x ∈ c, amB vars x = true
  len : c.length ≤ 65536
theorem cl1_td {vars : Int} {cs : List (List Int)} (h : (ck vars cs).2 = 0) : ∀ c ∈ td cs, Cl1 vars c := by
  intro c hc
  have hz := ck_zero h
  have h1 := td_am hz.2.2.2.1 c hc
  have h2 := (tdy_td cs).2 c hc
  exact ⟨by rw [← h2.1]; exact setC_setL c, h2.2, h1.2, h1.1⟩
theorem Cl1.wo {vars : Int} {c : List Int} (h : Cl1 vars c) (v : Int) : Cl1 vars (woC c v) :=
  ⟨setC_woC h.set v, two_sub h.one (fun x hx => ((mem_woC x v c).1 hx).1), fun x hx => h.lits x ((mem_woC x v c).1 hx).1, Nat.le_trans (woC_len c v) h.len⟩
theorem cl1_R {vars v : Int} {T : List (List Int)} (h : ∀ c ∈ T, Cl1 vars c) : ∀ c ∈ eRs v T, Cl1 vars c := fun c hc => h c (List.mem_filter.1 hc).1
theorem cl1_W {vars v : Int} {T : List (List Int)} (h : ∀ c ∈ T, Cl1 vars c) : ∀ c ∈ eWs v T, Cl1 vars c := by
  intro c hc
  obtain ⟨d, hd, rfl⟩ := List.mem_map.1 hc
  exact (h d (List.mem_filter.1 hd).1).wo v
theorem cl1_A {vars v : Int} {T : List (List Int)} (h : ∀ c ∈ T, Cl1 vars c) : ∀ c ∈ eAs v T, Cl1 vars c := by
  intro c hc
  obtain ⟨d, hd, rfl⟩ := List.mem_map.1 hc
  exact (h d (List.mem_filter.1 hd).1).wo (-v)
theorem elX_set {vars v : Int} {T : List (List Int)} (h : ∀ c ∈ T, Cl1 vars c) : ∀ S ∈ elX v T, setL S = S := by
  intro S hS
  rcases List.mem_append.1 hS with hS | hS
  · exact setL_self (cl1_R h S hS).set
  · obtain ⟨a, _, b, _, rfl⟩ := joins_mem.1 hS
    exact setL_idem _
theorem elX_am {vars v : Int} {T : List (List Int)} (h : ∀ c ∈ T, Cl1 vars c) (hl : elLong v T = false) : ∀ S ∈ elX v T, S.length ≤ 65536 ∧ ∀ x ∈ S, amB vars x = true := by
  intro S hS
  rcases List.mem_append.1 hS with hS | hS
  · exact ⟨(cl1_R h S hS).len, (cl1_R h S hS).lits⟩
  · refine ⟨?_, ?_⟩
    · unfold elLong at hl
      rw [List.any_eq_false] at hl
      have := hl S hS
      simp at this
      exact this
    · obtain ⟨a, ha, b, hb, rfl⟩ := joins_mem.1 hS
      intro x hx
      rw [mem_setL, List.mem_append] at hx
      rcases hx with hx | hx
      · exact (cl1_W h a ha).lits x hx
      · exact (cl1_A h b hb).lits x hx
theorem elX_len (v : Int) (T : List (List Int)) : (elX v T).length = (eRs v T).length + (eWs v T).length * (eAs v T).length := by
  unfold elX eX
  rw [List.length_append, joins_len]
theorem eR_len (v : Int) (T : List (List Int)) : (eRs v T).length ≤ T.length := List.length_filter_le _ _
theorem eW_len (v : Int) (T : List (List Int)) : (eWs v T).length ≤ T.length := by unfold eWs; rw [List.length_map]; exact List.length_filter_le _ _
theorem eA_len (v : Int) (T : List (List Int)) : (eAs v T).length ≤ T.length := by unfold eAs; rw [List.length_map]; exact List.length_filter_le _ _
theorem el_long {v : Int} {T : List (List Int)} {a b : List Int} (ha : a ∈ eWs v T) (hb : b ∈ eAs v T) (h : 65536 < (setL (a ++ b)).length) : elLong v T = true := by
  unfold elLong
  rw [List.any_eq_true]
  exact ⟨_, joins_mem.2 ⟨a, ha, b, hb, rfl⟩, by simpa using h⟩
theorem el_short {v : Int} {T : List (List Int)} (h : ∀ a ∈ eWs v T, ∀ b ∈ eAs v T, (setL (a ++ b)).length ≤ 65536) : elLong v T = false := by
  unfold elLong
  rw [List.any_eq_false]
  intro S hS
  obtain ⟨a, ha, b, hb, rfl⟩ := joins_mem.1 hS
  have := h a ha b hb
  simp
  omega
/-- what Eliminate says where it goes well -/
theorem el_ok {vars v : Int} {cs : List (List Int)} (h : (ck vars cs).2 = 0) (hv : 1 ≤ v ∧ v ≤ vars) (hp : (eWs v (td cs)).length * (eAs v (td cs)).length ≤ 1048576) (hl : elLong v (td cs) = false) : elE vars cs v = (ck vars (td (elX v (td cs)))).2 := by
  unfold elE
  rw [if_neg (by rw [h]; simp), if_neg (by omega), if_neg (by omega), if_neg (by rw [hl]; simp)]
theorem el_over {vars v : Int} {cs : List (List Int)} (h : (ck vars cs).2 = 0) (hv : 1 ≤ v ∧ v ≤ vars) (hp : (eWs v (td cs)).length * (eAs v (td cs)).length ≤ 1048576) (hl : elLong v (td cs) = false) (ho : OverX (elX v (td cs))) : elE vars cs v = 23 := by
  rw [el_ok h hv hp hl]
  have hz := ck_zero h
  exact ck_over hz.1 hz.2.1 (td_am (elX_am (cl1_td h) hl)) ho
theorem el_fits {vars v : Int} {cs : List (List Int)} (h : (ck vars cs).2 = 0) (hv : 1 ≤ v ∧ v ≤ vars) (hp : (eWs v (td cs)).length * (eAs v (td cs)).length ≤ 1048576) (hl : elLong v (td cs) = false) (ho : ¬ OverX (elX v (td cs))) : elE vars cs v = 0 := by
  rw [el_ok h hv hp hl]
  have hz := ck_zero h
  unfold OverX at ho
  rw [ck_mk hz.1 hz.2.1 (by omega) (td_am (elX_am (cl1_td h) hl)) (by omega)]
end Go.Cn
namespace Go.Cn

/-- an assignment with one value put in -/
def put1 (ms : List Int) (v x : Int) : List Int := ms.set (v - 1).toNat x
theorem full_put {vars v x : Int} {ms : List Int} (h : Full vars ms) (hx : x = 1 ∨ x = -1) : Full vars (put1 ms v x) := by
  unfold put1
  refine ⟨by rw [List.length_set]; exact h.1, fun y hy => ?_⟩
  rcases List.mem_or_eq_of_mem_set hy with h1 | h1
  · exact h.2 y h1
  · rw [h1]; exact hx
theorem amB_le {vars l : Int} (h : amB vars l = true) : litB l = true ∧ vr l ≤ vars ∧ 1 ≤ vr l := by
  unfold amB at h
  simp at h
  have := litB_iff.1 h.1
  refine ⟨h.1, h.2, ?_⟩
  unfold vr
  split <;> omega
theorem put_other {vars v x l : Int} {ms : List Int} (h : Full vars ms) (hl : amB vars l = true) (h1 : l ≠ v) (h2 : l ≠ -v) (hv : 1 ≤ v) : ofB (put1 ms v x) l = ofB ms l := by
  have ha := amB_le hl
  have hlen := h.1
  rw [ofB_in ha.1 (by unfold put1; rw [List.length_set]; omega), ofB_in ha.1 (by omega)]
  have hne : (v - 1).toNat ≠ (vr l - 1).toNat := by
    have h3 := ha.2.2
    intro e
    have h4 : vr l = v := by omega
    unfold vr at h4
    split at h4
    · exact h2 (by omega)
    · exact h1 h4
  have e : (put1 ms v x).getD (vr l - 1).toNat 0 = ms.getD (vr l - 1).toNat 0 := by
    unfold put1
    rw [List.getD_eq_getElem?_getD, List.getElem?_set, if_neg hne, ← List.getD_eq_getElem?_getD]
  rw [e]
theorem put_cell {vars v x : Int} {ms : List Int} (h : Full vars ms) (hv : 1 ≤ v) (hv2 : v ≤ vars) : (put1 ms v x).getD (v - 1).toNat 0 = x := by
  have hlen := h.1
  unfold put1
  rw [List.getD_eq_getElem?_getD, List.getElem?_set, if_pos rfl, if_pos (by omega)]
  rfl
theorem am_v {vars v : Int} (hv : 1 ≤ v) (hv2 : v ≤ vars) (hv3 : vars ≤ 1048576) : amB vars v = true ∧ amB vars (-v) = true := by
  have e1 : vr v = v := by unfold vr; rw [if_neg (by omega)]
  have e2 : vr (-v) = v := by unfold vr; rw [if_pos (by omega)]; omega
  have l1 : litB v = true := by rw [litB_iff]; omega
  unfold amB
  rw [e1, e2, l1, litB_neg l1]
  simp [hv2]
theorem put_pos {vars v : Int} {ms : List Int} (h : Full vars ms) (hv : 1 ≤ v) (hv2 : v ≤ vars) (hv3 : vars ≤ 1048576) : ofB (put1 ms v 1) v = 1 ∧ ofB (put1 ms v 1) (-v) = -1 := by
  have hm := am_v hv hv2 hv3
  have e1 : vr v = v := by unfold vr; rw [if_neg (by omega)]
  have hlen := h.1
  have e : ofB (put1 ms v 1) v = 1 := by
    rw [ofB_in (amB_le hm.1).1 (by unfold put1; rw [List.length_set]; omega), e1, put_cell h hv hv2, if_pos rfl, if_neg (by omega)]
  exact ⟨e, by rw [full_opp (full_put h (Or.inl rfl)) hm.1, e]⟩
theorem put_neg {vars v : Int} {ms : List Int} (h : Full vars ms) (hv : 1 ≤ v) (hv2 : v ≤ vars) (hv3 : vars ≤ 1048576) : ofB (put1 ms v (-1)) v = -1 ∧ ofB (put1 ms v (-1)) (-v) = 1 := by
  have hm := am_v hv hv2 hv3
  have e1 : vr v = v := by unfold vr; rw [if_neg (by omega)]
  have hlen := h.1
  have e : ofB (put1 ms v (-1)) v = -1 := by
    rw [ofB_in (amB_le hm.1).1 (by unfold put1; rw [List.length_set]; omega), e1, put_cell h hv hv2, if_neg (by decide), if_pos rfl, if_neg (by omega)]
  exact ⟨e, by rw [full_opp (full_put h (Or.inr rfl)) hm.1, e]; rfl⟩
theorem not_both {c : List Int} (h : two c = false) {v : Int} (h1 : v ∈ c) : -v ∉ c := by
  unfold two at h
  rw [List.any_eq_false] at h
  intro h2
  exact h v h1 (decide_eq_true h2)
theorem proj_core {vars v : Int} {T : List (List Int)} {ms : List Int} (hT : ∀ c ∈ T, Cl1 vars c) (hv : 1 ≤ v) (hv2 : v ≤ vars) (hv3 : vars ≤ 1048576) (hf : Full vars ms) :
    (∀ S ∈ elX v T, val ms S = 1) ↔ (∀ c ∈ T, val (put1 ms v 1) c = 1) ∨ (∀ c ∈ T, val (put1 ms v (-1)) c = 1) := by
  have hp := put_pos hf hv hv2 hv3
  have hn := put_neg hf hv hv2 hv3
  constructor
  · intro hX
    by_cases hall : ∀ a ∈ eWs v T, val ms a = 1
    · right
      intro c hc
      rw [val_is_one]
      by_cases h1 : v ∈ c
      · have hw : woC c v ∈ eWs v T := List.mem_map.2 ⟨c, List.mem_filter.2 ⟨hc, by simpa using h1⟩, rfl⟩
        obtain ⟨l, hl, ho⟩ := (val_is_one ms _).1 (hall _ hw)
        rw [mem_woC] at hl
        refine ⟨l, hl.1, ?_⟩
        rw [put_other (v := v) hf ((hT c hc).lits l hl.1) hl.2 (fun e => not_both (hT c hc).one h1 (e ▸ hl.1)) hv]
        exact ho
      · by_cases h2 : -v ∈ c
        · exact ⟨-v, h2, hn.2⟩
        · have hr : c ∈ elX v T := List.mem_append.2 (Or.inl (List.mem_filter.2 ⟨hc, by simp [h1, h2]⟩))
          obtain ⟨l, hl, ho⟩ := (val_is_one ms _).1 (hX _ hr)
          refine ⟨l, hl, ?_⟩
          rw [put_other (v := v) hf ((hT c hc).lits l hl) (fun e => h1 (e ▸ hl)) (fun e => h2 (e ▸ hl)) hv]
          exact ho
    · left
      obtain ⟨a, ha, hna⟩ : ∃ a ∈ eWs v T, val ms a ≠ 1 := by
        refine Classical.byContradiction fun hh => hall fun a ha => Classical.byContradiction fun h => hh ⟨a, ha, h⟩
      intro c hc
      rw [val_is_one]
      by_cases h1 : v ∈ c
      · exact ⟨v, h1, hp.1⟩
      · by_cases h2 : -v ∈ c
        · have hb : woC c (-v) ∈ eAs v T := List.mem_map.2 ⟨c, List.mem_filter.2 ⟨hc, by simp [h1, h2]⟩, rfl⟩
          have hx : setL (a ++ woC c (-v)) ∈ elX v T := List.mem_append.2 (Or.inr (joins_mem.2 ⟨a, ha, _, hb, rfl⟩))
          obtain ⟨l, hl, ho⟩ := (val_is_one ms _).1 (hX _ hx)
          rw [mem_setL, List.mem_append] at hl
          rcases hl with hl | hl
          · exact absurd ((val_is_one ms a).2 ⟨l, hl, ho⟩) hna
          · rw [mem_woC] at hl
            refine ⟨l, hl.1, ?_⟩
            rw [put_other (v := v) hf ((hT c hc).lits l hl.1) (fun e => h1 (e ▸ hl.1)) hl.2 hv]
            exact ho
        · have hr : c ∈ elX v T := List.mem_append.2 (Or.inl (List.mem_filter.2 ⟨hc, by simp [h1, h2]⟩))
          obtain ⟨l, hl, ho⟩ := (val_is_one ms _).1 (hX _ hr)
          refine ⟨l, hl, ?_⟩
          rw [put_other (v := v) hf ((hT c hc).lits l hl) (fun e => h1 (e ▸ hl)) (fun e => h2 (e ▸ hl)) hv]
          exact ho
  · intro hh S hS
    rw [val_is_one]
    rcases List.mem_append.1 hS with hS | hS
    · have hm := List.mem_filter.1 hS
      have h1 : v ∉ S := by have := hm.2; simp at this; exact this.1
      have h2 : -v ∉ S := by have := hm.2; simp at this; exact this.2
      rcases hh with hh | hh
      · obtain ⟨l, hl, ho⟩ := (val_is_one _ _).1 (hh S hm.1)
        refine ⟨l, hl, ?_⟩
        rw [put_other (v := v) hf ((hT S hm.1).lits l hl) (fun e => h1 (e ▸ hl)) (fun e => h2 (e ▸ hl)) hv] at ho
        exact ho
      · obtain ⟨l, hl, ho⟩ := (val_is_one _ _).1 (hh S hm.1)
        refine ⟨l, hl, ?_⟩
        rw [put_other (v := v) hf ((hT S hm.1).lits l hl) (fun e => h1 (e ▸ hl)) (fun e => h2 (e ▸ hl)) hv] at ho
        exact ho
    · obtain ⟨a, ha, b, hb, rfl⟩ := joins_mem.1 hS
      obtain ⟨d, hd, rfl⟩ := List.mem_map.1 ha
      obtain ⟨d2, hd2, rfl⟩ := List.mem_map.1 hb
      have hm := List.mem_filter.1 hd
      have hm2 := List.mem_filter.1 hd2
      have k1 : v ∈ d := by simpa using hm.2
      have k2 : v ∉ d2 ∧ -v ∈ d2 := by have := hm2.2; simp at this; exact this
      rcases hh with hh | hh
      · obtain ⟨l, hl, ho⟩ := (val_is_one _ _).1 (hh d2 hm2.1)
        have hl1 : l ≠ v := fun e => k2.1 (e ▸ hl)
        have hl2 : l ≠ -v := fun e => by rw [e, hp.2] at ho; cases ho
        refine ⟨l, by rw [mem_setL, List.mem_append, mem_woC, mem_woC]; exact Or.inr ⟨hl, hl2⟩, ?_⟩
        rw [put_other (v := v) hf ((hT d2 hm2.1).lits l hl) hl1 hl2 hv] at ho
        exact ho
      · obtain ⟨l, hl, ho⟩ := (val_is_one _ _).1 (hh d hm.1)
        have hl1 : l ≠ v := fun e => by rw [e, hn.1] at ho; cases ho
        have hl2 : l ≠ -v := fun e => not_both (hT d hm.1).one k1 (e ▸ hl)
        refine ⟨l, by rw [mem_setL, List.mem_append, mem_woC, mem_woC]; exact Or.inl ⟨hl, hl1⟩, ?_⟩
        rw [put_other (v := v) hf ((hT d hm.1).lits l hl) hl1 hl2 hv] at ho
        exact ho
theorem proj {vars v : Int} {cs : List (List Int)} {ms : List Int} (h : (ck vars cs).2 = 0) (hv : 1 ≤ v) (hv2 : v ≤ vars) (hl : elLong v (td cs) = false) (hf : Full vars ms) :
    fVal ms (td (elX v (td cs))) = 1 ↔ fVal (put1 ms v 1) cs = 1 ∨ fVal (put1 ms v (-1)) cs = 1 := by
  have hz := ck_zero h
  have hT := cl1_td h
  have hcs : ∀ c ∈ cs, ∀ x ∈ c, amB vars x = true := fun c hc => (hz.2.2.2.1 c hc).2
  rw [full_td hf (fun S hS => (elX_am hT hl S hS).2), ← full_td (full_put hf (Or.inl rfl)) hcs, ← full_td (full_put hf (Or.inr rfl)) hcs, fVal_one, fVal_one, fVal_one]
  exact proj_core hT hv hv2 hz.2.1 hf
theorem el_without {vars v : Int} {T : List (List Int)} (hT : ∀ c ∈ T, Cl1 vars c) : ∀ S ∈ td (elX v T), v ∉ S ∧ -v ∉ S := by
  intro S hS
  obtain ⟨c, hc, rfl⟩ := td_mem hS
  rw [mem_setL, mem_setL]
  rcases List.mem_append.1 hc with hc | hc
  · have := (List.mem_filter.1 hc).2
    simp at this
    exact this
  · obtain ⟨a, ha, b, hb, rfl⟩ := joins_mem.1 hc
    obtain ⟨d, hd, rfl⟩ := List.mem_map.1 ha
    obtain ⟨d2, hd2, rfl⟩ := List.mem_map.1 hb
    have hm := List.mem_filter.1 hd
    have hm2 := List.mem_filter.1 hd2
    have k1 : v ∈ d := by simpa using hm.2
    have k2 : v ∉ d2 ∧ -v ∈ d2 := by have := hm2.2; simp at this; exact this
    rw [mem_setL, mem_setL, List.mem_append, List.mem_append, mem_woC, mem_woC, mem_woC, mem_woC]
    refine ⟨?_, ?_⟩
    · rintro (h | h)
      · exact h.2 rfl
      · exact k2.1 h.1
    · rintro (h | h)
      · exact not_both (hT d hm.1).one k1 h.1
      · exact h.2 rfl
end Go.Cn
