import Derived.Below
import Derived.Lib.SlicesCompact
namespace Go.Cn
/-- a literal's variable -/
def vr (l : Int) : Int := if l < 0 then -l else l
/-- where a literal stands among all -/
def rk (l : Int) : Int := if l < 0 then 2 * (-l) + 1 else 2 * l
def litB (l : Int) : Bool := decide (l ≠ 0) && decide (-1048576 ≤ l) && decide (l ≤ 1048576)
theorem litB_iff {l : Int} : litB l = true ↔ l ≠ 0 ∧ -1048576 ≤ l ∧ l ≤ 1048576 := by unfold litB; simp [and_assoc]
theorem rk_inj {x y : Int} (h : rk x = rk y) : x = y := by
  unfold rk at h
  split at h <;> split at h <;> omega
theorem litB_neg {l : Int} (h : litB l = true) : litB (-l) = true := by
  rw [litB_iff] at *; omega

/-- a set clause: by rising places, none twice -/
def SetC (l : List Int) : Prop := l.Pairwise fun a b => rk a < rk b

theorem setC_ext : ∀ {l m : List Int}, SetC l → SetC m → (∀ x, x ∈ l ↔ x ∈ m) → l = m
  | [], [], _, _, _ => rfl
  | [], b :: m, _, _, h => absurd ((h b).2 (List.mem_cons_self ..)) (by simp)
  | a :: l, [], _, _, h => absurd ((h a).1 (List.mem_cons_self ..)) (by simp)
  | a :: l, b :: m, hl, hm, h => by
    unfold SetC at hl hm
    rw [List.pairwise_cons] at hl hm
    have hab : a = b := by
      rcases List.mem_cons.1 ((h a).1 (List.mem_cons_self ..)) with e | e
      · exact e
      · rcases List.mem_cons.1 ((h b).2 (List.mem_cons_self ..)) with e2 | e2
        · exact e2.symm
        · have h1 := hm.1 a e
          have h2 := hl.1 b e2
          omega
    subst hab
    have hrest : ∀ x, x ∈ l ↔ x ∈ m := by
      intro x
      constructor
      · intro hx
        rcases List.mem_cons.1 ((h x).1 (List.mem_cons_of_mem _ hx)) with e | e
        · subst e; exact absurd (hl.1 _ hx) (by omega)
        · exact e
      · intro hx
        rcases List.mem_cons.1 ((h x).2 (List.mem_cons_of_mem _ hx)) with e | e
        · subst e; exact absurd (hm.1 _ hx) (by omega)
        · exact e
    rw [setC_ext hl.2 hm.2 hrest]

/-- put a literal where it belongs -/
def ins (x : Int) : List Int → List Int
  | [] => [x]
  | a :: l => if rk x < rk a then x :: a :: l else if x = a then a :: l else a :: ins x l
theorem mem_ins (x y : Int) : ∀ l, y ∈ ins x l ↔ y = x ∨ y ∈ l
  | [] => by simp [ins]
  | a :: l => by
    unfold ins
    split
    · simp
    · split
      · next h => subst h; simp
      · simp only [List.mem_cons, mem_ins x y l]
        constructor
        · rintro (h | h | h)
          · exact Or.inr (Or.inl h)
          · exact Or.inl h
          · exact Or.inr (Or.inr h)
        · rintro (h | h | h)
          · exact Or.inr (Or.inl h)
          · exact Or.inl h
          · exact Or.inr (Or.inr h)
theorem setC_ins (x : Int) : ∀ {l}, SetC l → SetC (ins x l)
  | [], _ => by simp [ins, SetC]
  | a :: l, h => by
    have h' := h
    unfold SetC at h'
    rw [List.pairwise_cons] at h'
    unfold ins
    split
    · next hlt =>
      unfold SetC
      rw [List.pairwise_cons]
      refine ⟨?_, h⟩
      intro b hb
      rcases List.mem_cons.1 hb with e | e
      · subst e; exact hlt
      · have := h'.1 b e; omega
    · next hge =>
      split
      · exact h
      · next hne =>
        unfold SetC
        rw [List.pairwise_cons]
        refine ⟨?_, setC_ins x h'.2⟩
        intro b hb
        rcases (mem_ins x b l).1 hb with e | e
        · subst e
          have : rk a ≠ rk b := fun e => hne (rk_inj e).symm
          omega
        · exact h'.1 b e
/-- THE SET CLAUSE -/
def setL : List Int → List Int
  | [] => []
  | a :: l => ins a (setL l)
theorem setC_setL : ∀ l, SetC (setL l)
  | [] => by simp [setL, SetC]
  | a :: l => setC_ins a (setC_setL l)
theorem mem_setL (x : Int) : ∀ l, x ∈ setL l ↔ x ∈ l
  | [] => by simp [setL]
  | a :: l => by simp [setL, mem_ins, mem_setL x l]
theorem setL_eq {l m : List Int} (hm : SetC m) (h : ∀ x, x ∈ m ↔ x ∈ l) : m = setL l :=
  setC_ext hm (setC_setL l) (fun x => (h x).trans (mem_setL x l).symm)
theorem setL_self {l : List Int} (h : SetC l) : setL l = l := (setL_eq h (fun _ => Iff.rfl)).symm
theorem setC_nodup {l : List Int} (h : SetC l) : l.Nodup := by
  unfold SetC at h
  exact h.imp fun hab e => by subst e; omega
theorem setL_len (l : List Int) : (setL l).length ≤ l.length := by
  induction l with
  | nil => simp [setL]
  | cons a l ih =>
    have : ∀ m, (ins a m).length ≤ m.length + 1 := by
      intro m
      induction m with
      | nil => simp [ins]
      | cons b m ihm => unfold ins; split <;> (try split) <;> simp <;> omega
    have := this (setL l)
    simp only [setL, List.length_cons]
    omega
/-- has it a variable both ways? -/
def two (l : List Int) : Bool := l.any fun x => decide (-x ∈ l)
end Go.Cn
namespace Go.Cn
theorem setC_get {l : List Int} (h : SetC l) {i j : Nat} (hij : i < j) (hj : j < l.length) : rk (l.getD i 0) < rk (l.getD j 0) := by
  unfold SetC at h
  rw [List.pairwise_iff_getElem] at h
  have := h i j (by omega) hj hij
  simpa [List.getD_eq_getElem?_getD, List.getElem?_eq_getElem, hj, show i < l.length by omega] using this
theorem getD_mem {l : List Int} {i : Nat} (h : i < l.length) : l.getD i 0 ∈ l := by
  rw [List.getD_eq_getElem?_getD, List.getElem?_eq_getElem h]; simp
theorem mem_getD {l : List Int} {x : Int} (h : x ∈ l) : ∃ i, i < l.length ∧ l.getD i 0 = x := by
  obtain ⟨i, hi, rfl⟩ := List.getElem_of_mem h
  exact ⟨i, hi, by simp [List.getD_eq_getElem?_getD, hi]⟩
/-- in a set clause the two literals of a variable stand side by side -/
theorem two_iff {l : List Int} (h : SetC l) (h0 : ∀ x ∈ l, x ≠ 0) : two l = true ↔ ∃ k, 1 ≤ k ∧ k < l.length ∧ l.getD k 0 = -l.getD (k - 1) 0 := by
  have key : ∀ x, 0 < x → x ∈ l → -x ∈ l → ∃ k, 1 ≤ k ∧ k < l.length ∧ l.getD k 0 = -l.getD (k - 1) 0 := by
    intro x hx hm hn
    obtain ⟨i, hi, ei⟩ := mem_getD hm
    obtain ⟨j, hj, ej⟩ := mem_getD hn
    have r1 : rk x = 2 * x := by unfold rk; rw [if_neg (by omega)]
    have r2 : rk (-x) = 2 * x + 1 := by unfold rk; rw [if_pos (by omega)]; omega
    have hij : i < j := by
      rcases Nat.lt_trichotomy i j with h1 | h1 | h1
      · exact h1
      · subst h1; rw [ei] at ej; omega
      · have := setC_get h h1 hi; rw [ei, ej] at this; omega
    have hj1 : j = i + 1 := by
      by_cases hc : j = i + 1
      · exact hc
      · have h1 := setC_get h (show i < i + 1 by omega) (show i + 1 < l.length by omega)
        have h2 := setC_get h (show i + 1 < j by omega) hj
        rw [ei] at h1; rw [ej] at h2
        omega
    subst hj1
    exact ⟨i + 1, by omega, hj, by rw [ej]; simp only [Nat.add_sub_cancel]; rw [ei]⟩
  unfold two
  rw [List.any_eq_true]
  constructor
  · rintro ⟨x, hm, hn⟩
    have hn := of_decide_eq_true hn
    rcases Int.lt_or_gt_of_ne (h0 x hm) with hx | hx
    · exact key (-x) (by omega) hn (by rw [Int.neg_neg]; exact hm)
    · exact key x hx hm hn
  · rintro ⟨k, h1, h2, he⟩
    refine ⟨l.getD (k - 1) 0, getD_mem (by omega), ?_⟩
    rw [← he]
    simpa using getD_mem h2
end Go.Cn
namespace Go.Cn
/-- l with x put in at k -/
def put (l : List Int) (x : Int) (k : Nat) : List Int := l.take k ++ x :: l.drop k
theorem put_len (l : List Int) (x : Int) (k : Nat) (hk : k ≤ l.length) : (put l x k).length = l.length + 1 := by
  unfold put; simp; omega
theorem put_at (l : List Int) (x : Int) (k : Nat) (hk : k ≤ l.length) : (put l x k).getD k 0 = x := by
  unfold put
  rw [List.getD_eq_getElem?_getD, List.getElem?_append_right (by simp; omega)]
  simp [Nat.min_eq_left hk]
theorem put_low (l : List Int) (x : Int) (k j : Nat) (hk : k ≤ l.length) (hj : j < k) : (put l x k).getD j 0 = l.getD j 0 := by
  unfold put
  rw [List.getD_eq_getElem?_getD, List.getElem?_append_left (by simp; omega), List.getD_eq_getElem?_getD, List.getElem?_take]
  simp [hj]
theorem put_end (l : List Int) (x : Int) : put l x l.length = l ++ [x] := by unfold put; simp
/-- one step down -/
theorem put_step (l : List Int) (x : Int) (k : Nat) (hk : k < l.length) : ((put l x (k + 1)).set (k + 1) (l.getD k 0)).set k x = put l x k := by
  apply List.ext_getElem?
  intro j
  unfold put
  have e : l.getD k 0 = l[k] := by simp [List.getD_eq_getElem?_getD, hk]
  rw [e]
  rw [List.getElem?_set, List.getElem?_set]
  have hl : (l.take (k + 1) ++ x :: l.drop (k + 1)).length = l.length + 1 := by simp; omega
  by_cases h1 : k = j
  · subst h1
    simp only [List.length_set, hl, if_true]
    rw [if_pos (by omega), List.getElem?_append_right (by simp; omega)]
    simp [Nat.min_eq_left (Nat.le_of_lt hk)]
  · rw [if_neg h1]
    by_cases h2 : k + 1 = j
    · subst h2
      rw [if_pos rfl, if_pos (by omega), List.getElem?_append_right (by simp; omega)]
      have : k + 1 - (l.take k).length = 1 := by simp [Nat.min_eq_left (Nat.le_of_lt hk)]
      rw [this]
      simp [hk]
    · rw [if_neg h2]
      by_cases h3 : j < k
      · rw [List.getElem?_append_left (by simp; omega), List.getElem?_append_left (by simp; omega), List.getElem?_take, List.getElem?_take, if_pos (by omega), if_pos h3]
      · rw [List.getElem?_append_right (by simp; omega), List.getElem?_append_right (by simp; omega)]
        have a1 : j - (l.take (k + 1)).length = (j - k - 2) + 1 := by simp; omega
        have a2 : j - (l.take k).length = (j - k - 1) + 1 := by simp; omega
        rw [a1, a2, List.getElem?_cons_succ, List.getElem?_cons_succ, List.getElem?_drop, List.getElem?_drop]
        congr 1
        omega
theorem mem_put (l : List Int) (x : Int) (k : Nat) (y : Int) : y ∈ put l x k ↔ y = x ∨ y ∈ l := by
  unfold put
  rw [List.mem_append, List.mem_cons]
  have : y ∈ l ↔ y ∈ l.take k ∨ y ∈ l.drop k := by
    rw [← List.mem_append, List.take_append_drop]
  rw [this]
  constructor
  · rintro (h | h | h)
    · exact Or.inr (Or.inl h)
    · exact Or.inl h
    · exact Or.inr (Or.inr h)
  · rintro (h | h | h)
    · exact Or.inr (Or.inl h)
    · exact Or.inl h
    · exact Or.inr (Or.inr h)
theorem setC_put {l : List Int} (h : SetC l) {x : Int} {k : Nat} (hk : k ≤ l.length) (h1 : ∀ j, j < k → rk (l.getD j 0) < rk x) (h2 : ∀ j, k ≤ j → j < l.length → rk x < rk (l.getD j 0)) : SetC (put l x k) := by
  have hh := h
  unfold SetC at h ⊢
  unfold put
  rw [List.pairwise_append, List.pairwise_cons]
  refine ⟨h.sublist (List.take_sublist _ _), ⟨?_, h.sublist (List.drop_sublist _ _)⟩, ?_⟩
  · intro b hb
    obtain ⟨i, hi, rfl⟩ := List.getElem_of_mem hb
    have hi' : k + i < l.length := by simp at hi; omega
    have := h2 (k + i) (by omega) hi'
    rw [List.getElem_drop]
    simpa [List.getD_eq_getElem?_getD, hi'] using this
  · intro a ha b hb
    obtain ⟨i, hi, rfl⟩ := List.getElem_of_mem ha
    have hi' : i < k := by simp at hi; omega
    have hi2 : i < l.length := by omega
    have ea : (l.take k)[i] = l.getD i 0 := by simp [List.getD_eq_getElem?_getD, hi2]
    rw [ea]
    rcases List.mem_cons.1 hb with e | e
    · subst e; exact h1 i hi'
    · obtain ⟨j, hj, rfl⟩ := List.getElem_of_mem e
      have hj' : k + j < l.length := by simp at hj; omega
      have eb : (l.drop k)[j] = l.getD (k + j) 0 := by rw [List.getElem_drop]; simp [List.getD_eq_getElem?_getD, hj']
      rw [eb]
      exact setC_get hh (by omega) hj'
/-- the set clause as it comes from the left: one literal more -/
theorem setL_snoc_mem {l : List Int} {x : Int} (h : x ∈ l) : setL (l ++ [x]) = setL l :=
  (setL_eq (setC_setL l) (fun y => by rw [mem_setL, List.mem_append, List.mem_singleton]; constructor; exact Or.inl; rintro (h1 | h1); exact h1; subst h1; exact h)).symm
theorem setL_snoc_put {l : List Int} {x : Int} {k : Nat} (h : SetC (put (setL l) x k)) : setL (l ++ [x]) = put (setL l) x k :=
  (setL_eq h (fun y => by rw [mem_put, mem_setL, List.mem_append, List.mem_singleton]; exact or_comm)).symm
theorem take_succ_getD (l : List Int) (k : Nat) (h : k < l.length) : l.take (k + 1) = l.take k ++ [l.getD k 0] := by
  rw [List.take_add_one, List.getElem?_eq_getElem h]; simp [List.getD_eq_getElem?_getD, h]
end Go.Cn
namespace Go.Cn
open Go.Lib
section
variable {α : Type} [Inhabited α] [DecidableEq α]
theorem compact_set (f : α → Int) (hf : ∀ x y, f x = f y → x = y) (d : Array α) (hs : ∀ i j, i ≤ j → j < d.size → f d[i]! ≤ f d[j]!) : ∀ m, m ≤ d.size →
    (compactUpTo d m).Pairwise (fun a b => f a < f b) ∧ (∀ x, x ∈ compactUpTo d m ↔ ∃ j, j < m ∧ d[j]! = x)
  | 0, _ => by simp [compactUpTo]
  | m + 1, hm => by
    obtain ⟨hp, hx⟩ := compact_set f hf d hs m (by omega)
    rw [compactUpTo_succ]
    have hmem : ∀ x, x ∈ compactUpTo d m ++ (if keeps d m then [d[m]!] else []) ↔ ∃ j, j < m + 1 ∧ d[j]! = x := by
      intro x
      rw [List.mem_append, hx x]
      constructor
      · rintro (⟨j, h1, h2⟩ | h)
        · exact ⟨j, by omega, h2⟩
        · split at h
          · simp at h; exact ⟨m, by omega, h.symm⟩
          · simp at h
      · rintro ⟨j, h1, h2⟩
        by_cases hj : j < m
        · exact Or.inl ⟨j, hj, h2⟩
        · have : j = m := by omega
          subst this
          by_cases hk : keeps d j = true
          · rw [if_pos hk]; exact Or.inr (by simp [h2])
          · left
            have hk' : ¬ (j = 0 ∨ d[j]! ≠ d[j - 1]!) := by simpa [keeps] using hk
            have e : d[j]! = d[j - 1]! := by
              by_cases e : d[j]! = d[j - 1]!
              · exact e
              · exact absurd (Or.inr e) hk'
            exact ⟨j - 1, by omega, by rw [← e, h2]⟩
    refine ⟨?_, hmem⟩
    by_cases hk : keeps d m = true
    · rw [if_pos hk, List.pairwise_append]
      refine ⟨hp, by simp, ?_⟩
      intro a ha b hb
      simp at hb
      subst hb
      obtain ⟨j, hj, rfl⟩ := (hx a).1 ha
      have h1 := hs j (m - 1) (by omega) (by omega)
      have h2 := hs (m - 1) m (by omega) (by omega)
      have hk' : m = 0 ∨ d[m]! ≠ d[m - 1]! := by simpa [keeps] using hk
      have h3 : f d[m]! ≠ f d[m - 1]! := by
        intro e
        rcases hk' with h | h
        · omega
        · exact h (hf _ _ e)
      omega
    · rw [if_neg hk, List.append_nil]; exact hp
end
end Go.Cn
namespace Go.Cn
theorem setC_cons {a : Int} {l : List Int} (h : SetC (a :: l)) : SetC l ∧ ∀ x ∈ l, rk a < rk x := by
  unfold SetC at h
  rw [List.pairwise_cons] at h
  exact ⟨h.2, h.1⟩
theorem setC_mk {a : Int} {l : List Int} (h : SetC l) (h2 : ∀ x ∈ l, rk a < rk x) : SetC (a :: l) := by
  unfold SetC
  rw [List.pairwise_cons]
  exact ⟨h2, h⟩
theorem uni_same {a : Int} {l m : List Int} : setL ((a :: l) ++ (a :: m)) = setL (l ++ (a :: m)) := by
  refine (setL_eq (setC_setL _) (fun x => ?_)).symm
  rw [mem_setL]
  simp only [List.mem_append, List.mem_cons]
  constructor
  · rintro (h | h | h)
    · exact Or.inl (Or.inr h)
    · exact Or.inl (Or.inl h)
    · exact Or.inr (Or.inr h)
  · rintro ((h | h) | (h | h))
    · exact Or.inr (Or.inl h)
    · exact Or.inl h
    · exact Or.inr (Or.inl h)
    · exact Or.inr (Or.inr h)
theorem uni_left {a b : Int} {l m : List Int} (hl : SetC (a :: l)) (hm : SetC (b :: m)) (h : rk a < rk b) : setL ((a :: l) ++ (b :: m)) = a :: setL (l ++ (b :: m)) := by
  refine (setL_eq (setC_mk (setC_setL _) ?_) (fun x => ?_)).symm
  · intro x hx
    rw [mem_setL, List.mem_append, List.mem_cons] at hx
    rcases hx with hx | hx | hx
    · exact (setC_cons hl).2 x hx
    · subst hx; exact h
    · have := (setC_cons hm).2 x hx; omega
  · rw [List.mem_cons, mem_setL]
    simp only [List.mem_append, List.mem_cons]
    constructor
    · rintro (h | h | h | h)
      · exact Or.inl (Or.inl h)
      · exact Or.inl (Or.inr h)
      · exact Or.inr (Or.inl h)
      · exact Or.inr (Or.inr h)
    · rintro ((h | h) | (h | h))
      · exact Or.inl h
      · exact Or.inr (Or.inl h)
      · exact Or.inr (Or.inr (Or.inl h))
      · exact Or.inr (Or.inr (Or.inr h))
theorem setL_comm (l m : List Int) : setL (l ++ m) = setL (m ++ l) :=
  setL_eq (setC_setL _) (fun x => by rw [mem_setL, List.mem_append, List.mem_append]; exact or_comm)
theorem uni_right {a b : Int} {l m : List Int} (hl : SetC (a :: l)) (hm : SetC (b :: m)) (h : rk b < rk a) : setL ((a :: l) ++ (b :: m)) = b :: setL ((a :: l) ++ m) := by
  rw [setL_comm, uni_left hm hl h, setL_comm m]
theorem uni_nil_left {m : List Int} (h : SetC m) : setL ([] ++ m) = m := setL_self h
theorem uni_nil_right {m : List Int} (h : SetC m) : setL (m ++ []) = m := by rw [List.append_nil]; exact setL_self h
end Go.Cn
namespace Go.Cn
/-- is it a literal over these variables? -/
def amB (vars l : Int) : Bool := litB l && decide (vr l ≤ vars)
/-- the first fault among clauses, from place i on, with so many literals ahead -/
def ckGo (vars : Int) : List (List Int) → Nat → Nat → Int × Int
  | [], _, _ => (0, 0)
  | c :: cs, i, n => if 65536 < c.length then ((i : Int), 22) else if c.all (amB vars) = false then ((i : Int), 20) else if 4194304 < n + c.length then ((i : Int), 23) else ckGo vars cs (i + 1) (n + c.length)
def ck (vars : Int) (cs : List (List Int)) : Int × Int :=
  if vars < 0 ∨ 1048576 < vars then (-1, 21) else if 1048576 < cs.length then (-1, 23) else ckGo vars cs 0 0
theorem drop_cons (cs : List (List Int)) (k : Nat) (h : k < cs.length) : cs.drop k = cs.getD k [] :: cs.drop (k + 1) := by
  rw [List.drop_eq_getElem_cons h]; simp [List.getD_eq_getElem?_getD, h]
theorem ckGo_end (vars : Int) (cs : List (List Int)) (k i n : Nat) (h : cs.length ≤ k) : ckGo vars (cs.drop k) i n = (0, 0) := by
  rw [List.drop_eq_nil_of_le h]; rfl
theorem ckGo_step (vars : Int) (cs : List (List Int)) (k n : Nat) (h : k < cs.length) : ckGo vars (cs.drop k) k n =
    if 65536 < (cs.getD k []).length then ((k : Int), 22) else if (cs.getD k []).all (amB vars) = false then ((k : Int), 20) else if 4194304 < n + (cs.getD k []).length then ((k : Int), 23) else ckGo vars (cs.drop (k + 1)) (k + 1) (n + (cs.getD k []).length) := by
  rw [drop_cons cs k h]; rfl
theorem all_false {p : Int → Bool} {l : List Int} {k : Nat} (h : k < l.length) (hp : p (l.getD k 0) = false) : l.all p = false := by
  rw [Bool.eq_false_iff]
  intro ha
  rw [List.all_eq_true] at ha
  rw [ha _ (getD_mem h)] at hp
  cases hp
theorem all_true {p : Int → Bool} {l : List Int} (h : ∀ k, k < l.length → p (l.getD k 0) = true) : l.all p = true := by
  rw [List.all_eq_true]
  intro x hx
  obtain ⟨i, hi, rfl⟩ := mem_getD hx
  exact h i hi
/-- what a formula that may be has -/
theorem ckGo_zero (vars : Int) : ∀ (cs : List (List Int)) (i n : Nat), (ckGo vars cs i n).2 = 0 → (∀ c ∈ cs, c.length ≤ 65536 ∧ ∀ x ∈ c, amB vars x = true) ∧ n + (cs.map List.length).sum ≤ 4194304 ∨ (cs = [] )
  | [], _, _, _ => Or.inr rfl
  | c :: cs, i, n, h => by
    left
    unfold ckGo at h
    split at h
    · simp at h
    · split at h
      · simp at h
      · split at h
        · simp at h
        · next h1 h2 h3 =>
          have ha : c.all (amB vars) = true := by simpa using h2
          rcases ckGo_zero vars cs (i + 1) (n + c.length) h with ⟨p, q⟩ | e
          · refine ⟨?_, ?_⟩
            · intro d hd
              rcases List.mem_cons.1 hd with e | e
              · subst e; exact ⟨by omega, List.all_eq_true.1 ha⟩
              · exact p d e
            · simp only [List.map_cons, List.sum_cons]; omega
          · subst e
            refine ⟨?_, ?_⟩
            · intro d hd
              simp at hd
              subst hd
              exact ⟨by omega, List.all_eq_true.1 ha⟩
            · simp; omega
theorem ck_zero {vars : Int} {cs : List (List Int)} (h : (ck vars cs).2 = 0) : 0 ≤ vars ∧ vars ≤ 1048576 ∧ cs.length ≤ 1048576 ∧ (∀ c ∈ cs, c.length ≤ 65536 ∧ ∀ x ∈ c, amB vars x = true) ∧ (cs.map List.length).sum ≤ 4194304 := by
  unfold ck at h
  split at h
  · simp at h
  · split at h
    · simp at h
    · next h1 h2 =>
      refine ⟨by omega, by omega, by omega, ?_⟩
      rcases ckGo_zero vars cs 0 0 h with ⟨p, q⟩ | e
      · exact ⟨p, by omega⟩
      · subst e; simp
end Go.Cn
