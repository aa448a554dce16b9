import Derived.Below
namespace Go.Cn
/-- a literal's variable -/
def vr (l : Int) : Int := if l < 0 then -l else l
/-- where a literal stands among all -/
def rk (l : Int) : Int := if l < 0 then 2 * (-l) + 1 else 2 * l
def litB (l : Int) : Bool := decide (l ≠ 0) && decide (-1048576 ≤ l) && decide (l ≤ 1048576)
theorem litB_iff {l : Int} : litB l = true ↔ l ≠ 0 ∧ -1048576 ≤ l ∧ l ≤ 1048576 := by unfold litB; simp [and_assoc]
theorem rk_inj {x y : Int} (h : rk x = rk y) : x = y := by
  unfold rk at h
  split at h <;> split at h <;> omega
theorem litB_neg {l : Int} (h : litB l = true) : litB (-l) = true := by
  rw [litB_iff] at *; omega

/-- a set clause: by rising places, none twice -/
def SetC (l : List Int) : Prop := l.Pairwise fun a b => rk a < rk b

theorem setC_ext : ∀ {l m : List Int}, SetC l → SetC m → (∀ x, x ∈ l ↔ x ∈ m) → l = m
  | [], [], _, _, _ => rfl
  | [], b :: m, _, _, h => absurd ((h b).2 (List.mem_cons_self ..)) (by simp)
  | a :: l, [], _, _, h => absurd ((h a).1 (List.mem_cons_self ..)) (by simp)
  | a :: l, b :: m, hl, hm, h => by
    unfold SetC at hl hm
    rw [List.pairwise_cons] at hl hm
    have hab : a = b := by
      rcases List.mem_cons.1 ((h a).1 (List.mem_cons_self ..)) with e | e
      · exact e
      · rcases List.mem_cons.1 ((h b).2 (List.mem_cons_self ..)) with e2 | e2
        · exact e2.symm
        · have h1 := hm.1 a e
          have h2 := hl.1 b e2
          omega
    subst hab
    have hrest : ∀ x, x ∈ l ↔ x ∈ m := by
      intro x
      constructor
      · intro hx
        rcases List.mem_cons.1 ((h x).1 (List.mem_cons_of_mem _ hx)) with e | e
        · subst e; exact absurd (hl.1 _ hx) (by omega)
        · exact e
      · intro hx
        rcases List.mem_cons.1 ((h x).2 (List.mem_cons_of_mem _ hx)) with e | e
        · subst e; exact absurd (hm.1 _ hx) (by omega)
        · exact e
    rw [setC_ext hl.2 hm.2 hrest]

/-- put a literal where it belongs -/
def ins (x : Int) : List Int → List Int
  | [] => [x]
  | a :: l => if rk x < rk a then x :: a :: l else if x = a then a :: l else a :: ins x l
theorem mem_ins (x y : Int) : ∀ l, y ∈ ins x l ↔ y = x ∨ y ∈ l
  | [] => by simp [ins]
  | a :: l => by
    unfold ins
    split
    · simp
    · split
      · next h => subst h; simp
      · simp only [List.mem_cons, mem_ins x y l]
        constructor
        · rintro (h | h | h)
          · exact Or.inr (Or.inl h)
          · exact Or.inl h
          · exact Or.inr (Or.inr h)
        · rintro (h | h | h)
          · exact Or.inr (Or.inl h)
          · exact Or.inl h
          · exact Or.inr (Or.inr h)
theorem setC_ins (x : Int) : ∀ {l}, SetC l → SetC (ins x l)
  | [], _ => by simp [ins, SetC]
  | a :: l, h => by
    have h' := h
    unfold SetC at h'
    rw [List.pairwise_cons] at h'
    unfold ins
    split
    · next hlt =>
      unfold SetC
      rw [List.pairwise_cons]
      refine ⟨?_, h⟩
      intro b hb
      rcases List.mem_cons.1 hb with e | e
      · subst e; exact hlt
      · have := h'.1 b e; omega
    · next hge =>
      split
      · exact h
      · next hne =>
        unfold SetC
        rw [List.pairwise_cons]
        refine ⟨?_, setC_ins x h'.2⟩
        intro b hb
        rcases (mem_ins x b l).1 hb with e | e
        · subst e
          have : rk a ≠ rk b := fun e => hne (rk_inj e).symm
          omega
        · exact h'.1 b e
/-- THE SET CLAUSE -/
def setL : List Int → List Int
  | [] => []
  | a :: l => ins a (setL l)
theorem setC_setL : ∀ l, SetC (setL l)
  | [] => by simp [setL, SetC]
  | a :: l => setC_ins a (setC_setL l)
theorem mem_setL (x : Int) : ∀ l, x ∈ setL l ↔ x ∈ l
  | [] => by simp [setL]
  | a :: l => by simp [setL, mem_ins, mem_setL x l]
theorem setL_eq {l m : List Int} (hm : SetC m) (h : ∀ x, x ∈ m ↔ x ∈ l) : m = setL l :=
  setC_ext hm (setC_setL l) (fun x => (h x).trans (mem_setL x l).symm)
theorem setL_self {l : List Int} (h : SetC l) : setL l = l := (setL_eq h (fun _ => Iff.rfl)).symm
theorem setC_nodup {l : List Int} (h : SetC l) : l.Nodup := by
  unfold SetC at h
  exact h.imp fun hab e => by subst e; omega
theorem setL_len (l : List Int) : (setL l).length ≤ l.length := by
  induction l with
  | nil => simp [setL]
  | cons a l ih =>
    have : ∀ m, (ins a m).length ≤ m.length + 1 := by
      intro m
      induction m with
      | nil => simp [ins]
      | cons b m ihm => unfold ins; split <;> (try split) <;> simp <;> omega
    have := this (setL l)
    simp only [setL, List.length_cons]
    omega
/-- has it a variable both ways? -/
def two (l : List Int) : Bool := l.any fun x => decide (-x ∈ l)
end Go.Cn
