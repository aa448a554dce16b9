import Derived.Test.YtlkafgdddlgpcaaDoorMathK
namespace Go.Cn
theorem vGo_is_one (ms : List Int) : ∀ c a, (a = -1 ∨ a = 0 ∨ a = 1) → (vGo ms c a = 1 ↔ a = 1 ∨ ∃ l ∈ c, ofB ms l = 1)
  | [], a, _ => by unfold vGo; simp
  | l :: r, a, h => by
    unfold vGo
    have hl := ofB_three ms l
    rw [vGo_is_one ms r _ (by split <;> assumption)]
    constructor
    · rintro (h1 | ⟨x, hx, hx1⟩)
      · split at h1
        · exact Or.inr ⟨l, List.mem_cons_self, h1⟩
        · exact Or.inl h1
      · exact Or.inr ⟨x, List.mem_cons_of_mem _ hx, hx1⟩
    · rintro (h1 | ⟨x, hx, hx1⟩)
      · left; rw [if_neg (by omega)]; exact h1
      · rcases List.mem_cons.1 hx with e | e
        · subst e
          left
          split
          · exact hx1
          · omega
        · exact Or.inr ⟨x, e, hx1⟩
theorem val_is_one (ms c : List Int) : val ms c = 1 ↔ ∃ l ∈ c, ofB ms l = 1 := by
  unfold val
  rw [vGo_is_one ms c (-1) (Or.inl rfl)]
  constructor
  · rintro (h | h)
    · omega
    · exact h
  · exact Or.inr
theorem of_opp {ms : List Int} {v : Int} (h1 : 1 ≤ v) (h2 : v ≤ 1048576) (h : ofB ms v = 1) : ofB ms (-v) ≠ 1 := by
  have l1 : litB v = true := litB_iff.2 ⟨by omega, by omega, by omega⟩
  have l2 : litB (-v) = true := litB_iff.2 ⟨by omega, by omega, by omega⟩
  have e1 : vr v = v := by unfold vr; rw [if_neg (by omega)]
  have e2 : vr (-v) = v := by unfold vr; rw [if_pos (by omega)]; omega
  unfold ofB at h ⊢
  rw [l1, e1] at h
  rw [l2, e2]
  have f1 : ¬ v < 0 := by omega
  have f2 : -v < 0 := by omega
  simp only [f1, f2, if_true, if_false] at h ⊢
  simp only [Bool.true_eq_false, if_false] at h ⊢
  split
  · omega
  · next h3 =>
    rw [if_neg h3] at h
    split
    · omega
    · next h4 =>
      rw [if_neg h4] at h
      split
      · next h5 => rw [if_pos h5] at h; omega
      · omega
theorem vGo_is_low (ms : List Int) : ∀ c a, (a = -1 ∨ a = 0 ∨ a = 1) → (vGo ms c a = -1 ↔ a = -1 ∧ ∀ l ∈ c, ofB ms l = -1)
  | [], a, _ => by unfold vGo; simp
  | l :: r, a, h => by
    unfold vGo
    have hl := ofB_three ms l
    rw [vGo_is_low ms r _ (by split <;> assumption)]
    constructor
    · rintro ⟨h1, h2⟩
      split at h1
      · omega
      · refine ⟨h1, fun x hx => ?_⟩
        rcases List.mem_cons.1 hx with e | e
        · subst e; omega
        · exact h2 x e
    · rintro ⟨h1, h2⟩
      have := h2 l List.mem_cons_self
      refine ⟨by rw [if_neg (by omega)]; exact h1, fun x hx => h2 x (List.mem_cons_of_mem _ hx)⟩
theorem val_is_low (ms c : List Int) : val ms c = -1 ↔ ∀ l ∈ c, ofB ms l = -1 := by
  unfold val
  rw [vGo_is_low ms c (-1) (Or.inl rfl)]
  simp
theorem val_congr (ms : List Int) {c d : List Int} (h : ∀ x, x ∈ c ↔ x ∈ d) : val ms c = val ms d := by
  have h1 : val ms c = 1 ↔ val ms d = 1 := by
    rw [val_is_one, val_is_one]
    constructor
    · rintro ⟨l, hl, e⟩; exact ⟨l, (h l).1 hl, e⟩
    · rintro ⟨l, hl, e⟩; exact ⟨l, (h l).2 hl, e⟩
  have h2 : val ms c = -1 ↔ val ms d = -1 := by
    rw [val_is_low, val_is_low]
    constructor
    · intro hh l hl; exact hh l ((h l).2 hl)
    · intro hh l hl; exact hh l ((h l).1 hl)
  rcases val_three ms c with e | e | e <;> rcases val_three ms d with f | f | f <;> first | omega | (rw [e, f]) | (exfalso; omega)

/-- an assignment that tells all -/
def Full (vars : Int) (ms : List Int) : Prop := (ms.length : Int) = vars ∧ ∀ x ∈ ms, x = 1 ∨ x = -1
theorem full_of {vars : Int} {ms : List Int} (h : Full vars ms) {l : Int} (hl : amB vars l = true) : ofB ms l = 1 ∨ ofB ms l = -1 := by
  unfold amB at hl
  simp at hl
  have hv : 1 ≤ vr l := by have := litB_iff.1 hl.1; unfold vr; split <;> omega
  unfold ofB
  rw [if_neg (by rw [hl.1]; decide), if_neg (by rw [h.1]; omega)]
  have hm : ms.getD (vr l - 1).toNat 0 ∈ ms := by
    have hlt : (vr l - 1).toNat < ms.length := by have := h.1; omega
    rw [List.getD_eq_getElem?_getD, List.getElem?_eq_getElem hlt]
    exact List.getElem_mem _
  rcases h.2 _ hm with e | e
  · rw [e, if_pos rfl]; split <;> simp
  · rw [e, if_neg (by decide), if_pos rfl]; split <;> simp
theorem ofB_in {ms : List Int} {l : Int} (h1 : litB l = true) (h2 : ¬ (ms.length : Int) < vr l) : ofB ms l = if ms.getD (vr l - 1).toNat 0 = 1 then (if l < 0 then -1 else 1) else if ms.getD (vr l - 1).toNat 0 = -1 then (if l < 0 then 1 else -1) else 0 := by
  unfold ofB
  rw [if_neg (by rw [h1]; decide), if_neg h2]
theorem full_opp {vars : Int} {ms : List Int} (h : Full vars ms) {l : Int} (hl : amB vars l = true) : ofB ms (-l) = -ofB ms l := by
  unfold amB at hl
  simp at hl
  have hb := litB_iff.1 hl.1
  have l2 : litB (-l) = true := litB_iff.2 ⟨by omega, by omega, by omega⟩
  have e2 : vr (-l) = vr l := by unfold vr; split <;> split <;> omega
  have hq : ¬ (ms.length : Int) < vr l := by rw [h.1]; omega
  rw [ofB_in hl.1 hq, ofB_in l2 (by rw [e2]; exact hq), e2]
  generalize ms.getD (vr l - 1).toNat 0 = y
  split <;> split <;> first | omega | (split <;> omega)
theorem full_val {vars : Int} {ms : List Int} (h : Full vars ms) {c : List Int} (hc : ∀ x ∈ c, amB vars x = true) : val ms c = 1 ∨ val ms c = -1 := by
  by_cases h1 : val ms c = 1
  · exact Or.inl h1
  · right
    rw [val_is_low]
    intro l hl
    rcases full_of h (hc l hl) with e | e
    · exact absurd ((val_is_one ms c).2 ⟨l, hl, e⟩) h1
    · exact e
theorem full_two {vars : Int} {ms : List Int} (h : Full vars ms) {c : List Int} (hc : ∀ x ∈ c, amB vars x = true) (h2 : two (setL c) = true) : val ms c = 1 := by
  unfold two at h2
  rw [List.any_eq_true] at h2
  obtain ⟨x, hx, hn⟩ := h2
  simp at hn
  rw [mem_setL] at hx hn
  rw [val_is_one]
  rcases full_of h (hc x hx) with e | e
  · exact ⟨x, hx, e⟩
  · exact ⟨-x, hn, by rw [full_opp h (hc x hx), e]; rfl⟩
/-- the value of a formula -/
def fVal (ms : List Int) (cs : List (List Int)) : Int := cs.foldl (fun a c => if val ms c < a then val ms c else a) 1
theorem fold_le (ms : List Int) : ∀ (l : List (List Int)) (a : Int), l.foldl (fun a c => if val ms c < a then val ms c else a) a ≤ a
  | [], a => Int.le_refl _
  | d :: l, a => by
    rw [List.foldl_cons]
    have := fold_le ms l (if val ms d < a then val ms d else a)
    split at this <;> rename_i hh2
    · rw [if_pos hh2]; omega
    · rw [if_neg hh2]; omega
theorem fVal_ge (ms : List Int) (cs : List (List Int)) (k : Int) (hk : k ≤ 1) : k ≤ fVal ms cs ↔ ∀ c ∈ cs, k ≤ val ms c := fold_low ms cs 1 k hk
theorem fVal_range (ms : List Int) (cs : List (List Int)) : -1 ≤ fVal ms cs ∧ fVal ms cs ≤ 1 :=
  ⟨(fVal_ge ms cs (-1) (by omega)).2 fun c _ => by rcases val_three ms c with e | e | e <;> omega, fold_le ms cs 1⟩
theorem fVal_one (ms : List Int) (cs : List (List Int)) : fVal ms cs = 1 ↔ ∀ c ∈ cs, val ms c = 1 := by
  have hr := fVal_range ms cs
  have hg := fVal_ge ms cs 1 (by omega)
  constructor
  · intro h c hc
    have := hg.1 (by omega) c hc
    rcases val_three ms c with e | e | e <;> omega
  · intro h
    have := hg.2 (fun c hc => by have := h c hc; omega)
    omega
theorem full_fVal {vars : Int} {ms : List Int} (h : Full vars ms) {cs : List (List Int)} (hc : ∀ c ∈ cs, ∀ x ∈ c, amB vars x = true) : fVal ms cs = 1 ∨ fVal ms cs = -1 := by
  have hr := fVal_range ms cs
  have h0 := fVal_ge ms cs 0 (by omega)
  have h1 := fVal_one ms cs
  by_cases hh : fVal ms cs = 1
  · exact Or.inl hh
  · right
    by_cases h2 : 0 ≤ fVal ms cs
    · refine absurd (h1.2 fun c hcc => ?_) hh
      have := h0.1 h2 c hcc
      rcases full_val h (hc c hcc) with e | e <;> omega
    · omega
theorem un_val {vars : Int} {cs : List (List Int)} {ms : List Int} (h : (ck vars cs).2 = 0) : (un vars cs ms).1 = fVal ms cs ∧ (un vars cs ms).2.2 = 0 := by
  unfold un
  rw [if_pos h]
  exact ⟨uGo_val ms cs 0 1 cs.length, rfl⟩
/-- under an assignment of all variables a formula and its tidy one are alike -/
theorem full_td {vars : Int} {ms : List Int} (h : Full vars ms) {cs : List (List Int)} (hc : ∀ c ∈ cs, ∀ x ∈ c, amB vars x = true) : fVal ms (td cs) = fVal ms cs := by
  have hd : ∀ c ∈ td cs, ∀ x ∈ c, amB vars x = true := by
    intro c hcc x hx
    obtain ⟨d, hd, e⟩ := td_mem hcc
    rw [e, mem_setL] at hx
    exact hc d hd x hx
  have he : fVal ms (td cs) = 1 ↔ fVal ms cs = 1 := by
    rw [fVal_one, fVal_one]
    constructor
    · intro hh c hcc
      by_cases h2 : two (setL c) = true
      · exact full_two h (hc c hcc) h2
      · have := hh _ (td_has hcc (by simpa using h2))
        rw [← this]
        exact val_congr ms fun x => (mem_setL x c).symm
    · intro hh S hS
      obtain ⟨d, hd2, e⟩ := td_mem hS
      rw [e, ← hh d hd2]
      exact val_congr ms fun x => mem_setL x d
  rcases full_fVal h hc with e1 | e1 <;> rcases full_fVal h hd with e2 | e2 <;> omega
/-- what a tidy list has is fit for a formula -/
theorem td_am {vars : Int} {cs : List (List Int)} (hc : ∀ c ∈ cs, c.length ≤ 65536 ∧ ∀ x ∈ c, amB vars x = true) : ∀ c ∈ td cs, c.length ≤ 65536 ∧ ∀ x ∈ c, amB vars x = true := by
  intro c hcc
  obtain ⟨d, hd, e⟩ := td_mem hcc
  subst e
  exact ⟨Nat.le_trans (setL_len d) (hc d hd).1, fun x hx => (hc d hd).2 x ((mem_setL x d).1 hx)⟩
theorem ckGo_mk (vars : Int) : ∀ (cs : List (List Int)) (i n : Nat), (∀ c ∈ cs, c.length ≤ 65536 ∧ ∀ x ∈ c, amB vars x = true) → n + (cs.map List.length).sum ≤ 4194304 → ckGo vars cs i n = (0, 0)
  | [], _, _, _, _ => rfl
  | c :: cs, i, n, h, hs => by
    have hc := h c List.mem_cons_self
    simp only [List.map_cons, List.sum_cons] at hs
    unfold ckGo
    rw [if_neg (by omega), if_neg (by rw [List.all_eq_true.2 hc.2]; decide), if_neg (by omega)]
    exact ckGo_mk vars cs (i + 1) (n + c.length) (fun d hd => h d (List.mem_cons_of_mem _ hd)) (by omega)
theorem ck_mk {vars : Int} {cs : List (List Int)} (h0 : 0 ≤ vars) (h1 : vars ≤ 1048576) (h2 : cs.length ≤ 1048576) (h3 : ∀ c ∈ cs, c.length ≤ 65536 ∧ ∀ x ∈ c, amB vars x = true) (h4 : (cs.map List.length).sum ≤ 4194304) : ck vars cs = (0, 0) := by
  unfold ck
  rw [if_neg (by omega), if_neg (by omega)]
  exact ckGo_mk vars cs 0 0 h3 (by omega)
theorem ck_td {vars : Int} {cs : List (List Int)} (h : (ck vars cs).2 = 0) : (ck vars (td cs)).2 = 0 := by
  have hz := ck_zero h
  rw [ck_mk hz.1 hz.2.1 (Nat.le_trans (td_len cs) hz.2.2.1) (td_am hz.2.2.2.1) (Nat.le_trans (td_sum cs) hz.2.2.2.2)]
end Go.Cn
