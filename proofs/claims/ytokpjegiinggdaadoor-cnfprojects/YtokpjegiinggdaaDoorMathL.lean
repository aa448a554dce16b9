import Derived.Test.YtokpjegiinggdaaDoorMathF
import Derived.Lib.ItoaNum
namespace Go.Cn
/-- what an assignment says of a literal -/
def ofB (ms : List Int) (l : Int) : Int :=
  if litB l = false then 0 else if (ms.length : Int) < vr l then 0 else if ms.getD (vr l - 1).toNat 0 = 1 then (if l < 0 then -1 else 1) else if ms.getD (vr l - 1).toNat 0 = -1 then (if l < 0 then 1 else -1) else 0
theorem ofB_three (ms : List Int) (l : Int) : ofB ms l = -1 ∨ ofB ms l = 0 ∨ ofB ms l = 1 := by
  unfold ofB
  repeat' split
  all_goals simp
/-- what it says of a clause, with so much from ahead -/
def vGo (ms : List Int) : List Int → Int → Int
  | [], a => a
  | l :: r, a => vGo ms r (if a < ofB ms l then ofB ms l else a)
def val (ms : List Int) (c : List Int) : Int := vGo ms c (-1)
theorem vGo_one (ms : List Int) : ∀ c, vGo ms c 1 = 1
  | [] => rfl
  | l :: r => by
    unfold vGo
    rw [if_neg (by rcases ofB_three ms l with h | h | h <;> rw [h] <;> decide)]
    exact vGo_one ms r
theorem vGo_three (ms : List Int) : ∀ c a, (a = -1 ∨ a = 0 ∨ a = 1) → vGo ms c a = -1 ∨ vGo ms c a = 0 ∨ vGo ms c a = 1
  | [], a, h => h
  | l :: r, a, h => by
    unfold vGo
    refine vGo_three ms r _ ?_
    split
    · exact ofB_three ms l
    · exact h
theorem val_three (ms c : List Int) : val ms c = -1 ∨ val ms c = 0 ∨ val ms c = 1 := vGo_three ms c _ (Or.inl rfl)
theorem drop_cons1 (c : List Int) (k : Nat) (h : k < c.length) : c.drop k = c.getD k 0 :: c.drop (k + 1) := by
  rw [List.drop_eq_getElem_cons h]; simp [List.getD_eq_getElem?_getD, h]
theorem vGo_end (ms c : List Int) (k : Nat) (a : Int) (h : c.length ≤ k) : vGo ms (c.drop k) a = a := by
  rw [List.drop_eq_nil_of_le h]; rfl
theorem vGo_step (ms c : List Int) (k : Nat) (a : Int) (h : k < c.length) : vGo ms (c.drop k) a = vGo ms (c.drop (k + 1)) (if a < ofB ms (c.getD k 0) then ofB ms (c.getD k 0) else a) := by
  rw [drop_cons1 c k h]; rfl
/-- what it says of clauses from place i on, with so much from ahead -/
def uGo (ms : List Int) : List (List Int) → Nat → Int → Nat → Int × Nat
  | [], _, v, p => (v, p)
  | c :: r, i, v, p => if val ms c < v then uGo ms r (i + 1) (val ms c) i else uGo ms r (i + 1) v p
theorem uGo_end (ms : List Int) (cs : List (List Int)) (k i : Nat) (v : Int) (p : Nat) (h : cs.length ≤ k) : uGo ms (cs.drop k) i v p = (v, p) := by
  rw [List.drop_eq_nil_of_le h]; rfl
theorem uGo_step (ms : List Int) (cs : List (List Int)) (k : Nat) (v : Int) (p : Nat) (h : k < cs.length) : uGo ms (cs.drop k) k v p = if val ms (cs.getD k []) < v then uGo ms (cs.drop (k + 1)) (k + 1) (val ms (cs.getD k [])) k else uGo ms (cs.drop (k + 1)) (k + 1) v p := by
  rw [drop_cons cs k h]; rfl
theorem uGo_least (ms : List Int) : ∀ cs i p, uGo ms cs i (-1) p = (-1, p)
  | [], _, _ => rfl
  | c :: r, i, p => by
    unfold uGo
    rw [if_neg (by rcases val_three ms c with h | h | h <;> rw [h] <;> decide)]
    exact uGo_least ms r _ p
/-- the whole answer -/
def un (vars : Int) (cs : List (List Int)) (ms : List Int) : Int × Int × Int :=
  if (ck vars cs).2 = 0 then ((uGo ms cs 0 1 cs.length).1, ((uGo ms cs 0 1 cs.length).2 : Int), 0) else (0, 0, (ck vars cs).2)
end Go.Cn
namespace Go.Cn
theorem take_succ1 (cs : List (List Int)) (k : Nat) (h : k < cs.length) : cs.take (k + 1) = cs.take k ++ [cs.getD k []] := by
  rw [List.take_add_one]; simp [List.getD_eq_getElem?_getD, h]
/-- without a literal -/
def woC (l : List Int) (x : Int) : List Int := l.filter fun y => !decide (y = x)
/-- the clauses in which a literal is true -/
def asg (l : Int) (cs : List (List Int)) : List (List Int) := (cs.filter fun c => !decide (l ∈ c)).map fun c => woC c (-l)
theorem asg_in (l : Int) (cs : List (List Int)) (c : List Int) (h : l ∈ c) : asg l (cs ++ [c]) = asg l cs := by simp [asg, h]
theorem asg_out (l : Int) (cs : List (List Int)) (c : List Int) (h : l ∉ c) : asg l (cs ++ [c]) = asg l cs ++ [woC c (-l)] := by simp [asg, h]
theorem asg_len (l : Int) (cs : List (List Int)) : (asg l cs).length ≤ cs.length := by
  unfold asg; rw [List.length_map]; exact List.length_filter_le _ _
def asE (vars : Int) (cs : List (List Int)) (l : Int) : Int := if (ck vars cs).2 = 0 then (if amB vars l = true then 0 else 20) else (ck vars cs).2
def asV (vars : Int) (cs : List (List Int)) (l : Int) : Int := if asE vars cs l = 0 then vars else 0
def asC (vars : Int) (cs : List (List Int)) (l : Int) : List (List Int) := if asE vars cs l = 0 then asg l cs else []
end Go.Cn
namespace Go.Cn
open Go.Lib
/-- the number of a numeral -/
def dval (l : List UInt8) : Nat := l.foldl (fun a d => a * 10 + (d.toNat - 48)) 0
theorem dig_nat {u : Nat} (h : u < 10) : (UInt8.ofNat (48 + u)).toNat = 48 + u := by
  rw [UInt8.toNat_ofNat']; omega
theorem dval_dec (u : Nat) : dval (decDigits u) = u := by
  induction u using Nat.strongRecOn with
  | ind u ih =>
    rw [decDigits]
    split
    · next h => simp [dval]; omega
    · next h =>
      have h1 := ih (u / 10) (by omega)
      unfold dval at h1 ⊢
      rw [List.foldl_append, h1]
      simp only [List.foldl_cons, List.foldl_nil]
      rw [dig_nat (by omega)]
      omega
theorem dec_mem (u : Nat) : ∀ x ∈ decDigits u, 48 ≤ x.toNat ∧ x.toNat ≤ 57 := by
  induction u using Nat.strongRecOn with
  | ind u ih =>
    rw [decDigits]
    split
    · next h =>
      intro x hx
      have e := List.mem_singleton.1 hx
      subst e
      rw [dig_nat h]; omega
    · next h =>
      intro x hx
      rcases List.mem_append.1 hx with hx | hx
      · exact ih (u / 10) (by omega) x hx
      · have e := List.mem_singleton.1 hx
        subst e
        rw [dig_nat (by omega)]; omega
theorem dec_inj {u v : Nat} (h : decDigits u = decDigits v) : u = v := by
  have := congrArg dval h
  rwa [dval_dec, dval_dec] at this
theorem dec_head (u : Nat) (r : List UInt8) : decDigits u ≠ 45 :: r := by
  intro h
  have := dec_mem u 45 (by rw [h]; exact List.mem_cons_self)
  simp at this
theorem itoa_inj {a b : Int} (h : itoa a = itoa b) : a = b := by
  unfold itoa at h
  split at h
  · split at h
    · have := dec_inj (List.cons.inj h).2; omega
    · exact absurd h.symm (dec_head _ _)
  · split at h
    · exact absurd h (dec_head _ _)
    · have := dec_inj h; omega
theorem itoa_no_blank (a : Int) : ∀ x ∈ itoa a, x ≠ 32 := by
  intro x hx e
  subst e
  unfold itoa at hx
  split at hx
  · rcases List.mem_cons.1 hx with h | h
    · cases h
    · have := dec_mem _ _ h; simp at this
  · have := dec_mem _ _ hx; simp at this
theorem first_blank : ∀ (a b r s : List UInt8), (∀ x ∈ a, x ≠ 32) → (∀ x ∈ b, x ≠ 32) → a ++ 32 :: r = b ++ 32 :: s → a = b ∧ r = s
  | [], [], r, s, _, _, h => ⟨rfl, (List.cons.inj h).2⟩
  | [], y :: b, r, s, _, hb, h => absurd (List.cons.inj h).1.symm (hb y List.mem_cons_self)
  | x :: a, [], r, s, ha, _, h => absurd (List.cons.inj h).1 (ha x List.mem_cons_self)
  | x :: a, y :: b, r, s, ha, hb, h => by
    obtain ⟨e1, e2⟩ := List.cons.inj h
    obtain ⟨e3, e4⟩ := first_blank a b r s (fun z hz => ha z (List.mem_cons_of_mem _ hz)) (fun z hz => hb z (List.mem_cons_of_mem _ hz)) e2
    exact ⟨by rw [e1, e3], e4⟩
/-- the text of a clause tells it -/
theorem text_inj : ∀ (xs ys : List Int), (xs.flatMap fun l => itoa l ++ [32]) = (ys.flatMap fun l => itoa l ++ [32]) → xs = ys
  | [], [], _ => rfl
  | [], y :: ys, h => by
    simp at h
  | x :: xs, [], h => by
    simp at h
  | x :: xs, y :: ys, h => by
    simp only [List.flatMap_cons, List.append_assoc, List.singleton_append] at h
    obtain ⟨e1, e2⟩ := first_blank _ _ _ _ (itoa_no_blank x) (itoa_no_blank y) h
    rw [itoa_inj e1, text_inj xs ys e2]
end Go.Cn
namespace Go.Cn
/-- set clauses that are not twofold, each once -/
def tdS (out : List (List Int)) (c : List Int) : List (List Int) := if two (setL c) = true ∨ setL c ∈ out then out else out ++ [setL c]
def td (cs : List (List Int)) : List (List Int) := cs.foldl tdS []
theorem td_snoc (cs : List (List Int)) (c : List Int) : td (cs ++ [c]) = tdS (td cs) c := by unfold td; rw [List.foldl_append]; rfl
theorem td_old {cs : List (List Int)} {c : List Int} (h : two (setL c) = true ∨ setL c ∈ td cs) : td (cs ++ [c]) = td cs := by rw [td_snoc]; unfold tdS; rw [if_pos h]
theorem td_new {cs : List (List Int)} {c : List Int} (h : ¬ (two (setL c) = true ∨ setL c ∈ td cs)) : td (cs ++ [c]) = td cs ++ [setL c] := by rw [td_snoc]; unfold tdS; rw [if_neg h]
theorem td_len_go : ∀ (cs : List (List Int)) (o : List (List Int)), (cs.foldl tdS o).length ≤ o.length + cs.length
  | [], o => by simp
  | c :: cs, o => by
    have h := td_len_go cs (tdS o c)
    have h2 : (tdS o c).length ≤ o.length + 1 := by unfold tdS; split <;> simp
    simp only [List.foldl_cons, List.length_cons]
    omega
theorem td_len (cs : List (List Int)) : (td cs).length ≤ cs.length := by have := td_len_go cs []; simpa [td] using this
theorem td_mem_go : ∀ (cs : List (List Int)) (o : List (List Int)) (S : List Int), S ∈ cs.foldl tdS o → S ∈ o ∨ ∃ c ∈ cs, S = setL c
  | [], o, S, h => Or.inl h
  | c :: cs, o, S, h => by
    rcases td_mem_go cs (tdS o c) S h with h1 | ⟨d, hd, e⟩
    · unfold tdS at h1
      split at h1
      · exact Or.inl h1
      · rcases List.mem_append.1 h1 with h2 | h2
        · exact Or.inl h2
        · exact Or.inr ⟨c, List.mem_cons_self, by simpa using h2⟩
    · exact Or.inr ⟨d, List.mem_cons_of_mem _ hd, e⟩
theorem td_mem {cs : List (List Int)} {S : List Int} (h : S ∈ td cs) : ∃ c ∈ cs, S = setL c := by
  rcases td_mem_go cs [] S h with h1 | h1
  · simp at h1
  · exact h1
theorem td_sum_go : ∀ (cs : List (List Int)) (o : List (List Int)), ((cs.foldl tdS o).map List.length).sum ≤ (o.map List.length).sum + (cs.map List.length).sum
  | [], o => by simp
  | c :: cs, o => by
    have h := td_sum_go cs (tdS o c)
    have h2 : ((tdS o c).map List.length).sum ≤ (o.map List.length).sum + c.length := by
      unfold tdS
      split
      · omega
      · have := setL_len c
        simp
        omega
    simp only [List.foldl_cons, List.map_cons, List.sum_cons]
    omega
theorem td_sum (cs : List (List Int)) : ((td cs).map List.length).sum ≤ (cs.map List.length).sum := by have := td_sum_go cs []; simpa [td] using this
theorem sum_take (cs : List (List Int)) (k : Nat) : ((cs.take k).map List.length).sum ≤ (cs.map List.length).sum := by
  have : (cs.map List.length).sum = ((cs.take k).map List.length).sum + ((cs.drop k).map List.length).sum := by
    rw [← List.sum_append, ← List.map_append, List.take_append_drop]
  omega
def tdC (vars : Int) (cs : List (List Int)) : List (List Int) := if (ck vars cs).2 = 0 then td cs else []
def tdV (vars : Int) (cs : List (List Int)) : Int := if (ck vars cs).2 = 0 then vars else 0
end Go.Cn
namespace Go.Cn
theorem setL_idem (xs : List Int) : setL (setL xs) = setL xs := setL_self (setC_setL xs)
/-- what a tidy list is like -/
def Tdy (T : List (List Int)) : Prop := T.Nodup ∧ ∀ S ∈ T, setL S = S ∧ two S = false
theorem tdy_step {o : List (List Int)} (h : Tdy o) (c : List Int) : Tdy (tdS o c) := by
  unfold tdS
  split
  · exact h
  · next hn =>
    have h1 : two (setL c) = false := by
      cases e : two (setL c)
      · rfl
      · exact absurd (Or.inl e) hn
    have h2 : setL c ∉ o := fun hm => hn (Or.inr hm)
    refine ⟨?_, fun S hS => ?_⟩
    · rw [List.nodup_append]
      refine ⟨h.1, by simp, fun a ha b hb => ?_⟩
      simp at hb
      subst hb
      exact fun e => h2 (e ▸ ha)
    · rcases List.mem_append.1 hS with hS | hS
      · exact h.2 S hS
      · simp at hS
        subst hS
        exact ⟨setL_idem c, h1⟩
theorem tdy_go : ∀ (cs : List (List Int)) (o : List (List Int)), Tdy o → Tdy (cs.foldl tdS o)
  | [], _, h => h
  | c :: cs, _, h => tdy_go cs _ (tdy_step h c)
theorem tdy_td (cs : List (List Int)) : Tdy (td cs) := tdy_go cs [] ⟨List.nodup_nil, fun S hS => absurd hS (by simp)⟩
theorem td_id_go : ∀ (T o : List (List Int)), (o ++ T).Nodup → (∀ S ∈ T, setL S = S ∧ two S = false) → T.foldl tdS o = o ++ T
  | [], o, _, _ => by simp
  | S :: T, o, hn, h => by
    have hS := h S List.mem_cons_self
    have hne : S ∉ o := by
      rw [List.nodup_append] at hn
      exact fun hm => hn.2.2 S hm S List.mem_cons_self rfl
    have e : tdS o S = o ++ [S] := by
      unfold tdS
      rw [hS.1, if_neg]
      rintro (h1 | h1)
      · rw [hS.2] at h1; cases h1
      · exact hne h1
    rw [List.foldl_cons, e, td_id_go T (o ++ [S]) (by rw [List.append_assoc]; exact hn) (fun X hX => h X (List.mem_cons_of_mem _ hX)), List.append_assoc]
    rfl
/-- Tidy of a Tidy is it -/
theorem td_td (cs : List (List Int)) : td (td cs) = td cs := by
  have h := tdy_td cs
  have := td_id_go (td cs) [] (by simpa using h.1) h.2
  simpa [td] using this
/-- every clause that is not twofold has its set clause there -/
theorem td_has_go : ∀ (cs : List (List Int)) (o : List (List Int)) (S : List Int), (S ∈ o ∨ ∃ c ∈ cs, S = setL c ∧ two S = false) → S ∈ cs.foldl tdS o
  | [], o, S, h => by
    rcases h with h | ⟨c, hc, _⟩
    · exact h
    · simp at hc
  | c :: cs, o, S, h => by
    refine td_has_go cs (tdS o c) S ?_
    rcases h with h | ⟨d, hd, e, h2⟩
    · left
      unfold tdS
      split
      · exact h
      · exact List.mem_append_left _ h
    · rcases List.mem_cons.1 hd with e2 | e2
      · subst e2
        left
        unfold tdS
        split
        · next h3 =>
          rcases h3 with h3 | h3
          · rw [← e, h2] at h3; cases h3
          · rw [e]; exact h3
        · rw [e]; simp
      · exact Or.inr ⟨d, e2, e, h2⟩
theorem td_has {cs : List (List Int)} {c : List Int} (hc : c ∈ cs) (h : two (setL c) = false) : setL c ∈ td cs := td_has_go cs [] _ (Or.inr ⟨c, hc, rfl, h⟩)
/-- the value of clauses -/
theorem uGo_val (ms : List Int) : ∀ (cs : List (List Int)) (i : Nat) (v : Int) (p : Nat), (uGo ms cs i v p).1 = cs.foldl (fun a c => if val ms c < a then val ms c else a) v
  | [], _, _, _ => rfl
  | c :: cs, i, v, p => by
    unfold uGo
    rw [List.foldl_cons]
    split
    · exact uGo_val ms cs _ _ _
    · exact uGo_val ms cs _ _ _
theorem fold_low (ms : List Int) : ∀ (cs : List (List Int)) (v : Int), (∀ k, k ≤ v → ((cs.foldl (fun a c => if val ms c < a then val ms c else a) v) ≥ k ↔ ∀ c ∈ cs, k ≤ val ms c))
  | [], v, k, hk => by simp; exact hk
  | c :: cs, v, k, hk => by
    rw [List.foldl_cons]
    by_cases h : val ms c < v
    · rw [if_pos h]
      by_cases h2 : k ≤ val ms c
      · rw [fold_low ms cs (val ms c) k h2]
        constructor
        · intro hh d hd
          rcases List.mem_cons.1 hd with e | e
          · subst e; exact h2
          · exact hh d e
        · intro hh d hd; exact hh d (List.mem_cons_of_mem _ hd)
      · constructor
        · intro hh
          exfalso
          have hle : ∀ (l : List (List Int)) (a : Int), l.foldl (fun a c => if val ms c < a then val ms c else a) a ≤ a := by
            intro l
            induction l with
            | nil => intro a; exact Int.le_refl _
            | cons d l ih =>
              intro a
              rw [List.foldl_cons]
              have := ih (if val ms d < a then val ms d else a)
              split at this <;> rename_i hh2
              · rw [if_pos hh2]; omega
              · rw [if_neg hh2]; omega
          have := hle cs (val ms c)
          omega
        · intro hh
          exact absurd (hh c List.mem_cons_self) h2
    · rw [if_neg h, fold_low ms cs v k hk]
      constructor
      · intro hh d hd
        rcases List.mem_cons.1 hd with e | e
        · subst e; omega
        · exact hh d e
      · intro hh d hd; exact hh d (List.mem_cons_of_mem _ hd)
end Go.Cn
namespace Go.Cn
theorem vGo_is_one (ms : List Int) : ∀ c a, (a = -1 ∨ a = 0 ∨ a = 1) → (vGo ms c a = 1 ↔ a = 1 ∨ ∃ l ∈ c, ofB ms l = 1)
  | [], a, _ => by unfold vGo; simp
  | l :: r, a, h => by
    unfold vGo
    have hl := ofB_three ms l
    rw [vGo_is_one ms r _ (by split <;> assumption)]
    constructor
    · rintro (h1 | ⟨x, hx, hx1⟩)
      · split at h1
        · exact Or.inr ⟨l, List.mem_cons_self, h1⟩
        · exact Or.inl h1
      · exact Or.inr ⟨x, List.mem_cons_of_mem _ hx, hx1⟩
    · rintro (h1 | ⟨x, hx, hx1⟩)
      · left; rw [if_neg (by omega)]; exact h1
      · rcases List.mem_cons.1 hx with e | e
        · subst e
          left
          split
          · exact hx1
          · omega
        · exact Or.inr ⟨x, e, hx1⟩
theorem val_is_one (ms c : List Int) : val ms c = 1 ↔ ∃ l ∈ c, ofB ms l = 1 := by
  unfold val
  rw [vGo_is_one ms c (-1) (Or.inl rfl)]
  constructor
  · rintro (h | h)
    · omega
    · exact h
  · exact Or.inr
theorem of_opp {ms : List Int} {v : Int} (h1 : 1 ≤ v) (h2 : v ≤ 1048576) (h : ofB ms v = 1) : ofB ms (-v) ≠ 1 := by
  have l1 : litB v = true := litB_iff.2 ⟨by omega, by omega, by omega⟩
  have l2 : litB (-v) = true := litB_iff.2 ⟨by omega, by omega, by omega⟩
  have e1 : vr v = v := by unfold vr; rw [if_neg (by omega)]
  have e2 : vr (-v) = v := by unfold vr; rw [if_pos (by omega)]; omega
  unfold ofB at h ⊢
  rw [l1, e1] at h
  rw [l2, e2]
  have f1 : ¬ v < 0 := by omega
  have f2 : -v < 0 := by omega
  simp only [f1, f2, if_true, if_false] at h ⊢
  simp only [Bool.true_eq_false, if_false] at h ⊢
  split
  · omega
  · next h3 =>
    rw [if_neg h3] at h
    split
    · omega
    · next h4 =>
      rw [if_neg h4] at h
      split
      · next h5 => rw [if_pos h5] at h; omega
      · omega
theorem vGo_is_low (ms : List Int) : ∀ c a, (a = -1 ∨ a = 0 ∨ a = 1) → (vGo ms c a = -1 ↔ a = -1 ∧ ∀ l ∈ c, ofB ms l = -1)
  | [], a, _ => by unfold vGo; simp
  | l :: r, a, h => by
    unfold vGo
    have hl := ofB_three ms l
    rw [vGo_is_low ms r _ (by split <;> assumption)]
    constructor
    · rintro ⟨h1, h2⟩
      split at h1
      · omega
      · refine ⟨h1, fun x hx => ?_⟩
        rcases List.mem_cons.1 hx with e | e
        · subst e; omega
        · exact h2 x e
    · rintro ⟨h1, h2⟩
      have := h2 l List.mem_cons_self
      refine ⟨by rw [if_neg (by omega)]; exact h1, fun x hx => h2 x (List.mem_cons_of_mem _ hx)⟩
theorem val_is_low (ms c : List Int) : val ms c = -1 ↔ ∀ l ∈ c, ofB ms l = -1 := by
  unfold val
  rw [vGo_is_low ms c (-1) (Or.inl rfl)]
  simp
theorem val_congr (ms : List Int) {c d : List Int} (h : ∀ x, x ∈ c ↔ x ∈ d) : val ms c = val ms d := by
  have h1 : val ms c = 1 ↔ val ms d = 1 := by
    rw [val_is_one, val_is_one]
    constructor
    · rintro ⟨l, hl, e⟩; exact ⟨l, (h l).1 hl, e⟩
    · rintro ⟨l, hl, e⟩; exact ⟨l, (h l).2 hl, e⟩
  have h2 : val ms c = -1 ↔ val ms d = -1 := by
    rw [val_is_low, val_is_low]
    constructor
    · intro hh l hl; exact hh l ((h l).2 hl)
    · intro hh l hl; exact hh l ((h l).1 hl)
  rcases val_three ms c with e | e | e <;> rcases val_three ms d with f | f | f <;> first | omega | (rw [e, f]) | (exfalso; omega)

/-- an assignment that tells all -/
def Full (vars : Int) (ms : List Int) : Prop := (ms.length : Int) = vars ∧ ∀ x ∈ ms, x = 1 ∨ x = -1
theorem full_of {vars : Int} {ms : List Int} (h : Full vars ms) {l : Int} (hl : amB vars l = true) : ofB ms l = 1 ∨ ofB ms l = -1 := by
  unfold amB at hl
  simp at hl
  have hv : 1 ≤ vr l := by have := litB_iff.1 hl.1; unfold vr; split <;> omega
  unfold ofB
  rw [if_neg (by rw [hl.1]; decide), if_neg (by rw [h.1]; omega)]
  have hm : ms.getD (vr l - 1).toNat 0 ∈ ms := by
    have hlt : (vr l - 1).toNat < ms.length := by have := h.1; omega
    rw [List.getD_eq_getElem?_getD, List.getElem?_eq_getElem hlt]
    exact List.getElem_mem _
  rcases h.2 _ hm with e | e
  · rw [e, if_pos rfl]; split <;> simp
  · rw [e, if_neg (by decide), if_pos rfl]; split <;> simp
theorem ofB_in {ms : List Int} {l : Int} (h1 : litB l = true) (h2 : ¬ (ms.length : Int) < vr l) : ofB ms l = if ms.getD (vr l - 1).toNat 0 = 1 then (if l < 0 then -1 else 1) else if ms.getD (vr l - 1).toNat 0 = -1 then (if l < 0 then 1 else -1) else 0 := by
  unfold ofB
  rw [if_neg (by rw [h1]; decide), if_neg h2]
theorem full_opp {vars : Int} {ms : List Int} (h : Full vars ms) {l : Int} (hl : amB vars l = true) : ofB ms (-l) = -ofB ms l := by
  unfold amB at hl
  simp at hl
  have hb := litB_iff.1 hl.1
  have l2 : litB (-l) = true := litB_iff.2 ⟨by omega, by omega, by omega⟩
  have e2 : vr (-l) = vr l := by unfold vr; split <;> split <;> omega
  have hq : ¬ (ms.length : Int) < vr l := by rw [h.1]; omega
  rw [ofB_in hl.1 hq, ofB_in l2 (by rw [e2]; exact hq), e2]
  generalize ms.getD (vr l - 1).toNat 0 = y
  split <;> split <;> first | omega | (split <;> omega)
theorem full_val {vars : Int} {ms : List Int} (h : Full vars ms) {c : List Int} (hc : ∀ x ∈ c, amB vars x = true) : val ms c = 1 ∨ val ms c = -1 := by
  by_cases h1 : val ms c = 1
  · exact Or.inl h1
  · right
    rw [val_is_low]
    intro l hl
    rcases full_of h (hc l hl) with e | e
    · exact absurd ((val_is_one ms c).2 ⟨l, hl, e⟩) h1
    · exact e
theorem full_two {vars : Int} {ms : List Int} (h : Full vars ms) {c : List Int} (hc : ∀ x ∈ c, amB vars x = true) (h2 : two (setL c) = true) : val ms c = 1 := by
  unfold two at h2
  rw [List.any_eq_true] at h2
  obtain ⟨x, hx, hn⟩ := h2
  simp at hn
  rw [mem_setL] at hx hn
  rw [val_is_one]
  rcases full_of h (hc x hx) with e | e
  · exact ⟨x, hx, e⟩
  · exact ⟨-x, hn, by rw [full_opp h (hc x hx), e]; rfl⟩
/-- the value of a formula -/
def fVal (ms : List Int) (cs : List (List Int)) : Int := cs.foldl (fun a c => if val ms c < a then val ms c else a) 1
theorem fold_le (ms : List Int) : ∀ (l : List (List Int)) (a : Int), l.foldl (fun a c => if val ms c < a then val ms c else a) a ≤ a
  | [], a => Int.le_refl _
  | d :: l, a => by
    rw [List.foldl_cons]
    have := fold_le ms l (if val ms d < a then val ms d else a)
    split at this <;> rename_i hh2
    · rw [if_pos hh2]; omega
    · rw [if_neg hh2]; omega
theorem fVal_ge (ms : List Int) (cs : List (List Int)) (k : Int) (hk : k ≤ 1) : k ≤ fVal ms cs ↔ ∀ c ∈ cs, k ≤ val ms c := fold_low ms cs 1 k hk
theorem fVal_range (ms : List Int) (cs : List (List Int)) : -1 ≤ fVal ms cs ∧ fVal ms cs ≤ 1 :=
  ⟨(fVal_ge ms cs (-1) (by omega)).2 fun c _ => by rcases val_three ms c with e | e | e <;> omega, fold_le ms cs 1⟩
theorem fVal_one (ms : List Int) (cs : List (List Int)) : fVal ms cs = 1 ↔ ∀ c ∈ cs, val ms c = 1 := by
  have hr := fVal_range ms cs
  have hg := fVal_ge ms cs 1 (by omega)
  constructor
  · intro h c hc
    have := hg.1 (by omega) c hc
    rcases val_three ms c with e | e | e <;> omega
  · intro h
    have := hg.2 (fun c hc => by have := h c hc; omega)
    omega
theorem full_fVal {vars : Int} {ms : List Int} (h : Full vars ms) {cs : List (List Int)} (hc : ∀ c ∈ cs, ∀ x ∈ c, amB vars x = true) : fVal ms cs = 1 ∨ fVal ms cs = -1 := by
  have hr := fVal_range ms cs
  have h0 := fVal_ge ms cs 0 (by omega)
  have h1 := fVal_one ms cs
  by_cases hh : fVal ms cs = 1
  · exact Or.inl hh
  · right
    by_cases h2 : 0 ≤ fVal ms cs
    · refine absurd (h1.2 fun c hcc => ?_) hh
      have := h0.1 h2 c hcc
      rcases full_val h (hc c hcc) with e | e <;> omega
    · omega
theorem un_val {vars : Int} {cs : List (List Int)} {ms : List Int} (h : (ck vars cs).2 = 0) : (un vars cs ms).1 = fVal ms cs ∧ (un vars cs ms).2.2 = 0 := by
  unfold un
  rw [if_pos h]
  exact ⟨uGo_val ms cs 0 1 cs.length, rfl⟩
/-- under an assignment of all variables a formula and its tidy one are alike -/
theorem full_td {vars : Int} {ms : List Int} (h : Full vars ms) {cs : List (List Int)} (hc : ∀ c ∈ cs, ∀ x ∈ c, amB vars x = true) : fVal ms (td cs) = fVal ms cs := by
  have hd : ∀ c ∈ td cs, ∀ x ∈ c, amB vars x = true := by
    intro c hcc x hx
    obtain ⟨d, hd, e⟩ := td_mem hcc
    rw [e, mem_setL] at hx
    exact hc d hd x hx
  have he : fVal ms (td cs) = 1 ↔ fVal ms cs = 1 := by
    rw [fVal_one, fVal_one]
    constructor
    · intro hh c hcc
      by_cases h2 : two (setL c) = true
      · exact full_two h (hc c hcc) h2
      · have := hh _ (td_has hcc (by simpa using h2))
        rw [← this]
        exact val_congr ms fun x => (mem_setL x c).symm
    · intro hh S hS
      obtain ⟨d, hd2, e⟩ := td_mem hS
      rw [e, ← hh d hd2]
      exact val_congr ms fun x => mem_setL x d
  rcases full_fVal h hc with e1 | e1 <;> rcases full_fVal h hd with e2 | e2 <;> omega
/-- what a tidy list has is fit for a formula -/
theorem td_am {vars : Int} {cs : List (List Int)} (hc : ∀ c ∈ cs, c.length ≤ 65536 ∧ ∀ x ∈ c, amB vars x = true) : ∀ c ∈ td cs, c.length ≤ 65536 ∧ ∀ x ∈ c, amB vars x = true := by
  intro c hcc
  obtain ⟨d, hd, e⟩ := td_mem hcc
  subst e
  exact ⟨Nat.le_trans (setL_len d) (hc d hd).1, fun x hx => (hc d hd).2 x ((mem_setL x d).1 hx)⟩
theorem ckGo_mk (vars : Int) : ∀ (cs : List (List Int)) (i n : Nat), (∀ c ∈ cs, c.length ≤ 65536 ∧ ∀ x ∈ c, amB vars x = true) → n + (cs.map List.length).sum ≤ 4194304 → ckGo vars cs i n = (0, 0)
  | [], _, _, _, _ => rfl
  | c :: cs, i, n, h, hs => by
    have hc := h c List.mem_cons_self
    simp only [List.map_cons, List.sum_cons] at hs
    unfold ckGo
    rw [if_neg (by omega), if_neg (by rw [List.all_eq_true.2 hc.2]; decide), if_neg (by omega)]
    exact ckGo_mk vars cs (i + 1) (n + c.length) (fun d hd => h d (List.mem_cons_of_mem _ hd)) (by omega)
theorem ck_mk {vars : Int} {cs : List (List Int)} (h0 : 0 ≤ vars) (h1 : vars ≤ 1048576) (h2 : cs.length ≤ 1048576) (h3 : ∀ c ∈ cs, c.length ≤ 65536 ∧ ∀ x ∈ c, amB vars x = true) (h4 : (cs.map List.length).sum ≤ 4194304) : ck vars cs = (0, 0) := by
  unfold ck
  rw [if_neg (by omega), if_neg (by omega)]
  exact ckGo_mk vars cs 0 0 h3 (by omega)
theorem ck_td {vars : Int} {cs : List (List Int)} (h : (ck vars cs).2 = 0) : (ck vars (td cs)).2 = 0 := by
  have hz := ck_zero h
  rw [ck_mk hz.1 hz.2.1 (Nat.le_trans (td_len cs) hz.2.2.1) (td_am hz.2.2.2.1) (Nat.le_trans (td_sum cs) hz.2.2.2.2)]
end Go.Cn
