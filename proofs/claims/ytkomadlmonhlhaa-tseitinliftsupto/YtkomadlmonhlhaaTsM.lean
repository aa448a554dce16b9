import Derived.Test.YtkomadlmonhlhaaAgQc
namespace Go.Proofs.Ytkomadlmonhlhaa
open Go.ChangeShapes Go.WideShapes Go.ChangeAt Go.RowKit Go.Lib Go.Ag Go.WideMaps Go.Maps Go.ChangeMaps Go.Cn

theorem nodK_gate {ns : Nds} {n a b : Nat} (hk : nodK ns n = (2, (a, b))) : 0 < n ∧ n ≤ ns.length ∧ ns[n - 1]? = some (some (a, b)) := by
  unfold nodK at hk
  split at hk
  · cases hk
  · rename_i hn
    split at hk
    · cases hk
    · rename_i g hg
      cases hk
      have hlt : n - 1 < ns.length := by
        by_cases e : n - 1 < ns.length
        · exact e
        · rw [List.getD_eq_getElem?_getD, List.getElem?_eq_none (by omega)] at hg
          cases hg
      rw [List.getD_eq_getElem?_getD, List.getElem?_eq_getElem hlt] at hg
      exact ⟨by omega, by omega, by rw [List.getElem?_eq_getElem hlt]; exact congrArg some hg⟩
theorem gs_two {ns : Nds} (h : GS ns) {n a b : Nat} (hk : nodK ns n = (2, (a, b))) : 2 ≤ a ∧ 2 ≤ b := by
  have h5 := h.ops (n - 1) (a, b) (nodK_gate hk).2.2
  exact ⟨h5.2.2.1, h5.2.2.2.1⟩
/-- a cone so far: which nodes are there, each once, its operands ahead of it -/
structure CI (ns : Nds) (s : (Nat → Bool) × List Nat) : Prop where
  zero : s.1 0 = true
  mem : ∀ n, n ∈ s.2 ↔ (s.1 n = true ∧ n ≠ 0)
  nd : s.2.Nodup
  ops : ∀ i n a b, s.2[i]? = some n → nodK ns n = (2, (a, b)) → a / 2 ∈ s.2.take i ∧ b / 2 ∈ s.2.take i
  bd : ∀ n ∈ s.2, n ≤ ns.length
theorem CI.add {ns : Nds} (hg : GS ns) {s : (Nat → Bool) × List Nat} (h : CI ns s) {n : Nat} (hn : n ≤ ns.length) (hm : s.1 n = false) (hop : ∀ a b, nodK ns n = (2, (a, b)) → s.1 (a / 2) = true ∧ s.1 (b / 2) = true) : CI ns (updB s.1 n, s.2 ++ [n]) := by
  have h0 : n ≠ 0 := fun e => by rw [e, h.zero] at hm; cases hm
  have hni : n ∉ s.2 := fun e => by rw [((h.mem n).1 e).1] at hm; cases hm
  refine ⟨?_, ?_, ?_, ?_, ?_⟩
  · show updB s.1 n 0 = true
    rw [updB_ne _ (Ne.symm h0)]; exact h.zero
  · intro m
    show m ∈ s.2 ++ [n] ↔ updB s.1 n m = true ∧ m ≠ 0
    rw [List.mem_append, List.mem_singleton, h.mem]
    by_cases e : m = n
    · subst e
      rw [updB_self]
      exact ⟨fun _ => ⟨rfl, h0⟩, fun _ => Or.inr rfl⟩
    · rw [updB_ne _ e]
      exact ⟨fun h5 => h5.elim id (fun h6 => absurd h6 e), fun h5 => Or.inl h5⟩
  · show (s.2 ++ [n]).Nodup
    rw [List.nodup_append]
    refine ⟨h.nd, by simp, fun a ha b hb => ?_⟩
    rw [List.mem_singleton] at hb
    subst hb
    exact fun e => hni (e ▸ ha)
  · intro i m a b hi hk
    show a / 2 ∈ (s.2 ++ [n]).take i ∧ b / 2 ∈ (s.2 ++ [n]).take i
    rcases at_snoc hi with h1 | ⟨h1, h2⟩
    · have hlt := (List.getElem?_eq_some_iff.1 h1).1
      rw [List.take_append_of_le_length (by omega)]
      exact h.ops i m a b h1 hk
    · subst h2
      subst h1
      rw [List.take_left']
      · obtain ⟨q1, q2⟩ := hop a b hk
        have h2 := gs_two hg hk
        exact ⟨(h.mem _).2 ⟨q1, by omega⟩, (h.mem _).2 ⟨q2, by omega⟩⟩
      · rfl
  · intro m hm2
    rcases List.mem_append.1 hm2 with h5 | h5
    · exact h.bd m h5
    · rw [List.mem_singleton] at h5; rw [h5]; exact hn
theorem ci_meet {ns : Nds} (hg : GS ns) : ∀ (f n : Nat), n < f → n ≤ ns.length → ∀ s : (Nat → Bool) × List Nat, CI ns s → CI ns (meet ns n s)
  | 0, _, h, _, _, _ => absurd h (Nat.not_lt_zero _)
  | f + 1, n, hf, hn, s, hs => by
    have hw := gs_wf hg
    cases h : s.1 n with
    | true => rw [meet_met h]; exact hs
    | false =>
      by_cases hk : (nodK ns n).1 = 2
      · have e := nodK_two hk
        have hab := hw _ _ _ e
        rw [meet_gate hw h e]
        have h1 := ci_meet hg f ((nodK ns n).2.1 / 2) (by omega) (by omega) s hs
        have h2 := ci_meet hg f ((nodK ns n).2.2 / 2) (by omega) (by omega) _ h1
        have p1 := meet_prop hw _ _ (Nat.lt_succ_self ((nodK ns n).2.1 / 2)) s
        have p2 := meet_prop hw _ _ (Nat.lt_succ_self ((nodK ns n).2.2 / 2)) (meet ns ((nodK ns n).2.1 / 2) s)
        refine h2.add hg hn (by rw [p2.2.2 n hab.2, p1.2.2 n hab.1, h]) (fun a b hk2 => ?_)
        rw [e] at hk2
        cases hk2
        exact ⟨p2.2.1 _ p1.1, p2.1⟩
      · rw [meet_leaf h hk]
        refine hs.add hg hn h (fun a b hk2 => ?_)
        rw [hk2] at hk
        exact absurd rfl hk
theorem ci_cone {ns : Nds} (hg : GS ns) : ∀ (ls : List Nat) (s : (Nat → Bool) × List Nat), (∀ l ∈ ls, l / 2 ≤ ns.length) → CI ns s → CI ns (ls.foldl (fun s l => meet ns (l / 2) s) s) ∧ (∀ i, s.1 i = true → (ls.foldl (fun s l => meet ns (l / 2) s) s).1 i = true) ∧ ∀ l ∈ ls, (ls.foldl (fun s l => meet ns (l / 2) s) s).1 (l / 2) = true
  | [], s, _, hs => ⟨hs, fun _ h => h, fun l hl => (List.not_mem_nil hl).elim⟩
  | l :: ls, s, hl, hs => by
    have h1 := ci_meet hg _ _ (Nat.lt_succ_self (l / 2)) (hl l (by simp)) s hs
    have p1 := meet_prop (gs_wf hg) _ _ (Nat.lt_succ_self (l / 2)) s
    obtain ⟨h2, h3, h4⟩ := ci_cone hg ls (meet ns (l / 2) s) (fun x hx => hl x (by simp [hx])) h1
    refine ⟨h2, fun i hi => h3 i (p1.2.1 i hi), fun x hx => ?_⟩
    rcases List.mem_cons.1 hx with e | e
    · rw [e]; exact h3 _ p1.1
    · exact h4 x e
/-- a cone as clauses want it -/
structure CN (ns : Nds) (cn : List Nat) (ls : List Nat) : Prop where
  nd : cn.Nodup
  ops : ∀ i n a b, cn[i]? = some n → nodK ns n = (2, (a, b)) → a / 2 ∈ cn.take i ∧ b / 2 ∈ cn.take i
  bd : ∀ n ∈ cn, 0 < n ∧ n ≤ ns.length
  rt : ∀ l ∈ ls, 2 ≤ l → l / 2 ∈ cn
theorem cn_cone {ns : Nds} (hg : GS ns) {ls : List Nat} (hl : ∀ l ∈ ls, l / 2 ≤ ns.length) : CN ns (coneS ns ls).2 ls := by
  have hz : ∀ n, met0 n = true → n = 0 := fun n hn => by
    have hn2 : updB (fun _ => false) 0 n = true := hn
    by_cases e : n = 0
    · exact e
    · rw [updB_ne _ e] at hn2; cases hn2
  obtain ⟨h1, h2, h3⟩ := ci_cone hg ls (met0, []) hl ⟨rfl, fun n => ⟨fun h => (List.not_mem_nil h).elim, fun h => absurd (hz n h.1) h.2⟩, List.nodup_nil, fun i n a b h => by simp at h, fun n h => (List.not_mem_nil h).elim⟩
  refine ⟨h1.nd, h1.ops, fun n hn => ⟨?_, h1.bd n hn⟩, fun l hm h2l => (h1.mem _).2 ⟨h3 l hm, by omega⟩⟩
  have := ((h1.mem n).1 hn).2
  omega
/-- the variable of a node: its place in the cone, from 1 on; 0: it is not there -/
def vN (cn : List Nat) (n : Nat) : Nat := if n ∈ cn then cn.idxOf n + 1 else 0
theorem vN_le (cn : List Nat) (n : Nat) : vN cn n ≤ cn.length := by
  unfold vN
  split
  · rename_i h
    have := List.idxOf_lt_length_iff.2 h
    omega
  · omega
theorem vN_pos {cn : List Nat} {n : Nat} (h : n ∈ cn) : 0 < vN cn n := by unfold vN; rw [if_pos h]; omega
theorem vN_zero {cn : List Nat} {n : Nat} (h : n ∉ cn) : vN cn n = 0 := by unfold vN; rw [if_neg h]
theorem idx_take {cn : List Nat} {n i : Nat} (h : n ∈ cn.take i) : (cn.take i).idxOf n = cn.idxOf n := by
  conv => rhs; rw [← List.take_append_drop i cn]
  rw [List.idxOf_append, if_pos h]
theorem vN_take {cn : List Nat} {n i : Nat} (h : n ∈ cn.take i) : vN (cn.take i) n = vN cn n := by
  unfold vN
  rw [if_pos h, if_pos (List.mem_of_mem_take h), idx_take h]
theorem take_mono {cn : List Nat} {n i j : Nat} (h : n ∈ cn.take i) (hij : i ≤ j) : n ∈ cn.take j := by
  rw [show i = min i j by omega, ← List.take_take] at h
  exact List.mem_of_mem_take h
theorem vN_at {cn : List Nat} (hd : cn.Nodup) {i n : Nat} (h : cn[i]? = some n) : vN cn n = i + 1 := by
  obtain ⟨hi, e⟩ := List.getElem?_eq_some_iff.1 h
  have hm : n ∈ cn := e ▸ List.getElem_mem hi
  unfold vN
  rw [if_pos hm]
  have h2 := List.idxOf_lt_length_iff.2 hm
  have h3 : cn[cn.idxOf n] = n := List.getElem_idxOf h2
  have h5 := List.pairwise_iff_getElem.1 hd
  rcases Nat.lt_trichotomy (cn.idxOf n) i with h4 | h4 | h4
  · exact absurd (h3.trans e.symm) (h5 _ _ h2 hi h4)
  · omega
  · exact absurd (e.trans h3.symm) (h5 _ _ hi h2 h4)
/-- a literal in the words of clauses -/
def litI (cn : List Nat) (l : Nat) : Int := if l % 2 = 1 then -((vN cn (l / 2) : Nat) : Int) else ((vN cn (l / 2) : Nat) : Int)
theorem litI_take {cn : List Nat} {l i : Nat} (h : l / 2 ∈ cn.take i) : litI (cn.take i) l = litI cn l := by unfold litI; rw [vN_take h]
theorem litI_bd (cn : List Nat) (l : Nat) : -(cn.length : Int) ≤ litI cn l ∧ litI cn l ≤ (cn.length : Int) := by
  have := vN_le cn (l / 2)
  unfold litI
  split <;> omega
theorem litI_ne {cn : List Nat} {l : Nat} (h : l / 2 ∈ cn) : litI cn l ≠ 0 := by
  have := vN_pos h
  unfold litI
  split <;> omega
theorem litI_zero {cn : List Nat} {l : Nat} (h : l / 2 ∉ cn) : litI cn l = 0 := by
  unfold litI
  rw [vN_zero h]
  split <;> rfl
/-- a gate in the words of clauses: its variable, the literals of its operands -/
abbrev GT := Int × Int × Int
def gtAt (ns : Nds) (cn : List Nat) (i : Nat) : List GT := if (nodK ns (cn.getD i 0)).1 = 2 then [((i : Int) + 1, litI cn (nodK ns (cn.getD i 0)).2.1, litI cn (nodK ns (cn.getD i 0)).2.2)] else []
def gts (ns : Nds) (cn : List Nat) (k : Nat) : List GT := (List.range k).flatMap (gtAt ns cn)
theorem gts_succ (ns : Nds) (cn : List Nat) (k : Nat) : gts ns cn (k + 1) = gts ns cn k ++ gtAt ns cn k := by
  unfold gts
  rw [List.range_succ, List.flatMap_append]
  simp
theorem gts_len (ns : Nds) (cn : List Nat) : ∀ k, (gts ns cn k).length ≤ k
  | 0 => Nat.le_refl _
  | k + 1 => by
    have := gts_len ns cn k
    rw [gts_succ, List.length_append]
    unfold gtAt
    split <;> simp <;> omega
/-- what a gate of clauses is -/
structure OKG (m : Nat) (g : GT) : Prop where
  n : 1 ≤ g.1 ∧ g.1 ≤ m
  a : g.2.1 ≠ 0 ∧ -(m : Int) ≤ g.2.1 ∧ g.2.1 ≤ m
  b : g.2.2 ≠ 0 ∧ -(m : Int) ≤ g.2.2 ∧ g.2.2 ≤ m
theorem gts_mem {ns : Nds} {cn ls : List Nat} (hc : CN ns cn ls) {g : GT} : ∀ k, k ≤ cn.length → g ∈ gts ns cn k → ∃ i n a b, i < k ∧ cn[i]? = some n ∧ nodK ns n = (2, (a, b)) ∧ g = ((i : Int) + 1, litI cn a, litI cn b)
  | 0, _, h => by simp [gts] at h
  | k + 1, hk, h => by
    rw [gts_succ] at h
    rcases List.mem_append.1 h with h | h
    · obtain ⟨i, n, a, b, h1, h2⟩ := gts_mem hc k (by omega) h
      exact ⟨i, n, a, b, by omega, h2⟩
    · unfold gtAt at h
      split at h
      · rename_i h2
        rw [List.mem_singleton] at h
        have e := nodK_two h2
        refine ⟨k, cn.getD k 0, _, _, by omega, ?_, e, h⟩
        rw [List.getD_eq_getElem?_getD, List.getElem?_eq_getElem (by omega)]
        rfl
      · exact (List.not_mem_nil h).elim
theorem gts_ok {ns : Nds} {cn ls : List Nat} (hc : CN ns cn ls) {g : GT} (k : Nat) (hk : k ≤ cn.length) (h : g ∈ gts ns cn k) : OKG cn.length g := by
  obtain ⟨i, n, a, b, h1, h2, h3, rfl⟩ := gts_mem hc k hk h
  have h4 := hc.ops i n a b h2 h3
  exact ⟨⟨by show (1 : Int) ≤ (i : Int) + 1; omega, by show (i : Int) + 1 ≤ _; omega⟩, ⟨litI_ne (List.mem_of_mem_take h4.1), litI_bd _ _⟩, ⟨litI_ne (List.mem_of_mem_take h4.2), litI_bd _ _⟩⟩
/-- where the mark of a literal stands -/
def plc (l : Int) : Nat := if l < 0 then (-2 * l - 1).toNat else (2 * l - 2).toNat
theorem plc_inj {l x : Int} (hl : l ≠ 0) (hx : x ≠ 0) (h : plc l = plc x) : l = x := by
  unfold plc at h
  split at h <;> split at h <;> omega
theorem plc_lt {l : Int} {m : Nat} (hl : l ≠ 0) (h1 : -(m : Int) ≤ l) (h2 : l ≤ m) : plc l < 2 * m := by
  unfold plc
  split <;> omega
def hasM (f : Nat → Nat) (l : Int) : Bool := (f (plc l / 64)).testBit (plc l % 64)
def addM (f : Nat → Nat) (l : Int) : Nat → Nat := updN f (plc l / 64) (f (plc l / 64) ||| 2 ^ (plc l % 64))
theorem hasM_add (f : Nat → Nat) {l x : Int} (hl : l ≠ 0) (hx : x ≠ 0) : hasM (addM f l) x = (hasM f x || decide (x = l)) := by
  unfold hasM addM updN
  by_cases e : x = l
  · subst e
    rw [if_pos rfl, Nat.testBit_or, Nat.testBit_two_pow_self]
    simp
  · rw [decide_eq_false e, Bool.or_false]
    have hp : plc x ≠ plc l := fun h => e (plc_inj hx hl h)
    by_cases e2 : plc x / 64 = plc l / 64
    · rw [if_pos e2, Nat.testBit_or, Nat.testBit_two_pow_of_ne (by omega), Bool.or_false, e2]
    · rw [if_neg e2]
theorem addM_lt {f : Nat → Nat} (hf : ∀ i, f i < 18446744073709551616) (l : Int) : ∀ i, addM f l i < 18446744073709551616 := fun i => by
  unfold addM updN
  split
  · exact Nat.or_lt_two_pow (n := 64) (hf _) (Nat.pow_lt_pow_right (by decide) (Nat.mod_lt _ (by decide)))
  · exact hf i
/-- what is wanted -/
def wRoot (cn : List Nat) (f : Nat → Nat) (l : Nat) : Nat → Nat := if litI cn l = 0 then f else addM f (litI cn l)
def wOne (f : Nat → Nat) (g : GT) : Nat → Nat := if hasM f g.1 = true then addM (addM f g.2.1) g.2.2 else f
def wTwo (f : Nat → Nat) (g : GT) : Nat → Nat := if hasM f (-g.1) = true then addM (addM f (-g.2.1)) (-g.2.2) else f
def wGate (f : Nat → Nat) (g : GT) : Nat → Nat := wTwo (wOne f g) g
def wantM (cn ls : List Nat) (gs : List GT) : Nat → Nat := gs.reverse.foldl wGate (ls.foldl (wRoot cn) (fun _ => 0))
def allM (_ : Nat) : Nat := 18446744073709551615
theorem allM_has (l : Int) : hasM allM l = true := by
  unfold hasM allM
  have h : ∀ i, i < 64 → Nat.testBit 18446744073709551615 i = true := fun i hi => by
    have := Nat.testBit_two_pow_sub_one 64 i
    rw [decide_eq_true hi] at this
    exact this
  exact h _ (Nat.mod_lt _ (by decide))
/-- the clauses -/
def clG (f : Nat → Nat) (g : GT) : List (List Int) := (if hasM f g.1 = true then [[-g.1, g.2.1], [-g.1, g.2.2]] else []) ++ (if hasM f (-g.1) = true then [[g.1, -g.2.1, -g.2.2]] else [])
def clR (cn : List Nat) (l : Nat) : List (List Int) := if l = 0 then [[]] else if l = 1 then [] else [[litI cn l]]
def clsN (f : Nat → Nat) (cn ls : List Nat) (gs : List GT) : List (List Int) := gs.flatMap (clG f) ++ ls.flatMap (clR cn)
theorem clG_len (f : Nat → Nat) (g : GT) : (clG f g).length = (if hasM f g.1 = true then 2 else 0) + (if hasM f (-g.1) = true then 1 else 0) := by
  unfold clG
  rw [List.length_append]
  split <;> split <;> rfl
theorem clR_len (cn : List Nat) (l : Nat) : (clR cn l).length = if l = 1 then 0 else 1 := by
  unfold clR
  by_cases e : l = 0
  · subst e; rfl
  · rw [if_neg e]; split <;> rfl
end Go.Proofs.Ytkomadlmonhlhaa
