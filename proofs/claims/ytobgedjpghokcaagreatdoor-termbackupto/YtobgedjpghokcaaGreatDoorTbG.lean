import Derived.Test.YtobgedjpghokcaaGreatDoorTlB
import Derived.Lib.ItoaMem
namespace Go.Proofs.YtobgedjpghokcaaGreatDoor
open Go.Lib Go.Tm Go.Bw Go.Bn Go.Bd

/-- each node was made of those ahead of it, and stands for the first time -/
def GoodL (L : List Nd) : Prop := ∀ i, i < L.length → rfE (L.take i) (L.getD i z0) = 0 ∧ pos (L.getD i z0) (L.take i) = none
theorem good_nil : GoodL [] := fun i hi => by simp at hi
theorem good_snoc {L : List Nd} {n : Nd} (h : GoodL L) (h1 : rfE L n = 0) (h2 : pos n L = none) : GoodL (L ++ [n]) := fun i hi => by
  rw [List.length_append, List.length_singleton] at hi
  by_cases hlt : i < L.length
  · have h3 := h i hlt
    rw [List.take_append_of_le_length (by omega), List.getD_eq_getElem?_getD, List.getElem?_append_left hlt, ← List.getD_eq_getElem?_getD]
    exact h3
  · obtain rfl : i = L.length := by omega
    rw [List.take_left', List.getD_eq_getElem?_getD, List.getElem?_append_right (Nat.le_refl _)]
    · simp
      exact ⟨h1, h2⟩
    · rfl
theorem good_mk {lim : Int} {L : List Nd} {n : Nd} (h : GoodL L) : GoodL (mk lim L n).1 := by
  unfold mk
  split
  · exact h
  · rename_i h1
    split
    · exact h
    · rename_i hp
      split
      · exact h
      · exact good_snoc h (by omega) hp
end Go.Proofs.YtobgedjpghokcaaGreatDoor
namespace Go.Proofs.YtobgedjpghokcaaGreatDoor
open Go.Lib Go.Tm Go.Bw Go.Bn Go.Bd

/-- a node with its parts numbered anew -/
def ren (f : Int → Int) (n : Nd) : Nd := ⟨n.op, n.w, f n.a, f n.b, f n.c, n.num, n.name⟩
theorem rfE_zero {L : List Nd} {n : Nd} (h : rfE L n = 0) : (1 ≤ n.op ∧ n.op ≤ 33) ∧ (0 ≤ n.w ∧ n.w ≤ 64) ∧ hp L n = true ∧ br n = true ∧ sf n.op (wd L n.a) (wd L n.b) (wd L n.c) = true ∧ wf n.op n.w n.num (wd L n.a) (wd L n.b) = true ∧ (n.op = 4 → nf L n = true) := by
  unfold rfE at h
  by_cases h1 : n.op < 1 ∨ 33 < n.op
  · rw [if_pos h1] at h; omega
  rw [if_neg h1] at h
  by_cases h2 : n.w < 0 ∨ 64 < n.w
  · rw [if_pos h2] at h; omega
  rw [if_neg h2] at h
  cases h3 : hp L n with
  | false => rw [if_pos h3] at h; omega
  | true =>
    rw [if_neg (by rw [h3]; simp)] at h
    cases h4 : br n with
    | false => rw [if_pos h4] at h; omega
    | true =>
      rw [if_neg (by rw [h4]; simp)] at h
      cases h5 : sf n.op (wd L n.a) (wd L n.b) (wd L n.c) with
      | false => rw [if_pos h5] at h; omega
      | true =>
        rw [if_neg (by rw [h5]; simp)] at h
        cases h6 : wf n.op n.w n.num (wd L n.a) (wd L n.b) with
        | false => rw [if_pos h6] at h; omega
        | true =>
          rw [if_neg (by rw [h6]; simp)] at h
          refine ⟨by omega, by omega, rfl, rfl, rfl, rfl, fun h7 => ?_⟩
          cases h8 : nf L n with
          | true => rfl
          | false => rw [if_pos ⟨h7, h8⟩] at h; omega
theorem rfE_made {L : List Nd} {n : Nd} (h1 : 1 ≤ n.op ∧ n.op ≤ 33) (h2 : 0 ≤ n.w ∧ n.w ≤ 64) (h3 : hp L n = true) (h4 : br n = true) (h5 : sf n.op (wd L n.a) (wd L n.b) (wd L n.c) = true) (h6 : wf n.op n.w n.num (wd L n.a) (wd L n.b) = true) (h7 : n.op = 4 → nf L n = true) : rfE L n = 0 := by
  unfold rfE
  rw [if_neg (by omega), if_neg (by omega), if_neg (by simp [h3]), if_neg (by simp [h4]), if_neg (by simp [h5]), if_neg (by simp [h6]), if_neg (fun h => by rw [h7 h.1] at h; simp at h)]
theorem ren_rfE {L K : List Nd} {n : Nd} {f : Int → Int} (h : rfE L n = 0) (h0 : f 0 = 0) (hw : ∀ p, p = n.a ∨ p = n.b ∨ p = n.c → wd K (f p) = wd L p ∧ (isT L p = true → isT K (f p) = true)) (hn : n.op = 4 → ∀ u, vw n.name K = some u → u = n.w) : rfE K (ren f n) = 0 := by
  obtain ⟨h1, h2, h3, h4, h5, h6, h7⟩ := rfE_zero h
  have wa := hw n.a (Or.inl rfl)
  have wb := hw n.b (Or.inr (Or.inl rfl))
  have wc := hw n.c (Or.inr (Or.inr rfl))
  refine rfE_made h1 h2 ?_ ?_ ?_ ?_ (fun h8 => ?_)
  · unfold hp at h3 ⊢
    simp only [Bool.and_eq_true, Bool.or_eq_true] at h3 ⊢
    exact ⟨h3.1.imp id wa.2, h3.2.1.imp id wb.2, h3.2.2.imp id wc.2⟩
  · unfold br at h4 ⊢
    simp only [Bool.and_eq_true, Bool.or_eq_true, decide_eq_true_eq] at h4 ⊢
    refine ⟨h4.1.imp id (fun e => ?_), h4.2.1.imp id (fun e => ?_), h4.2.2.1.imp id (fun e => ?_), h4.2.2.2⟩
    · show f n.a = 0; rw [e]; exact h0
    · show f n.b = 0; rw [e]; exact h0
    · show f n.c = 0; rw [e]; exact h0
  · show sf n.op (wd K (f n.a)) (wd K (f n.b)) (wd K (f n.c)) = true
    rw [wa.1, wb.1, wc.1]
    exact h5
  · show wf n.op n.w n.num (wd K (f n.a)) (wd K (f n.b)) = true
    rw [wa.1, wb.1]
    exact h6
  · have h9 := h7 h8
    unfold nf at h9 ⊢
    rw [Bool.and_eq_true] at h9 ⊢
    refine ⟨h9.1, ?_⟩
    show (match vw n.name K with | none => true | some u => decide (u = n.w)) = true
    cases e : vw n.name K with
    | none => rfl
    | some u => exact decide_eq_true (hn h8 u e)
/-- a node that stands for the first time is added -/
theorem mk_new {L : List Nd} {n : Nd} {lim : Int} (h1 : rfE L n = 0) (h2 : pos n L = none) (h3 : ¬ (0 < lim ∧ lim ≤ (L.length : Int))) : mk lim L n = (L ++ [n], (L.length : Int) + 1, 0) := by
  unfold mk
  rw [if_neg (by omega), h2]
  exact if_neg h3
theorem mk_full {L : List Nd} {n : Nd} {lim : Int} (h1 : rfE L n = 0) (h2 : pos n L = none) (h3 : 0 < lim ∧ lim ≤ (L.length : Int)) : mk lim L n = (L, 0, 4) := by
  unfold mk
  rw [if_neg (by omega), h2]
  exact if_pos h3
end Go.Proofs.YtobgedjpghokcaaGreatDoor
namespace Go.Proofs.YtobgedjpghokcaaGreatDoor
open Go.Lib Go.Tm Go.Bw Go.Bn Go.Bd

/-- the place of a number among the first ones of a row -/
def pfO (O : List Nat) : Nat → Int → Option Int
  | 0 => fun _ => none
  | i + 1 => fun y => if y = ((O.getD i 0 : Nat) : Int) then some ((i : Int) + 1) else pfO O i y
def plO (O : List Nat) (i : Nat) (x : Int) : Int := (pfO O i x).getD 0
/-- an order: terms, each but once, behind its parts -/
structure ORD (L : List Nd) (O : List Nat) : Prop where
  rng : ∀ j, j < O.length → 1 ≤ O.getD j 0 ∧ O.getD j 0 ≤ L.length
  nod : ∀ i j, i < O.length → j < O.length → O.getD i 0 = O.getD j 0 → i = j
  par : ∀ i, i < O.length → ∀ p, (p = (L.getD (O.getD i 0 - 1) z0).a ∨ p = (L.getD (O.getD i 0 - 1) z0).b ∨ p = (L.getD (O.getD i 0 - 1) z0).c) → p = 0 ∨ ∃ j, j < i ∧ p = ((O.getD j 0 : Nat) : Int)
section
variable {L : List Nd} {O : List Nat}
theorem plO_at (h : ORD L O) : ∀ (i j : Nat), j < i → i ≤ O.length → plO O i ((O.getD j 0 : Nat) : Int) = (j : Int) + 1
  | 0, j, h1, _ => by omega
  | i + 1, j, h1, h2 => by
    unfold plO pfO
    by_cases e : j = i
    · subst e
      rw [if_pos rfl]
      rfl
    · rw [if_neg (fun e2 => e (h.nod j i (by omega) (by omega) (by omega)))]
      exact plO_at h i j (by omega) (by omega)
theorem plO_zero (h : ORD L O) : ∀ i : Nat, i ≤ O.length → plO O i 0 = 0
  | 0, _ => rfl
  | i + 1, h2 => by
    unfold plO pfO
    rw [if_neg (by have := (h.rng i (by omega)).1; omega)]
    exact plO_zero h i (by omega)
/-- the node of a place, its parts told by their places -/
def kn (L : List Nd) (O : List Nat) (i : Nat) : Nd := ren (plO O (i + 1)) (L.getD (O.getD i 0 - 1) z0)
def KL (L : List Nd) (O : List Nat) : Nat → List Nd
  | 0 => []
  | i + 1 => KL L O i ++ [kn L O i]
theorem KL_len : ∀ i : Nat, (KL L O i).length = i
  | 0 => rfl
  | i + 1 => by rw [KL, List.length_append, KL_len i]; rfl
theorem KL_get : ∀ (i j : Nat), j < i → (KL L O i).getD j z0 = kn L O j
  | 0, j, h => by omega
  | i + 1, j, h => by
    rw [KL, List.getD_eq_getElem?_getD]
    by_cases e : j < i
    · rw [List.getElem?_append_left (by rw [KL_len]; exact e), ← List.getD_eq_getElem?_getD]
      exact KL_get i j e
    · obtain rfl : j = i := by omega
      rw [List.getElem?_append_right (by rw [KL_len]; exact Nat.le_refl _), KL_len]
      simp
theorem wd_at {K : List Nd} {p : Int} (h : isT K p = true) : wd K p = (K.getD (p.toNat - 1) z0).w := by unfold wd; rw [if_pos h]
theorem takeN_getD {K : List Nd} {i j : Nat} (h : j < i) : (K.take i).getD j z0 = K.getD j z0 := by
  rw [List.getD_eq_getElem?_getD, List.getElem?_take, if_pos h, ← List.getD_eq_getElem?_getD]
theorem pos_none {n : Nd} : ∀ {K : List Nd}, (∀ j, j < K.length → K.getD j z0 ≠ n) → Tm.pos n K = none
  | [], _ => rfl
  | x :: r, h => by
    have h0 := h 0 (by simp)
    unfold Tm.pos
    rw [if_neg (by simpa using h0), pos_none (fun j hj => by have := h (j + 1) (by simp; omega); simpa using this)]
    rfl
theorem pos_some {n : Nd} : ∀ {K : List Nd} (j : Nat), j < K.length → K.getD j z0 = n → Tm.pos n K ≠ none
  | [], j, h, _ => by simp at h
  | x :: r, j, h, e => by
    unfold Tm.pos
    by_cases hx : x = n
    · rw [if_pos hx]; simp
    · rw [if_neg hx]
      cases j with
      | zero => exact absurd (by simpa using e) hx
      | succ j =>
        have := pos_some (K := r) j (by simpa using h) (by simpa using e)
        intro h2
        exact this (by simpa using h2)
theorem vw_some {nm : ByteArray} {u : Int} : ∀ {K : List Nd}, vw nm K = some u → ∃ j, j < K.length ∧ (K.getD j z0).op = 4 ∧ (K.getD j z0).name = nm ∧ (K.getD j z0).w = u
  | [], h => by cases h
  | x :: r, h => by
    unfold vw at h
    split at h
    · rename_i hx
      cases h
      exact ⟨0, by simp, hx.1, hx.2, rfl⟩
    · obtain ⟨j, h1, h2⟩ := vw_some h
      exact ⟨j + 1, by simp; omega, by simpa using h2⟩
theorem vw_there {nm : ByteArray} : ∀ {K : List Nd} (j : Nat), j < K.length → (K.getD j z0).op = 4 → (K.getD j z0).name = nm → vw nm K ≠ none
  | [], j, h, _, _ => by simp at h
  | x :: r, j, h, h1, h2 => by
    unfold vw
    split
    · simp
    · rename_i hx
      cases j with
      | zero => exact absurd ⟨by simpa using h1, by simpa using h2⟩ hx
      | succ j => exact vw_there j (by simpa using h) (by simpa using h1) (by simpa using h2)
/-- two variables of one name are of one width -/
theorem good_names (hL : GoodL L) {i j : Nat} (hij : j < i) (hi : i < L.length) (h1 : (L.getD i z0).op = 4) (h2 : (L.getD j z0).op = 4) (h3 : (L.getD j z0).name = (L.getD i z0).name) : (L.getD j z0).w = (L.getD i z0).w := by
  -- the first of the name has the width of each
  have key : ∀ k, k < L.length → (L.getD k z0).op = 4 → ∀ u, vw (L.getD k z0).name (L.take k) = some u → u = (L.getD k z0).w := fun k hk ho u hu => by
    have h7 := (rfE_zero (hL k hk).1).2.2.2.2.2.2 ho
    unfold nf at h7
    rw [Bool.and_eq_true, hu] at h7
    exact of_decide_eq_true h7.2
  have mono : ∀ (K : List Nd) (nm : ByteArray) (a b : Nat) (u : Int), a ≤ b → vw nm (K.take a) = some u → vw nm (K.take b) = some u := by
    intro K nm a b u hab h
    induction K generalizing a b with
    | nil => simp [vw] at h
    | cons x r ih =>
      cases a with
      | zero => simp [vw] at h
      | succ a =>
        cases b with
        | zero => omega
        | succ b =>
          rw [List.take_succ_cons, vw] at h ⊢
          split
          · rename_i hx; rw [if_pos hx] at h; exact h
          · rename_i hx; rw [if_neg hx] at h; exact ih a b (by omega) h
  cases e : vw (L.getD j z0).name (L.take (j + 1)) with
  | none =>
    have := vw_there (nm := (L.getD j z0).name) (K := L.take (j + 1)) j (by rw [List.length_take]; omega) (by rw [takeN_getD (by omega)]; exact h2) (by rw [takeN_getD (by omega)])
    exact absurd e this
  | some u =>
    have hi2 := key i hi h1 u (by rw [← h3]; exact mono L _ (j + 1) i u (by omega) e)
    have hj2 : u = (L.getD j z0).w := by
      cases e2 : vw (L.getD j z0).name (L.take j) with
      | some v =>
        have := mono L _ j (j + 1) v (by omega) e2
        rw [this] at e
        cases e
        exact key j (by omega) h2 _ e2
      | none =>
        have hs : L.take (j + 1) = L.take j ++ [L.getD j z0] := by
          rw [List.take_add_one, List.getD_eq_getElem?_getD, List.getElem?_eq_getElem (by omega)]
          rfl
        rw [hs, vw_snoc, e2, if_pos ⟨h2, rfl⟩] at e
        cases e
        rfl
    omega
end
end Go.Proofs.YtobgedjpghokcaaGreatDoor
namespace Go.Proofs.YtobgedjpghokcaaGreatDoor
open Go.Lib Go.Tm Go.Bw Go.Bn Go.Bd

section
variable {L : List Nd} {O : List Nat}
/-- where a part of a node stands -/
theorem part_at (hO : ORD L O) {i : Nat} (hi : i < O.length) {p : Int} (hp : p = (L.getD (O.getD i 0 - 1) z0).a ∨ p = (L.getD (O.getD i 0 - 1) z0).b ∨ p = (L.getD (O.getD i 0 - 1) z0).c) : (p = 0 ∧ plO O (i + 1) p = 0) ∨ ∃ j, j < i ∧ p = ((O.getD j 0 : Nat) : Int) ∧ plO O (i + 1) p = (j : Int) + 1 := by
  rcases hO.par i hi p hp with e | ⟨j, hj, e⟩
  · left
    rw [e]
    exact ⟨rfl, plO_zero hO (i + 1) (by omega)⟩
  · right
    exact ⟨j, hj, e, by rw [e]; exact plO_at hO (i + 1) j (by omega) (by omega)⟩
theorem part_same (hO : ORD L O) {i j : Nat} (hi : i < O.length) (hj : j < O.length) {p q : Int} (hp : p = (L.getD (O.getD i 0 - 1) z0).a ∨ p = (L.getD (O.getD i 0 - 1) z0).b ∨ p = (L.getD (O.getD i 0 - 1) z0).c) (hq : q = (L.getD (O.getD j 0 - 1) z0).a ∨ q = (L.getD (O.getD j 0 - 1) z0).b ∨ q = (L.getD (O.getD j 0 - 1) z0).c) (h : plO O (i + 1) p = plO O (j + 1) q) : p = q := by
  rcases part_at hO hi hp with ⟨e1, e2⟩ | ⟨a, ha, e1, e2⟩
  · rcases part_at hO hj hq with ⟨e3, e4⟩ | ⟨b, hb, e3, e4⟩
    · rw [e1, e3]
    · rw [e2, e4] at h; omega
  · rcases part_at hO hj hq with ⟨e3, e4⟩ | ⟨b, hb, e3, e4⟩
    · rw [e2, e4] at h; omega
    · rw [e2, e4] at h
      have : a = b := by omega
      subst this
      rw [e1, e3]
theorem isT_part {K : List Nd} {n : Nd} (h : rfE K n = 0) {p : Int} (hp : p = n.a ∨ p = n.b ∨ p = n.c) (h0 : p ≠ 0) : isT K p = true := by
  obtain ⟨_, _, h3, h4, _⟩ := rfE_zero h
  unfold Tm.hp at h3
  unfold br at h4
  simp only [Bool.and_eq_true, Bool.or_eq_true, decide_eq_true_eq] at h3 h4
  rcases hp with e | e | e
  · subst e
    rcases h4.1 with h | h
    · rcases h3.1 with h5 | h5
      · omega
      · exact h5
    · exact absurd h h0
  · subst e
    rcases h4.2.1 with h | h
    · rcases h3.2.1 with h5 | h5
      · omega
      · exact h5
    · exact absurd h h0
  · subst e
    rcases h4.2.2.1 with h | h
    · rcases h3.2.2 with h5 | h5
      · omega
      · exact h5
    · exact absurd h h0
/-- a place's node is made of those ahead of it, and is not there -/
theorem kn_step (hL : GoodL L) (hO : ORD L O) {i : Nat} (hi : i < O.length) : rfE (KL L O i) (kn L O i) = 0 ∧ Tm.pos (kn L O i) (KL L O i) = none := by
  obtain ⟨r1, r2⟩ := hO.rng i hi
  have ht : O.getD i 0 - 1 < L.length := by omega
  obtain ⟨g1, g2⟩ := hL _ ht
  constructor
  · refine ren_rfE g1 (plO_zero hO (i + 1) (by omega)) (fun p hp => ?_) (fun h4 u hu => ?_)
    · rcases part_at hO hi hp with ⟨e1, e2⟩ | ⟨j, hj, e1, e2⟩
      · rw [e2, e1]
        refine ⟨by rw [wd_none (isT_zero _), wd_none (isT_zero _)], fun h => by rw [isT_zero] at h; cases h⟩
      · have hk : isT (KL L O i) ((j : Int) + 1) = true := decide_eq_true (by rw [KL_len]; omega)
        have hpt := isT_part g1 hp (by rw [e1]; have := (hO.rng j (by omega)).1; omega)
        have hpt2 := of_decide_eq_true hpt
        rw [List.length_take] at hpt2
        rw [e2]
        refine ⟨?_, fun _ => hk⟩
        rw [wd_at hk, wd_at hpt, show ((j : Int) + 1).toNat - 1 = j by omega, KL_get i j hj, takeN_getD (by omega), e1]
        show (L.getD (O.getD j 0 - 1) z0).w = _
        congr 2
    · obtain ⟨j, hj, k1, k2, k3⟩ := vw_some hu
      rw [KL_len] at hj
      rw [KL_get i j hj] at k1 k2 k3
      have k1' : (L.getD (O.getD j 0 - 1) z0).op = 4 := k1
      have k2' : (L.getD (O.getD j 0 - 1) z0).name = (L.getD (O.getD i 0 - 1) z0).name := k2
      have k3' : (L.getD (O.getD j 0 - 1) z0).w = u := k3
      have r3 := hO.rng j (by omega)
      by_cases c1 : O.getD j 0 - 1 < O.getD i 0 - 1
      · have := good_names hL c1 ht h4 k1' k2'
        omega
      · by_cases c2 : O.getD i 0 - 1 < O.getD j 0 - 1
        · have := good_names hL c2 (by omega) k1' h4 k2'.symm
          omega
        · have := hO.nod j i (by omega) hi (by omega)
          omega
  · refine pos_none (fun j hj e => ?_)
    rw [KL_len] at hj
    rw [KL_get i j hj] at e
    have hjl : j < O.length := by omega
    have r3 := hO.rng j hjl
    have same : L.getD (O.getD j 0 - 1) z0 = L.getD (O.getD i 0 - 1) z0 := by
      have ea := part_same hO hjl hi (Or.inl rfl) (Or.inl rfl) (congrArg Nd.a e)
      have eb := part_same hO hjl hi (Or.inr (Or.inl rfl)) (Or.inr (Or.inl rfl)) (congrArg Nd.b e)
      have ec := part_same hO hjl hi (Or.inr (Or.inr rfl)) (Or.inr (Or.inr rfl)) (congrArg Nd.c e)
      have eo : (L.getD (O.getD j 0 - 1) z0).op = (L.getD (O.getD i 0 - 1) z0).op := (congrArg Nd.op e : (kn L O j).op = (kn L O i).op)
      have ew : (L.getD (O.getD j 0 - 1) z0).w = (L.getD (O.getD i 0 - 1) z0).w := (congrArg Nd.w e : (kn L O j).w = (kn L O i).w)
      have en : (L.getD (O.getD j 0 - 1) z0).num = (L.getD (O.getD i 0 - 1) z0).num := (congrArg Nd.num e : (kn L O j).num = (kn L O i).num)
      have es : (L.getD (O.getD j 0 - 1) z0).name = (L.getD (O.getD i 0 - 1) z0).name := (congrArg Nd.name e : (kn L O j).name = (kn L O i).name)
      generalize L.getD (O.getD j 0 - 1) z0 = x at *
      generalize L.getD (O.getD i 0 - 1) z0 = y at *
      cases x
      cases y
      simp only at ea eb ec eo ew en es
      subst ea eb ec eo ew en es
      rfl
    by_cases c1 : O.getD j 0 - 1 < O.getD i 0 - 1
    · exact pos_some (K := L.take (O.getD i 0 - 1)) (O.getD j 0 - 1) (by rw [List.length_take]; omega) (by rw [takeN_getD c1]; exact same) g2
    · by_cases c2 : O.getD i 0 - 1 < O.getD j 0 - 1
      · exact pos_some (K := L.take (O.getD j 0 - 1)) (O.getD i 0 - 1) (by rw [List.length_take]; omega) (by rw [takeN_getD c2]; exact same.symm) (hL _ (by omega)).2
      · have := hO.nod j i hjl hi (by omega)
        omega
/-- read one behind the other, the places' nodes are all new -/
theorem mk_kn (hL : GoodL L) (hO : ORD L O) {i : Nat} (hi : i < O.length) (lim : Int) (hlim : ¬ (0 < lim ∧ lim ≤ (i : Int))) : mk lim (KL L O i) (kn L O i) = (KL L O (i + 1), (i : Int) + 1, 0) := by
  obtain ⟨h1, h2⟩ := kn_step hL hO hi
  rw [mk_new h1 h2 (by rw [KL_len]; exact hlim), KL_len]
  rfl
theorem mk_kn_full (hL : GoodL L) (hO : ORD L O) {i : Nat} (hi : i < O.length) (lim : Int) (hlim : 0 < lim ∧ lim ≤ (i : Int)) : mk lim (KL L O i) (kn L O i) = (KL L O i, 0, 4) := by
  obtain ⟨h1, h2⟩ := kn_step hL hO hi
  exact mk_full h1 h2 (by rw [KL_len]; exact hlim)
end
end Go.Proofs.YtobgedjpghokcaaGreatDoor
namespace Go.Proofs.YtobgedjpghokcaaGreatDoor
open Go.Lib Go.Tm Go.Bw Go.Bn Go.Bd

/-! ### a number's digits read back -/
theorem dec_digit : ∀ (u : Nat) (c : UInt8), c ∈ Lib.decDigits u → 48 ≤ c.toNat ∧ c.toNat ≤ 57 := by
  intro u
  induction u using Nat.strongRecOn with
  | _ u ih =>
    intro c hc
    rw [Lib.decDigits] at hc
    split at hc
    · rename_i h
      obtain rfl := List.mem_singleton.1 hc
      rw [UInt8.toNat_ofNat']
      omega
    · rename_i h
      rcases List.mem_append.1 hc with e | e
      · exact ih (u / 10) (by omega) c e
      · obtain rfl := List.mem_singleton.1 e
        rw [UInt8.toNat_ofNat']
        omega
theorem dv_dec {d : Nat} (h : d < 10) : dv 10 (UInt8.ofNat (48 + d)) = some d := by
  have e : (UInt8.ofNat (48 + d)).toNat = 48 + d := by rw [UInt8.toNat_ofNat']; omega
  unfold dv
  rw [e, if_pos (by omega), if_pos (by omega)]
  congr 1
  omega
theorem pU_dec : ∀ (u : Nat) (r : List UInt8), u < 18446744073709551616 → pU 10 0 (Lib.decDigits u ++ r) = pU 10 u r := by
  intro u
  induction u using Nat.strongRecOn with
  | _ u ih =>
    intro r hu
    rw [Lib.decDigits]
    split
    · rename_i h
      rw [List.singleton_append, pU_more 10 0 u _ _ (dv_dec h) (by omega)]
      simp
    · rename_i h
      rw [List.append_assoc, ih (u / 10) (by omega) _ (by omega), List.singleton_append, pU_more 10 (u / 10) (u % 10) _ _ (dv_dec (by omega)) (by omega)]
      congr 1
      omega
theorem dec_ne (u : Nat) : Lib.decDigits u ≠ [] := by
  rw [Lib.decDigits]
  split <;> simp
theorem dec_prefix (u : Nat) : Lib.hasPrefix (Lib.decDigits u) [48, 120] = false := by
  cases h : Lib.hasPrefix (Lib.decDigits u) [48, 120] with
  | false => rfl
  | true =>
    exfalso
    unfold Lib.hasPrefix at h
    obtain ⟨t, ht⟩ := List.isPrefixOf_iff_prefix.1 h
    have := dec_digit u 120 (by rw [← ht]; simp)
    simp at this
theorem numO_dec {u : Nat} (h : u < 18446744073709551616) : numO (Lib.decDigits u) = some u := by
  unfold numO
  rw [dec_prefix]
  have e := pU_dec u [] h
  rw [List.append_nil] at e
  unfold pV
  first
    | (rw [if_neg (by simp), if_neg (dec_ne u), e]; rfl)
    | (rw [if_neg (by simp), e]; rfl)
    | (simp [dec_ne, e, pU])
theorem smN_dec {u : Nat} (h : u < 2147483648) : smN (Lib.decDigits u) = some u := by
  unfold smN
  rw [numO_dec (by omega)]
  simp only
  rw [if_pos h]
/-! ### words and lines read back -/
def joinW : List (List UInt8) → List UInt8
  | [] => []
  | u :: us => 32 :: u ++ joinW us
theorem wgo_join : ∀ (us : List (List UInt8)) (cur : List UInt8), cur ≠ [] → (∀ u ∈ us, u ≠ [] ∧ ∀ c ∈ u, c ≠ 32) → wgo cur (joinW us) = cur :: us
  | [], cur, hc, _ => by rw [joinW, wgo, if_neg hc]
  | u :: us, cur, hc, h => by
    have hu := h u (List.mem_cons_self ..)
    rw [joinW, List.cons_append, wgo, if_pos rfl, if_neg hc, wgo_signs hu.2, List.nil_append, wgo_join us u hu.1 (fun x hx => h x (List.mem_cons_of_mem _ hx))]
theorem wds_join {u : List UInt8} {us : List (List UInt8)} (h0 : u ≠ [] ∧ ∀ c ∈ u, c ≠ 32) (h : ∀ u ∈ us, u ≠ [] ∧ ∀ c ∈ u, c ≠ 32) : wds (u ++ joinW us) = u :: us := by
  unfold wds
  rw [wgo_signs h0.2, List.nil_append, wgo_join us u h0.1 h]
theorem lgo_one {u r : List UInt8} (h : ∀ c ∈ u, c ≠ 10) : lgo [] (u ++ 10 :: r) = u :: lgo [] r := by
  rw [lgo_signs h, List.nil_append, lgo, if_pos rfl]
theorem dec_word (u : Nat) : Lib.decDigits u ≠ [] ∧ ∀ c ∈ Lib.decDigits u, c ≠ 32 := ⟨dec_ne u, fun c hc e => by
  have := dec_digit u c hc
  subst e
  simp at this⟩
theorem dec_line (u : Nat) : ∀ c ∈ Lib.decDigits u, c ≠ 10 := fun c hc e => by
  have := dec_digit u c hc
  subst e
  simp at this
theorem wordB_word : ∀ k : Fin 34, 1 ≤ k.val → wordB k.val ≠ [] ∧ (∀ c ∈ wordB k.val, c ≠ 32) ∧ ∀ c ∈ wordB k.val, c ≠ 10 := by decide +kernel
end Go.Proofs.YtobgedjpghokcaaGreatDoor
namespace Go.Proofs.YtobgedjpghokcaaGreatDoor
open Go.Lib Go.Tm Go.Bw Go.Bn Go.Bd

/-- the places 1 to i -/
def tsN : Nat → List Int
  | 0 => []
  | i + 1 => tsN i ++ [(i : Int) + 1]
theorem tsN_len : ∀ i : Nat, (tsN i).length = i
  | 0 => rfl
  | i + 1 => by rw [tsN, List.length_append, tsN_len i]; rfl
theorem tsN_get : ∀ (i j : Nat), j < i → (tsN i).getD j 0 = (j : Int) + 1
  | 0, j, h => by omega
  | i + 1, j, h => by
    rw [tsN, List.getD_eq_getElem?_getD]
    by_cases e : j < i
    · rw [List.getElem?_append_left (by rw [tsN_len]; exact e), ← List.getD_eq_getElem?_getD]
      exact tsN_get i j e
    · obtain rfl : j = i := by omega
      rw [List.getElem?_append_right (by rw [tsN_len]; exact Nat.le_refl _), tsN_len]
      simp
theorem pt_dec {i : Nat} {x : Int} (h1 : 1 ≤ x) (h2 : x ≤ (i : Int)) (h3 : i < 2147483648) : ptO (tsN i) (Lib.decDigits x.toNat) = some x := by
  unfold ptO
  rw [smN_dec (by omega)]
  simp only
  rw [if_pos ⟨by omega, by rw [tsN_len]; omega⟩, tsN_get i _ (by omega)]
  congr 1
  omega
/-- the words of a node's fields; tx: those of a constant's number -/
def fwN (tx : List UInt8) (n : Nd) : List (List UInt8) :=
  if n.op ≤ 2 then [] else if n.op = 3 then [Lib.decDigits n.w.toNat, tx] else if n.op = 4 then [n.name.data.toList, Lib.decDigits n.w.toNat]
  else if n.op = 31 then [Lib.decDigits n.a.toNat, Lib.decDigits n.num.toNat, Lib.decDigits n.w.toNat] else if 32 ≤ n.op then [Lib.decDigits n.a.toNat, Lib.decDigits n.w.toNat]
  else if pt n.op = 1 then [Lib.decDigits n.a.toNat] else if pt n.op = 2 then [Lib.decDigits n.a.toNat, Lib.decDigits n.b.toNat] else [Lib.decDigits n.a.toNat, Lib.decDigits n.b.toNat, Lib.decDigits n.c.toNat]
theorem fgo_cons' (ts : List Int) (f : UInt8) (fs : List UInt8) (u : List UInt8) (us : List (List UInt8)) (n : Nd) (k : Nat) : fgo ts (f :: fs) (u :: us) n k = (match fst1 ts f u n k with
    | none => none
    | some m => fgo ts fs us m (if f = 112 then k + 1 else k)) := rfl
theorem fgo_one {ts : List Int} {f : UInt8} {fs : List UInt8} {u : List UInt8} {us : List (List UInt8)} {n m : Nd} {k : Nat} (h : fst1 ts f u n k = some m) : fgo ts (f :: fs) (u :: us) n k = fgo ts fs us m (if f = 112 then k + 1 else k) := by
  rw [fgo_cons', h]
theorem f1_p {ts : List Int} {u : List UInt8} {t : Int} (n : Nd) (k : Nat) (h : ptO ts u = some t) : fst1 ts 112 u n k = some (setP n k t) := by
  show (ptO ts u).map (setP n k) = _
  rw [h]
  rfl
theorem f1_w {ts : List Int} {u : List UInt8} {v : Nat} (n : Nd) (k : Nat) (h : smN u = some v) : fst1 ts 119 u n k = some { n with w := (v : Int) } := by
  show (smN u).map (fun (x : Nat) => { n with w := (x : Int) }) = _
  rw [h]
  rfl
theorem f1_n3 {ts : List Int} {u : List UInt8} {v : Nat} (n : Nd) (k : Nat) (h0 : n.op = 3) (h : numO u = some v) : fst1 ts 110 u n k = some { n with num := (v : Int) } := by
  unfold fst1
  rw [if_neg (by decide), if_pos rfl, if_pos h0, h]
  rfl
theorem f1_n {ts : List Int} {u : List UInt8} {v : Nat} (n : Nd) (k : Nat) (h0 : n.op ≠ 3) (h : smN u = some v) : fst1 ts 110 u n k = some { n with num := (v : Int) } := by
  unfold fst1
  rw [if_neg (by decide), if_pos rfl, if_neg h0, h]
  rfl
set_option maxHeartbeats 4000000 in
/-- a node's words, read, are the node -/
theorem fgo_kn {K : List Nd} {n : Nd} {tx : List UInt8} {i : Nat} (hK : K.length = i) (hi : i < 2147483648) (h : rfE K n = 0) (hn : n.ok) (hwds : Wds K) (htx : n.op = 3 → numO tx = some n.num.toNat) : ∃ m, fgo (tsN i) (flB n.op) (fwN tx n) (nd1 n.op.toNat) 0 = some m ∧ fin K m = n := by
  obtain ⟨h1, h2, h3, h4, h5, h6, h7⟩ := rfE_zero h
  obtain ⟨op, w, a, b, c, num, nm⟩ := n
  have hU := hn.num
  unfold U64 at hU
  dsimp only at h1 h2 hU htx
  have hbr := h4
  unfold br at hbr
  simp only [Bool.and_eq_true, Bool.or_eq_true, decide_eq_true_eq] at hbr
  have hhp := h3
  unfold Tm.hp at hhp
  simp only [Bool.and_eq_true, Bool.or_eq_true, decide_eq_true_eq] at hhp
  have hop : ((op.toNat : Nat) : Int) = op := by omega
  have isI : ∀ p : Int, isT K p = true → 1 ≤ p ∧ p ≤ (i : Int) := fun p hp => by have := of_decide_eq_true hp; omega
  have hnm : nm.size = 0 → nm = ByteArray.empty := fun h => by simpa using h
  have hw0 : ((w.toNat : Nat) : Int) = w := by omega
  have hnum0 : ((num.toNat : Nat) : Int) = num := by omega
  have hww : smN (Lib.decDigits w.toNat) = some w.toNat := smN_dec (by omega)
  have hA : pt op < 1 → a = 0 := fun q => by rcases hbr.1 with h | h; exact absurd h (by omega); exact h
  have hB : pt op < 2 → b = 0 := fun q => by rcases hbr.2.1 with h | h; exact absurd h (by omega); exact h
  have hC : pt op < 3 → c = 0 := fun q => by rcases hbr.2.2.1 with h | h; exact absurd h (by omega); exact h
  have hN : op ≠ 3 → op ≠ 31 → num = 0 := fun q1 q2 => by
    rcases hbr.2.2.2.1 with h | h | h
    · exact absurd h q1
    · exact absurd h q2
    · exact h
  have hM : op ≠ 4 → nm = ByteArray.empty := fun q => by
    rcases hbr.2.2.2.2 with h | h
    · exact absurd h q
    · exact hnm h
  have pA : 1 ≤ pt op → 1 ≤ a ∧ a ≤ (i : Int) := fun q => by rcases hhp.1 with h | h; exact absurd h (by omega); exact isI a h
  have pB : 2 ≤ pt op → 1 ≤ b ∧ b ≤ (i : Int) := fun q => by rcases hhp.2.1 with h | h; exact absurd h (by omega); exact isI b h
  have pC : 3 ≤ pt op → 1 ≤ c ∧ c ≤ (i : Int) := fun q => by rcases hhp.2.2 with h | h; exact absurd h (by omega); exact isI c h
  have hmw : ¬ (op = 3 ∨ op = 4 ∨ 31 ≤ op) → mw op (wd K a) (wd K b) = w := fun q => by
    have h9 : wf op w num (wd K a) (wd K b) = true := h6
    unfold wf at h9
    rw [if_neg (by omega), if_neg (by omega)] at h9
    by_cases q1 : 25 ≤ op ∧ op ≤ 29
    · rw [if_pos q1, Bool.and_eq_true, decide_eq_true_eq] at h9
      unfold mw
      rw [if_neg (by omega), if_pos (by omega)]
      exact h9.1.symm
    · rw [if_neg q1] at h9
      by_cases q2 : op = 30
      · rw [if_pos q2, decide_eq_true_eq] at h9
        unfold mw
        rw [if_neg (by omega), if_neg (by omega), if_pos ⟨q2, by omega⟩]
        exact h9.symm
      · rw [if_neg q2, if_neg (by omega), if_neg (by omega), decide_eq_true_eq] at h9
        exact h9.symm
  have hfin : ∀ m : Nd, ¬ (op = 3 ∨ op = 4 ∨ 31 ≤ op) → m = ⟨op, 0, a, b, c, num, nm⟩ → fin K m = ⟨op, w, a, b, c, num, nm⟩ := fun m q e => by
    subst e
    unfold fin
    rw [if_neg q]
    show (⟨op, mw op (wd K a) (wd K b), a, b, c, num, nm⟩ : Nd) = _
    rw [hmw q]
  have hfin2 : ∀ m : Nd, (op = 3 ∨ op = 4 ∨ 31 ≤ op) → m = ⟨op, w, a, b, c, num, nm⟩ → fin K m = ⟨op, w, a, b, c, num, nm⟩ := fun m q e => by
    subst e
    unfold fin
    rw [if_pos q]
  have hnd : nd1 op.toNat = ⟨op, 0, 0, 0, 0, 0, ByteArray.empty⟩ := by unfold nd1; rw [hop]
  rw [hnd]
  by_cases o2 : op ≤ 2
  · have p0 : pt op = 0 := by unfold pt; rw [if_pos (by omega)]
    have e1 : flB op = [] := by unfold flB; rw [if_pos o2]
    have e2 : fwN tx ⟨op, w, a, b, c, num, nm⟩ = [] := by unfold fwN; exact if_pos o2
    show ∃ m, fgo (tsN i) (flB op) _ _ 0 = some m ∧ _
    rw [e1, e2]
    refine ⟨_, rfl, hfin _ (by omega) ?_⟩
    rw [hA (by omega), hB (by omega), hC (by omega), hN (by omega) (by omega), hM (by omega)]
  by_cases o3 : op = 3
  · have p0 : pt op = 0 := by unfold pt; rw [if_pos (by omega)]
    have e1 : flB op = [119, 110] := by unfold flB; rw [if_neg o2, if_pos o3]
    have e2 : fwN tx ⟨op, w, a, b, c, num, nm⟩ = [Lib.decDigits w.toNat, tx] := by unfold fwN; rw [if_neg o2, if_pos o3]
    show ∃ m, fgo (tsN i) (flB op) _ _ 0 = some m ∧ _
    rw [e1, e2, fgo_one (f1_w _ _ hww), fgo_one (f1_n3 _ _ o3 (htx o3))]
    refine ⟨_, rfl, hfin2 _ (by omega) ?_⟩
    rw [hA (by omega), hB (by omega), hC (by omega), hM (by omega), hw0, hnum0]
  by_cases o4 : op = 4
  · have p0 : pt op = 0 := by unfold pt; rw [if_pos (by omega)]
    have e1 : flB op = [115, 119] := by unfold flB; rw [if_neg o2, if_neg o3, if_pos o4]
    have e2 : fwN tx ⟨op, w, a, b, c, num, nm⟩ = [nm.data.toList, Lib.decDigits w.toNat] := by unfold fwN; rw [if_neg o2, if_neg o3, if_pos o4]
    show ∃ m, fgo (tsN i) (flB op) _ _ 0 = some m ∧ _
    rw [e1, e2, fgo_one (m := ⟨op, 0, 0, 0, 0, 0, ⟨nm.data.toList.toArray⟩⟩) rfl, fgo_one (f1_w _ _ hww)]
    refine ⟨_, rfl, hfin2 _ (by omega) ?_⟩
    rw [hA (by omega), hB (by omega), hC (by omega), hN (by omega) (by omega), hw0]
  by_cases o31 : op = 31
  · have p1 : pt op = 1 := by unfold pt; rw [if_neg (by omega), if_pos (by omega)]
    have e1 : flB op = [112, 110, 119] := by unfold flB; rw [if_neg o2, if_neg o3, if_neg o4, if_pos o31]
    have e2 : fwN tx ⟨op, w, a, b, c, num, nm⟩ = [Lib.decDigits a.toNat, Lib.decDigits num.toNat, Lib.decDigits w.toNat] := by unfold fwN; rw [if_neg o2, if_neg o3, if_neg o4, if_pos o31]
    have hnb : num ≤ 64 := by
      have h9 : wf op w num (wd K a) (wd K b) = true := h6
      unfold wf at h9
      rw [if_neg o3, if_neg o4, if_neg (by omega), if_neg (by omega), if_pos o31, decide_eq_true_eq] at h9
      have h10 := wd_lo hwds a
      omega
    have hA1 := pA (by omega)
    show ∃ m, fgo (tsN i) (flB op) _ _ 0 = some m ∧ _
    rw [e1, e2, fgo_one (f1_p _ _ (pt_dec hA1.1 hA1.2 hi)), fgo_one (f1_n _ _ o3 (smN_dec (u := num.toNat) (by omega))), fgo_one (f1_w _ _ hww)]
    refine ⟨_, rfl, hfin2 _ (by omega) ?_⟩
    rw [hB (by omega), hC (by omega), hM (by omega), hw0, hnum0]
    rfl
  by_cases o32 : 32 ≤ op
  · have p1 : pt op = 1 := by unfold pt; rw [if_neg (by omega), if_pos (by omega)]
    have e1 : flB op = [112, 119] := by unfold flB; rw [if_neg o2, if_neg o3, if_neg o4, if_neg o31, if_pos o32]
    have e2 : fwN tx ⟨op, w, a, b, c, num, nm⟩ = [Lib.decDigits a.toNat, Lib.decDigits w.toNat] := by unfold fwN; rw [if_neg o2, if_neg o3, if_neg o4, if_neg o31, if_pos o32]
    have hA1 := pA (by omega)
    show ∃ m, fgo (tsN i) (flB op) _ _ 0 = some m ∧ _
    rw [e1, e2, fgo_one (f1_p _ _ (pt_dec hA1.1 hA1.2 hi)), fgo_one (f1_w _ _ hww)]
    refine ⟨_, rfl, hfin2 _ (by omega) ?_⟩
    rw [hB (by omega), hC (by omega), hN (by omega) (by omega), hM (by omega), hw0]
    rfl
  have e0 : flB op = List.replicate (pt op).toNat 112 := by unfold flB; rw [if_neg o2, if_neg o3, if_neg o4, if_neg o31, if_neg o32]
  have ef : fwN tx ⟨op, w, a, b, c, num, nm⟩ = (if pt op = 1 then [Lib.decDigits a.toNat] else if pt op = 2 then [Lib.decDigits a.toNat, Lib.decDigits b.toNat] else [Lib.decDigits a.toNat, Lib.decDigits b.toNat, Lib.decDigits c.toNat]) := by unfold fwN; rw [if_neg o2, if_neg o3, if_neg o4, if_neg o31, if_neg o32]
  have hp : pt op = 1 ∨ pt op = 2 ∨ pt op = 3 := by
    unfold pt
    rw [if_neg (by omega)]
    split
    · simp
    · split <;> simp
  show ∃ m, fgo (tsN i) (flB op) _ _ 0 = some m ∧ _
  rw [e0, ef]
  have hA1 := pA (by omega)
  rcases hp with hp | hp | hp
  · rw [hp, if_pos rfl]
    show ∃ m, fgo (tsN i) [112] _ _ 0 = some m ∧ _
    rw [fgo_one (f1_p _ _ (pt_dec hA1.1 hA1.2 hi))]
    refine ⟨_, rfl, hfin _ (by omega) ?_⟩
    rw [hB (by omega), hC (by omega), hN (by omega) (by omega), hM (by omega)]
    rfl
  · have hB1 := pB (by omega)
    rw [hp, if_neg (by omega), if_pos rfl]
    show ∃ m, fgo (tsN i) [112, 112] _ _ 0 = some m ∧ _
    rw [fgo_one (f1_p _ _ (pt_dec hA1.1 hA1.2 hi)), fgo_one (f1_p _ _ (pt_dec hB1.1 hB1.2 hi))]
    refine ⟨_, rfl, hfin _ (by omega) ?_⟩
    rw [hC (by omega), hN (by omega) (by omega), hM (by omega)]
    rfl
  · have hB1 := pB (by omega)
    have hC1 := pC (by omega)
    rw [hp, if_neg (by omega), if_neg (by omega)]
    show ∃ m, fgo (tsN i) [112, 112, 112] _ _ 0 = some m ∧ _
    rw [fgo_one (f1_p _ _ (pt_dec hA1.1 hA1.2 hi)), fgo_one (f1_p _ _ (pt_dec hB1.1 hB1.2 hi)), fgo_one (f1_p _ _ (pt_dec hC1.1 hC1.2 hi))]
    refine ⟨_, rfl, hfin _ (by omega) ?_⟩
    rw [hN (by omega) (by omega), hM (by omega)]
    rfl
end Go.Proofs.YtobgedjpghokcaaGreatDoor
namespace Go.Proofs.YtobgedjpghokcaaGreatDoor
open Go.Lib Go.Tm Go.Bw Go.Bn Go.Bd

/-- the words of a node's line, and the line -/
def nw (tx : Nat → List UInt8) (L : List Nd) (O : List Nat) (i : Nat) : List (List UInt8) := Lib.decDigits (i + 1) :: wordB (kn L O i).op.toNat :: fwN (tx i) (kn L O i)
def nl (tx : Nat → List UInt8) (L : List Nd) (O : List Nat) (i : Nat) : List UInt8 := Lib.decDigits (i + 1) ++ joinW (wordB (kn L O i).op.toNat :: fwN (tx i) (kn L O i))
theorem dec_roots (u : Nat) : Lib.decDigits u ≠ rootsB := fun e => by
  have := dec_digit u 114 (by rw [e]; decide)
  simp at this
section
variable {L : List Nd} {O : List Nat}
theorem kn_ok (hO : ORD L O) (hok : ∀ n ∈ L, n.ok) (hl : O.length < 2147483647) {i : Nat} (hi : i < O.length) : (kn L O i).ok := by
  obtain ⟨r1, r2⟩ := hO.rng i hi
  have hn := hok _ (getD_mem' (L := L) (i := O.getD i 0 - 1) (by omega))
  have bd : ∀ p, (p = (L.getD (O.getD i 0 - 1) z0).a ∨ p = (L.getD (O.getD i 0 - 1) z0).b ∨ p = (L.getD (O.getD i 0 - 1) z0).c) → I64 (plO O (i + 1) p) := fun p hp => by
    rcases part_at hO hi hp with ⟨e1, e2⟩ | ⟨j, hj, e1, e2⟩
    · rw [e2]; unfold I64; omega
    · rw [e2]; unfold I64; omega
  exact ⟨hn.op, hn.w, bd _ (Or.inl rfl), bd _ (Or.inr (Or.inl rfl)), bd _ (Or.inr (Or.inr rfl)), hn.num, hn.name⟩
theorem KL_wds (hO : ORD L O) (hw : Wds L) : ∀ i : Nat, i ≤ O.length → Wds (KL L O i)
  | 0, _ => fun n hn => by cases hn
  | i + 1, h => fun n hn => by
    rcases List.mem_append.1 hn with e | e
    · exact KL_wds hO hw i (by omega) n e
    · obtain rfl := List.mem_singleton.1 e
      obtain ⟨r1, r2⟩ := hO.rng i (by omega)
      have h5 := hw _ (getD_mem' (L := L) (i := O.getD i 0 - 1) (by omega))
      exact h5
theorem lnO_kn (hL : GoodL L) (hO : ORD L O) (hok : ∀ n ∈ L, n.ok) (hw : Wds L) (hl : O.length < 2147483647) {tx : Nat → List UInt8} {i : Nat} (hi : i < O.length) (htx : (kn L O i).op = 3 → numO (tx i) = some (kn L O i).num.toNat) : lnO (tsN i) (KL L O i) (nw tx L O i) = some (kn L O i) := by
  obtain ⟨g1, g2⟩ := kn_step hL hO hi
  obtain ⟨m, e1, e2⟩ := fgo_kn (tx := tx i) (KL_len i) (by omega) g1 (kn_ok hO hok hl hi) (KL_wds hO hw i (by omega)) htx
  have h1 := (rfE_zero g1).1
  have ho : opO (wordB (kn L O i).op.toNat) = (kn L O i).op.toNat := opO_hit (by omega) (by omega) rfl
  have hop : (((kn L O i).op.toNat : Nat) : Int) = (kn L O i).op := by omega
  show (if smN (Lib.decDigits (i + 1)) = some ((tsN i).length + 1) then (if opO (wordB (kn L O i).op.toNat) = 0 then none else (fgo (tsN i) (flB (opO (wordB (kn L O i).op.toNat) : Int)) (fwN (tx i) (kn L O i)) (nd1 (opO (wordB (kn L O i).op.toNat))) 0).map (fin (KL L O i))) else none) = _
  rw [if_pos (by rw [smN_dec (by omega), tsN_len]), ho, if_neg (by omega), hop, e1]
  show some (fin (KL L O i) m) = _
  rw [e2]
theorem ldG_cons' (lim : Int) (l : List UInt8) (r : List (List UInt8)) (L : List Nd) (ts : List Int) : ldG lim (l :: r) L ts = (match wds l with
    | [] => (L, [], ts.length + 1, 3)
    | u :: us => if u = rootsB then (match rtO ts us with
        | none => (L, [], ts.length + 1, 3)
        | some rs => if r = [] then (L, rs, 0, 0) else (L, [], ts.length + 2, 3))
      else match lnO ts L (u :: us) with
        | none => (L, [], ts.length + 1, 3)
        | some n => if (mk lim L n).2.2 = 0 then ldG lim r (mk lim L n).1 (ts ++ [(mk lim L n).2.1]) else ((mk lim L n).1, [], ts.length + 1, (mk lim L n).2.2)) := rfl
/-- the lines of an order, and of roots, read back -/
theorem ldG_run (hL : GoodL L) (hO : ORD L O) (hok : ∀ n ∈ L, n.ok) (hw : Wds L) (hl : O.length < 2147483647) {tx : Nat → List UInt8} (htx : ∀ i, i < O.length → (kn L O i).op = 3 → numO (tx i) = some (kn L O i).num.toNat) (hwd : ∀ i, i < O.length → wds (nl tx L O i) = nw tx L O i) (lim : Int) (hlim : lim ≤ 0 ∨ (O.length : Int) ≤ lim) {rl : List UInt8} {rws : List (List UInt8)} (hr : wds rl = rootsB :: rws) {rs : List Int} (hrs : rtO (tsN O.length) rws = some rs) : ∀ (d i : Nat), i + d = O.length → ldG lim (((List.range d).map fun j => nl tx L O (i + j)) ++ [rl]) (KL L O i) (tsN i) = (KL L O O.length, rs, 0, 0)
  | 0, i, h => by
    obtain rfl : i = O.length := by omega
    show ldG lim [rl] _ _ = _
    rw [ldG_cons', hr]
    simp only [if_true]
    rw [hrs]
    try rfl
  | d + 1, i, h => by
    have hi : i < O.length := by omega
    have hmk := mk_kn hL hO hi lim (by omega)
    have e : ((List.range (d + 1)).map fun j => nl tx L O (i + j)) = nl tx L O i :: ((List.range d).map fun j => nl tx L O (i + 1 + j)) := by
      rw [List.range_succ_eq_map, List.map_cons, List.map_map]
      congr 1
      apply List.map_congr_left
      intro j _
      show nl tx L O (i + (j + 1)) = _
      rw [show i + (j + 1) = i + 1 + j by omega]
    rw [e, List.cons_append, ldG_cons', hwd i hi]
    have hln := lnO_kn hL hO hok hw hl hi (htx i hi)
    unfold nw at hln ⊢
    simp only
    rw [if_neg (dec_roots _), hln]
    simp only [hmk, if_true]
    exact ldG_run hL hO hok hw hl htx hwd lim hlim hr hrs d (i + 1) (by omega)
/-- one term too many -/
theorem ldG_full (hL : GoodL L) (hO : ORD L O) (hok : ∀ n ∈ L, n.ok) (hw : Wds L) (hl : O.length < 2147483647) {tx : Nat → List UInt8} (htx : ∀ i, i < O.length → (kn L O i).op = 3 → numO (tx i) = some (kn L O i).num.toNat) (hwd : ∀ i, i < O.length → wds (nl tx L O i) = nw tx L O i) (k : Nat) (hk1 : 1 ≤ k) (hk2 : k < O.length) (rl : List (List UInt8)) : ∀ (d i : Nat), i + d = O.length → i ≤ k → ldG (k : Int) (((List.range d).map fun j => nl tx L O (i + j)) ++ rl) (KL L O i) (tsN i) = (KL L O k, [], k + 1, 4)
  | 0, i, h, h2 => by omega
  | d + 1, i, h, h2 => by
    have hi : i < O.length := by omega
    have e : ((List.range (d + 1)).map fun j => nl tx L O (i + j)) = nl tx L O i :: ((List.range d).map fun j => nl tx L O (i + 1 + j)) := by
      rw [List.range_succ_eq_map, List.map_cons, List.map_map]
      congr 1
      apply List.map_congr_left
      intro j _
      show nl tx L O (i + (j + 1)) = _
      rw [show i + (j + 1) = i + 1 + j by omega]
    rw [e, List.cons_append, ldG_cons', hwd i hi]
    have hln := lnO_kn hL hO hok hw hl hi (htx i hi)
    unfold nw at hln ⊢
    simp only
    rw [if_neg (dec_roots _), hln]
    by_cases hik : i = k
    · subst hik
      have hmk := mk_kn_full hL hO hi (i : Int) (by omega)
      simp only [hmk]
      rw [if_neg (by decide), tsN_len]
    · have hmk := mk_kn hL hO hi (k : Int) (by omega)
      simp only [hmk, if_true]
      exact ldG_full hL hO hok hw hl htx hwd k hk1 hk2 rl d (i + 1) (by omega) (by omega)
end
end Go.Proofs.YtobgedjpghokcaaGreatDoor
