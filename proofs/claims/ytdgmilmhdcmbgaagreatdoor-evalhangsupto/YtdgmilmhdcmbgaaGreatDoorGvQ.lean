import Derived.Test.YtdgmilmhdcmbgaaGreatDoorGvM
import Derived.Test.YtdgmilmhdcmbgaaGreatDoorTbD
import Derived.Test.YtdgmilmhdcmbgaaGreatDoorTlO
import Derived.Test.YtdgmilmhdcmbgaaGreatDoorGvI
namespace Go.Proofs.YtdgmilmhdcmbgaaGreatDoor.G2
open Go.Proofs.YtdgmilmhdcmbgaaGreatDoor
open Go.ChangeShapes Go.WideShapes Go.ChangeAt Go.RowKit Go.Lib Go.Tm Go.Bw Go.Bn Go.WideMaps Go.Maps Go.ChangeMaps Go.Shelf

/-- a value out of the parts' and of what is told -/
abbrev VT := Nat → Nat → Nat → Nat → Nat → Nat
def VOK (B g0 : Nat) (L : List Nd) (V : VT) : Prop := ∀ t a b c x, 1 ≤ t → t ≤ L.length → a ≤ 18446744073709551615 → b ≤ 18446744073709551615 → c ≤ 18446744073709551615 → x ≤ 18446744073709551615 → V t a b c x ≤ 18446744073709551615 ∧ OFA B g0 L (L.getD (t - 1) z0) (pA L t) (pB L t) (pC L t) a b c ((x : Nat) : Int) (V t a b c x)
theorem getD_in {L : List Nd} {i : Nat} (h : i < L.length) : L.getD i z0 ∈ L := by
  rw [List.getD_eq_getElem?_getD, List.getElem?_eq_getElem h]
  exact List.getElem_mem _
theorem V_ex (B g0 : Nat) (L : List Nd) (hP : PAR L) (hs : ∀ n ∈ L, SHP n) (hok : ∀ n ∈ L, n.ok) : ∃ V : VT, VOK B g0 L V := by
  have h : ∀ p : Nat × Nat × Nat × Nat × Nat, ∃ r : Nat, 1 ≤ p.1 → p.1 ≤ L.length → p.2.1 ≤ 18446744073709551615 → p.2.2.1 ≤ 18446744073709551615 → p.2.2.2.1 ≤ 18446744073709551615 → p.2.2.2.2 ≤ 18446744073709551615 → r ≤ 18446744073709551615 ∧ OFA B g0 L (L.getD (p.1 - 1) z0) (pA L p.1) (pB L p.1) (pC L p.1) p.2.1 p.2.2.1 p.2.2.2.1 ((p.2.2.2.2 : Nat) : Int) r := by
    rintro ⟨t, a, b, c, x⟩
    dsimp only
    by_cases hc : 1 ≤ t ∧ t ≤ L.length ∧ a ≤ 18446744073709551615 ∧ b ≤ 18446744073709551615 ∧ c ≤ 18446744073709551615 ∧ x ≤ 18446744073709551615
    · obtain ⟨h1, h2, h3, h4, h5, h6⟩ := hc
      have hp := hP (t - 1) (by omega)
      have hm : L.getD (t - 1) z0 ∈ L := getD_in (by omega)
      obtain ⟨r, h7, h8⟩ := of_ex B g0 L (L.getD (t - 1) z0) (pA L t) (pB L t) (pC L t) a b c ((x : Nat) : Int) (hs _ hm) (hok _ hm) (by unfold pA; omega) (by unfold pB; omega) (by unfold pC; omega) (by unfold pA; omega) (by unfold pB; omega) h3 h4 h5 (U_n h6)
      exact ⟨r, fun _ _ _ _ _ _ => ⟨h7, h8⟩⟩
    · exact ⟨0, fun h1 h2 h3 h4 h5 h6 => absurd ⟨h1, h2, h3, h4, h5, h6⟩ hc⟩
  obtain ⟨f, hf⟩ := Classical.axiomOfChoice h
  exact ⟨fun t a b c x => f (t, a, b, c, x), fun t a b c x h1 h2 h3 h4 h5 h6 => hf (t, a, b, c, x) h1 h2 h3 h4 h5 h6⟩
/-- what is told of a term's name -/
def xT (L : List Nd) (T : ByteArray → Option Vl) (t : Nat) : Nat := ((T (L.getD (t - 1) z0).name).getD vZ).num.toNat
def gG (V : VT) (L : List Nd) (T : ByteArray → Option Vl) : gT := fun t f => V t (f (pA L t)) (f (pB L t)) (f (pC L t)) (xT L T t)
theorem mxN_par {L : List Nd} {O : List Nat} (hP : PAR L) {t : Nat} (h1 : 1 ≤ t) (h2 : t ≤ L.length) (ht : t ∈ O) : pA L t < mxN O + 1 ∧ pB L t < mxN O + 1 ∧ pC L t < mxN O + 1 := by
  have hp := hP (t - 1) (by omega)
  have := mxN_ge ht
  unfold pA pB pC
  omega
theorem ofw_of {B g0 : Nat} {L : List Nd} {O : List Nat} {V : VT} {T : ByteArray → Option Vl} (hP : PAR L) (hV : VOK B g0 L V) (hT : ∀ s, 0 ≤ ((T s).getD vZ).num ∧ ((T s).getD vZ).num ≤ 18446744073709551615) (hO : ∀ t ∈ O, 1 ≤ t ∧ t ≤ L.length) : OFW B g0 (mxN O + 1) L O T (gG V L T) := fun t ht f hf => by
  obtain ⟨h1, h2⟩ := hO t ht
  have hx := hT (L.getD (t - 1) z0).name
  obtain ⟨h3, h4⟩ := hV t (f (pA L t)) (f (pB L t)) (f (pC L t)) (xT L T t) h1 h2 (hf _) (hf _) (hf _) (by unfold xT; omega)
  obtain ⟨q1, q2, q3⟩ := mxN_par hP h1 h2 ht
  exact ⟨h3, fun Vb M k g lv tv cn w hva hsr => h4 Vb M k g lv tv _ cn T f w hva hsr q1 q2 q3 rfl rfl rfl (by unfold xT; omega)⟩
section
variable {L : List Nd} {V : VT} {T : ByteArray → Option Vl}
theorem zero_out {O : List Nat} (hw : PW L O []) : (0 : Nat) ∉ O := fun h => by
  have := hw.ob 0 h
  omega
/-- a term's value is made of its parts' values -/
theorem fol_fix {O : List Nat} (hw : PW L O []) {t : Nat} (ht : t ∈ O) : folN (gG V L T) 0 O t = V t (folN (gG V L T) 0 O (pA L t)) (folN (gG V L T) 0 O (pB L t)) (folN (gG V L T) 0 O (pC L t)) (xT L T t) := by
  obtain ⟨a, b, e⟩ := List.append_of_mem ht
  have hn := hw.on
  have h0 := zero_out hw
  have hp : ∀ p, (0 < p → isP L t p) → folN (gG V L T) 0 a p = folN (gG V L T) 0 O p := fun p hp => by
    by_cases h : p = 0
    · subst h
      rw [folN_out h0, folN_out (fun h => h0 (by rw [e]; exact List.mem_append_left _ h))]
    · have h2 := hw.cl a t b e p (hp (by omega))
      rw [e] at hn ⊢
      rw [folN_pre hn h2]
  have h9 : folN (gG V L T) 0 O t = gG V L T t (folN (gG V L T) 0 a) := by
    rw [e] at hn ⊢
    exact folN_at hn
  rw [h9]
  show V t _ _ _ _ = _
  rw [hp _ (fun h => ⟨h, Or.inl rfl⟩), hp _ (fun h => ⟨h, Or.inr (Or.inl rfl)⟩), hp _ (fun h => ⟨h, Or.inr (Or.inr rfl)⟩)]
theorem part_in {O : List Nat} (hw : PW L O []) {t p : Nat} (ht : t ∈ O) (hp : isP L t p) : p ∈ O := by
  obtain ⟨a, b, e⟩ := List.append_of_mem ht
  rw [e]
  exact List.mem_append_left _ (hw.cl a t b e p hp)
end
/-- the value of a term is one, in whatever order -/
theorem val_same {L : List Nd} {V : VT} {T1 T2 : ByteArray → Option Vl} {O1 O2 : List Nat} (hP : PAR L) (h1 : PW L O1 []) (h2 : PW L O2 []) (hx : ∀ t ∈ O1, t ∈ O2 → xT L T1 t = xT L T2 t) : ∀ n t, t ≤ n → t ∈ O1 → t ∈ O2 → folN (gG V L T1) 0 O1 t = folN (gG V L T2) 0 O2 t
  | 0, t, hn, ht, _ => by have := h1.ob t ht; omega
  | n + 1, t, hn, ht1, ht2 => by
    have hb := h1.ob t ht1
    have key : ∀ p, (0 < p → isP L t p) → folN (gG V L T1) 0 O1 p = folN (gG V L T2) 0 O2 p := fun p hp => by
      by_cases h : p = 0
      · subst h
        rw [folN_out (zero_out h1), folN_out (zero_out h2)]
      · have h3 := hp (by omega)
        have h4 := hP.lt hb.1 hb.2 h3
        exact val_same hP h1 h2 hx n p (by omega) (part_in h1 ht1 h3) (part_in h2 ht2 h3)
    rw [fol_fix h1 ht1, fol_fix h2 ht2, hx t ht1 ht2, key _ (fun h => ⟨h, Or.inl rfl⟩), key _ (fun h => ⟨h, Or.inr (Or.inl rfl)⟩), key _ (fun h => ⟨h, Or.inr (Or.inr rfl)⟩)]
/-- the order of a root is part of the order of all -/
theorem og_sub {L : List Nd} (hP : PAR L) {rs : List Nat} (hr : ∀ r ∈ rs, 1 ≤ r ∧ r ≤ L.length) {r : Nat} (h : r ∈ rs) : ∀ t ∈ og L [] [r], t ∈ og L [] rs := by
  obtain ⟨hw, -, hrt, -⟩ := og_ok (R := fun _ => True) hP rs [] (PW.nil L) ⟨fun _ _ _ _ => Or.inl trivial, fun _ _ _ _ => Or.inl trivial⟩ (fun x hx => ⟨(hr x hx).1, (hr x hx).2, trivial⟩)
  obtain ⟨-, hl1, -, -⟩ := og_ok (R := fun x => x = r) hP [r] [] (PW.nil L) ⟨fun a x b e => by simp at e, fun a x b e => by simp at e⟩ (fun x hx => by
    rw [List.mem_singleton] at hx
    subst hx
    exact ⟨(hr x h).1, (hr x h).2, rfl⟩)
  have key : ∀ n a x b, og L [] [r] = a ++ x :: b → b.length ≤ n → x ∈ og L [] rs := by
    intro n
    induction n with
    | zero =>
      intro a x b e hn
      rcases hl1.old a x b e with h1 | ⟨y, h1, h2⟩
      · rw [h1]; exact hrt r h
      · have hb : b = [] := List.eq_nil_of_length_eq_zero (by omega)
        subst hb
        rcases h1 with h1 | h1 <;> cases h1
    | succ n ih =>
      intro a x b e hn
      rcases hl1.old a x b e with h1 | ⟨y, h1, h2⟩
      · rw [h1]; exact hrt r h
      · rcases h1 with h1 | h1
        · obtain ⟨b1, b2, e2⟩ := List.append_of_mem h1
          have h3 := ih (a ++ x :: b1) y b2 (by rw [e, e2]; simp) (by rw [e2] at hn; simp at hn; omega)
          exact part_in hw h3 h2
        · cases h1
  intro t ht
  obtain ⟨a, b, e⟩ := List.append_of_mem ht
  exact key b.length a t b e (Nat.le_refl _)
/-- a store as it is made -/
structure STO (L : List Nd) : Prop where
  good : GoodL L
  pars : PARS L
theorem sto_nil : STO [] := ⟨fun i h => by simp at h, par_nil⟩
theorem sto_mk {lim : Int} {L : List Nd} {n : Nd} (h : STO L) : STO (mk lim L n).1 := by
  refine ⟨good_mk h.good, ?_⟩
  unfold mk
  split
  · exact h.pars
  · rename_i h0
    split
    · exact h.pars
    · split
      · exact h.pars
      · exact par_snoc h.pars (by simpa using h0)
theorem isT_mk {lim : Int} {L : List Nd} {n : Nd} {x : Int} (h : isT L x = true) : isT (mk lim L n).1 x = true := by
  have h1 : 1 ≤ x ∧ x ≤ (L.length : Int) := of_decide_eq_true h
  have h2 : L.length ≤ (mk lim L n).1.length := by
    unfold mk
    split
    · exact Nat.le_refl _
    · split
      · exact Nat.le_refl _
      · split
        · exact Nat.le_refl _
        · simp
  exact decide_eq_true ⟨h1.1, by omega⟩
theorem isT_made {lim : Int} {L : List Nd} {n : Nd} (h : (mk lim L n).2.2 = 0) : isT (mk lim L n).1 (mk lim L n).2.1 = true := by
  unfold mk at h ⊢
  split at h
  · rename_i h0; exact absurd h h0
  · rename_i h0
    rw [if_neg h0]
    split at h
    · rename_i i hi
      have := pos_lt hi
      exact decide_eq_true ⟨by dsimp only; omega, by dsimp only; omega⟩
    · rename_i hi
      split at h
      · dsimp only at h; omega
      · rename_i h3
        rw [if_neg h3]
        refine decide_eq_true ⟨by dsimp only; omega, ?_⟩
        show ((L.length : Int) + 1) ≤ (((L ++ [n]).length : Nat) : Int)
        rw [List.length_append, List.length_singleton]
        omega
theorem rtO_isT {L : List Nd} {ts : List Int} (h : ∀ x ∈ ts, isT L x = true) : ∀ {us : List (List UInt8)} {rs : List Int}, rtO ts us = some rs → ∀ x ∈ rs, isT L x = true
  | [], rs, e, x, hx => by cases e; cases hx
  | u :: us, rs, e, x, hx => by
    unfold rtO at e
    cases hp : ptO ts u with
    | none => rw [hp] at e; cases e
    | some t =>
      rw [hp] at e
      cases hr : rtO ts us with
      | none => rw [hr] at e; cases e
      | some r =>
        rw [hr] at e
        cases e
        rcases List.mem_cons.1 hx with rfl | hx
        · unfold ptO at hp
          cases hs : smN u with
          | none => rw [hs] at hp; cases hp
          | some v =>
            rw [hs] at hp
            dsimp only at hp
            split at hp
            · rename_i hv
              cases hp
              refine h _ ?_
              rw [List.getD_eq_getElem?_getD, List.getElem?_eq_getElem (by omega)]
              exact List.getElem_mem _
            · cases hp
        · exact rtO_isT h hr x hx
/-- what is read is a store as it is made, its roots are terms -/
theorem ldG_sto (lim : Int) : ∀ (ls : List (List UInt8)) (L : List Nd) (ts : List Int), STO L → (∀ x ∈ ts, isT L x = true) → STO (ldG lim ls L ts).1 ∧ ∀ x ∈ (ldG lim ls L ts).2.1, isT (ldG lim ls L ts).1 x = true
  | [], L, ts, h, _ => by rw [ldG_nil]; exact ⟨h, fun x hx => by cases hx⟩
  | l :: r, L, ts, h, ht => by
    rw [ldG_cons]
    cases hw : wds l with
    | nil => exact ⟨h, fun x hx => by cases hx⟩
    | cons u us =>
      dsimp only
      split
      · cases e : rtO ts us with
        | none => exact ⟨h, fun x hx => by cases hx⟩
        | some rs =>
          dsimp only
          split
          · exact ⟨h, rtO_isT ht e⟩
          · exact ⟨h, fun x hx => by cases hx⟩
      · cases e : lnO ts L (u :: us) with
        | none => exact ⟨h, fun x hx => by cases hx⟩
        | some n =>
          dsimp only
          split
          · rename_i h0
            refine ldG_sto lim r _ _ (sto_mk h) (fun x hx => ?_)
            rcases List.mem_append.1 hx with hx | hx
            · exact isT_mk (ht x hx)
            · obtain rfl := List.mem_singleton.1 hx
              exact isT_made h0
          · exact ⟨sto_mk h, fun x hx => by cases hx⟩
theorem rtO_len {ts : List Int} : ∀ {us : List (List UInt8)} {rs : List Int}, rtO ts us = some rs → rs.length = us.length
  | [], rs, h => by cases h; rfl
  | u :: us, rs, h => by
    rw [rtO_cons] at h
    cases e : ptO ts u with
    | none => rw [e] at h; cases h
    | some t =>
      rw [e] at h
      cases e2 : rtO ts us with
      | none => rw [e2] at h; cases h
      | some r2 =>
        rw [e2] at h
        cases h
        simp [rtO_len e2]
theorem lgo_len : ∀ (l cur x : List UInt8), x ∈ lgo cur l → x.length ≤ cur.length + l.length
  | [], cur, x, h => by
    unfold lgo at h
    split at h
    · cases h
    · simp at h; subst h; simp
  | c :: r, cur, x, h => by
    unfold lgo at h
    split at h
    · rcases List.mem_cons.1 h with e | e
      · rw [e]; simp
      · have := lgo_len r [] x e; simp at this ⊢; omega
    · have := lgo_len r (cur ++ [c]) x h; simp at this ⊢; omega
theorem ldG_roots (lim : Int) (M : Nat) : ∀ (ls : List (List UInt8)) (L : List Nd) (ts : List Int), (∀ x ∈ ls, x.length ≤ M) → (ldG lim ls L ts).2.1.length ≤ M + 1
  | [], L, ts, _ => by rw [ldG_nil]; simp
  | x :: r, L, ts, h => by
    have hn : (wds x).length ≤ M + 1 := by have h1 := wgo_num x []; have h2 := h x (List.mem_cons_self ..); unfold wds; omega
    rw [ldG_cons]
    cases hw : wds x with
    | nil => simp
    | cons u us =>
      rw [hw] at hn
      simp only [List.length_cons] at hn
      simp only
      split
      · cases e : rtO ts us with
        | none => simp
        | some rs =>
          simp only
          split
          · have := rtO_len e; simp only; omega
          · simp
      · cases e : lnO ts L (u :: us) with
        | none => simp
        | some n =>
          simp only
          split
          · exact ldG_roots lim M r _ _ (fun y hy => h y (List.mem_cons_of_mem _ hy))
          · simp
end Go.Proofs.YtdgmilmhdcmbgaaGreatDoor.G2
namespace Go.Proofs.YtdgmilmhdcmbgaaGreatDoor.G2
open Go.Proofs.YtdgmilmhdcmbgaaGreatDoor
open Go.ChangeShapes Go.WideShapes Go.ChangeAt Go.RowKit Go.Lib Go.Tm Go.Bw Go.Bn Go.WideMaps Go.Maps Go.ChangeMaps Go.Shelf

theorem vars_in {L : List Nd} {O : List Nat} {x : Vl} : x ∈ varsF L O ↔ ∃ t ∈ O, (L.getD (t - 1) z0).op = 4 ∧ x = ⟨(L.getD (t - 1) z0).name, (L.getD (t - 1) z0).w, 0⟩ := by
  unfold varsF
  rw [List.mem_flatMap]
  constructor
  · rintro ⟨t, ht, hx⟩
    unfold vrN at hx
    split at hx
    · rename_i h4
      exact ⟨t, ht, h4, by simpa using hx⟩
    · cases hx
  · rintro ⟨t, ht, h4, rfl⟩
    refine ⟨t, ht, ?_⟩
    unfold vrN
    rw [if_pos h4]
    exact List.mem_singleton.2 rfl
/-- a variable of a store -/
theorem var_facts {L : List Nd} (h : STO L) {i : Nat} (hi : i < L.length) (h4 : (L.getD i z0).op = 4) : nmB (L.getD i z0).name = true ∧ (L.getD i z0).name.size ≤ 24 ∧ (L.getD i z0).a = 0 ∧ (L.getD i z0).b = 0 ∧ (L.getD i z0).c = 0 ∧ (L.getD i z0).num = 0 := by
  obtain ⟨q1, q2, q3, q4, q5, q6, q7⟩ := rfE_zero (h.good i hi).1
  have h7 := q7 h4
  unfold nf at h7
  rw [Bool.and_eq_true] at h7
  have hs := h.pars.2 _ (getD_in hi)
  have hp : pt (L.getD i z0).op = 0 := by rw [h4]; rfl
  have ha := hs.a.2
  have hb := hs.b.2
  have hc := hs.c.2
  rw [hp] at ha hb hc
  unfold br at q4
  simp only [Bool.and_eq_true, Bool.or_eq_true, decide_eq_true_eq] at q4
  obtain ⟨_, _, _, hn, _⟩ := q4
  exact ⟨h7.1, hs.name, ha (by omega), hb (by omega), hc (by omega), by omega⟩
/-- what is no variable has no name -/
theorem no_name {L : List Nd} (h : STO L) {i : Nat} (hi : i < L.length) (h4 : (L.getD i z0).op ≠ 4) : (L.getD i z0).name.size = 0 := by
  obtain ⟨q1, q2, q3, q4, q5, q6, q7⟩ := rfE_zero (h.good i hi).1
  unfold br at q4
  simp only [Bool.and_eq_true, Bool.or_eq_true, decide_eq_true_eq] at q4
  obtain ⟨_, _, _, _, hn⟩ := q4
  rcases hn with hn | hn
  · exact absurd hn h4
  · exact hn
/-- two variables have two names -/
theorem name_one {L : List Nd} (h : STO L) {i j : Nat} (hi : i < L.length) (hj : j < L.length) (h1 : (L.getD i z0).op = 4) (h2 : (L.getD j z0).op = 4) (e : (L.getD j z0).name = (L.getD i z0).name) : i = j := by
  have key : ∀ i j, j < i → i < L.length → (L.getD i z0).op = 4 → (L.getD j z0).op = 4 → (L.getD j z0).name = (L.getD i z0).name → False := fun i j hij hi h1 h2 e => by
    have hw := good_names h.good hij hi h1 h2 e
    obtain ⟨_, _, a1, a2, a3, a4⟩ := var_facts h hi h1
    obtain ⟨_, _, b1, b2, b3, b4⟩ := var_facts h (show j < L.length by omega) h2
    have heq : L.getD j z0 = L.getD i z0 := by
      generalize L.getD i z0 = x at *
      generalize L.getD j z0 = y at *
      obtain ⟨x1, x2, x3, x4, x5, x6, x7⟩ := x
      obtain ⟨y1, y2, y3, y4, y5, y6, y7⟩ := y
      dsimp only at *
      subst h1 h2 e hw a1 a2 a3 a4 b1 b2 b3 b4
      rfl
    have h3 := (h.good i hi).2
    refine pos_some (K := L.take i) j (by rw [List.length_take]; omega) ?_ h3
    rw [List.getD_eq_getElem?_getD, List.getElem?_take_of_lt hij, ← List.getD_eq_getElem?_getD]
    exact heq
  rcases Nat.lt_trichotomy i j with h3 | h3 | h3
  · exact (key j i h3 hj h2 h1 e.symm).elim
  · exact h3
  · exact (key i j h3 hi h1 h2 e).elim
/-- names that are told once -/
def UNQ (xs : List Vl) : Prop := xs.Pairwise (fun x y => ¬ y.nm = x.nm)
theorem UNQ.idx {xs : List Vl} (h : UNQ xs) : ∀ i j, i < j → j < xs.length → ¬ (xs.getD j vZ).nm = (xs.getD i vZ).nm := fun i j h1 h2 => by
  have := List.pairwise_iff_getElem.1 h i j (by omega) h2 h1
  rw [List.getD_eq_getElem?_getD, List.getElem?_eq_getElem h2, List.getD_eq_getElem?_getD, List.getElem?_eq_getElem (show i < xs.length by omega)]
  exact this
theorem vars_unq {L : List Nd} (h : STO L) : ∀ {O : List Nat}, (∀ t ∈ O, 1 ≤ t ∧ t ≤ L.length) → O.Nodup → UNQ (varsF L O)
  | [], _, _ => List.Pairwise.nil
  | t :: O, hb, hn => by
    have hn2 := List.nodup_cons.1 hn
    have ih := vars_unq h (O := O) (fun x hx => hb x (List.mem_cons_of_mem _ hx)) hn2.2
    show UNQ (vrN L t ++ varsF L O)
    unfold vrN
    split
    · rename_i h4
      refine List.pairwise_cons.2 ⟨fun y hy e => ?_, ih⟩
      obtain ⟨s, hs, h5, rfl⟩ := vars_in.1 hy
      have b1 := hb t (List.mem_cons_self ..)
      have b2 := hb s (List.mem_cons_of_mem _ hs)
      have := name_one h (i := t - 1) (j := s - 1) (by omega) (by omega) h4 h5 e
      have e2 : t = s := by omega
      exact hn2.1 (e2 ▸ hs)
    · exact ih
/-- what is told of a name that stands in the list -/
theorem tell_in : ∀ {xs : List Vl}, UNQ xs → ∀ x ∈ xs, tellF xs x.nm = some x := by
  intro xs
  have gen : ∀ (xs : List Vl) (f : ByteArray → Option Vl), UNQ xs → ∀ x ∈ xs, xs.foldl tupd f x.nm = some x := by
    intro xs
    induction xs with
    | nil => intro f _ x hx; cases hx
    | cons y ys ih =>
      intro f h x hx
      have h2 := List.pairwise_cons.1 h
      rw [List.foldl_cons]
      rcases List.mem_cons.1 hx with rfl | hx
      · rw [tell_fol ys _ (fun z hz e => h2.1 z hz e.symm), tupd_same]
      · exact ih _ h2.2 x hx
  exact gen xs _
theorem tell_some {xs : List Vl} {s : ByteArray} {y : Vl} (hu : UNQ xs) (h : tellF xs s = some y) : y ∈ xs ∧ y.nm = s := by
  by_cases hx : ∃ x ∈ xs, s = x.nm
  · obtain ⟨x, hx, rfl⟩ := hx
    rw [tell_in hu x hx] at h
    cases h
    exact ⟨hx, rfl⟩
  · rw [tellF_none (fun x hx2 e => hx ⟨x, hx2, e⟩)] at h
    cases h
/-- a word out of the numbers -/
def drN (nums : List Nat) (i : Nat) (w : Int) : Int := trimI (if w = 0 then 1 else w) (if 0 < nums.length then ((nums.getD (i % nums.length) 0 : Nat) : Int) else 0)
def drV (nums : List Nat) (vs : List Vl) (i : Nat) : Vl := ⟨(vs.getD i vZ).nm, (vs.getD i vZ).w, drN nums i (vs.getD i vZ).w⟩
def drL (nums : List Nat) (vs : List Vl) (n : Nat) : List Vl := (List.range n).map (drV nums vs)
theorem drL_snoc (nums : List Nat) (vs : List Vl) (n : Nat) : drL nums vs (n + 1) = drL nums vs n ++ [drV nums vs n] := by
  unfold drL
  rw [List.range_succ, List.map_append, List.map_singleton]
theorem drL_len (nums : List Nat) (vs : List Vl) (n : Nat) : (drL nums vs n).length = n := by unfold drL; simp
theorem drL_at (nums : List Nat) (vs : List Vl) {n j : Nat} (h : j < n) : (drL nums vs n).getD j vZ = drV nums vs j := by
  unfold drL
  rw [List.getD_eq_getElem?_getD, List.getElem?_map, List.getElem?_range h]
  rfl
theorem drL_in {nums : List Nat} {vs : List Vl} {n : Nat} {x : Vl} : x ∈ drL nums vs n ↔ ∃ j, j < n ∧ drV nums vs j = x := by
  unfold drL
  rw [List.mem_map]
  constructor
  · rintro ⟨j, hj, e⟩; exact ⟨j, List.mem_range.1 hj, e⟩
  · rintro ⟨j, hj, e⟩; exact ⟨j, List.mem_range.2 hj, e⟩
theorem drN_U {nums : List Nat} (h : ∀ x ∈ nums, x ≤ 18446744073709551615) (i : Nat) (w : Int) : U (drN nums i w) := by
  unfold drN
  refine U_trim _ _ ?_
  split
  · rename_i h0
    have : nums.getD (i % nums.length) 0 ∈ nums := by
      have h1 := Nat.mod_lt i h0
      rw [List.getD_eq_getElem?_getD, List.getElem?_eq_getElem h1]
      exact List.getElem_mem _
    exact U_n (h _ this)
  · unfold U; omega
theorem trim_trim (a x : Int) (h1 : 1 ≤ a) (h2 : a ≤ 64) (hx : U x) : trimI a (trimI a x) = trimI a x := by
  unfold U at hx
  rw [trim_mod a x h1 h2 (by omega) (by omega), trim_mod a _ h1 h2]
  · exact Int.emod_emod_of_dvd _ (Int.dvd_refl _)
  · exact Int.emod_nonneg _ (by have : (0 : Int) < 2 ^ a.toNat := Int.pow_pos (by decide); omega)
  · rw [← trim_mod a x h1 h2 (by omega) (by omega)]
    have := U_trim a x (by unfold U; omega)
    unfold U at this
    omega
theorem drV_ok {nums : List Nat} (h : ∀ x ∈ nums, x ≤ 18446744073709551615) {vs : List Vl} {i : Nat} (hw : 0 ≤ (vs.getD i vZ).w ∧ (vs.getD i vZ).w ≤ 64) : okV (drV nums vs i) := by
  have hU := drN_U h i (vs.getD i vZ).w
  unfold okV drV
  dsimp only
  generalize (vs.getD i vZ).w = w at *
  by_cases h0 : w = 0
  · subst h0
    left
    unfold drN at hU ⊢
    rw [if_pos rfl] at hU ⊢
    have h1 : ∀ x : Int, trimI 1 x = x % 2 := fun x => by unfold trimI; rw [if_neg (by decide), if_neg (by decide)]; rfl
    rw [h1] at hU ⊢
    refine ⟨rfl, ?_, ?_⟩ <;> omega
  · right
    refine ⟨by omega, by omega, ?_, hU⟩
    unfold drN
    rw [if_neg h0]
    have : U (if 0 < nums.length then ((nums.getD (i % nums.length) 0 : Nat) : Int) else 0) := by
      split
      · rename_i h5
        have : nums.getD (i % nums.length) 0 ∈ nums := by
          have h1 := Nat.mod_lt i h5
          rw [List.getD_eq_getElem?_getD, List.getElem?_eq_getElem h1]
          exact List.getElem_mem _
        exact U_n (h _ this)
      · unfold U; omega
    exact trim_trim _ _ (by omega) (by omega) this
end Go.Proofs.YtdgmilmhdcmbgaaGreatDoor.G2
