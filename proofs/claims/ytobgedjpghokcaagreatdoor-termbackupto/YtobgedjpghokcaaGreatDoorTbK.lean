import Derived.Test.YtobgedjpghokcaaGreatDoorTbH
import Derived.Test.YtobgedjpghokcaaGreatDoorDxD
namespace Go.Proofs.YtobgedjpghokcaaGreatDoor
open Go.Lib Go.Tm Go.Bw Go.Bn Go.Bd

/-- the text of the number of a place's node -/
def txK (L : List Nd) (O : List Nat) (i : Nat) : List UInt8 := txB (kn L O i).num.toNat
/-- what holds of a store -/
structure STO (L : List Nd) : Prop where
  good : GoodL L
  par : PARS L
  ok : ∀ n ∈ L, n.ok
  wds : Wds L
theorem nm_of {K : List Nd} {n : Nd} (h : rfE K n = 0) (h4 : n.op = 4) : nmB n.name = true := by
  have h7 := (rfE_zero h).2.2.2.2.2.2 h4
  unfold nf at h7
  rw [Bool.and_eq_true] at h7
  exact h7.1
section
variable {L : List Nd} {O : List Nat} {xs : List Int}
theorem okw_kn (hS : STO L) (hO : ORD L O) {i : Nat} (hi : i < O.length) : ∀ u ∈ wordB (kn L O i).op.toNat :: fwN (txK L O i) (kn L O i), OKw u := by
  obtain ⟨g1, g2⟩ := kn_step hS.good hO hi
  have h1 := (rfE_zero g1).1
  intro u hu
  rcases List.mem_cons.1 hu with e | hu
  · rw [e]; exact okw_word (by omega) (by omega)
  · exact okw_fw (fun h4 => nm_of g1 h4) u hu
theorem wds_nl (hS : STO L) (hO : ORD L O) {i : Nat} (hi : i < O.length) : wds (nl (txK L O) L O i) = nw (txK L O) L O i := by
  have h := okw_kn hS hO hi
  unfold nl nw
  exact wds_join (dec_word _) (fun u hu => ⟨(h u hu).1, fun c hc => ((h u hu).2 c hc).1⟩)
theorem line_nl (hS : STO L) (hO : ORD L O) {i : Nat} (hi : i < O.length) : ∀ c ∈ nl (txK L O) L O i, c ≠ 10 := by
  intro c hc
  unfold nl at hc
  rcases List.mem_append.1 hc with hc | hc
  · exact dec_line _ c hc
  · exact join_sign (okw_kn hS hO hi) c hc
theorem ndT_nl (hS : STO L) (hO : ORD L O) {i : Nat} (hi : i < O.length) : ndT (plO O (i + 1)) ((i : Int) + 1) (L.getD (O.getD i 0 - 1) z0) = nl (txK L O) L O i ++ [10] := by
  obtain ⟨r1, r2⟩ := hO.rng i hi
  have hm : L.getD (O.getD i 0 - 1) z0 ∈ L := getD_mem' (by omega)
  rw [ndT_words _ _ _ (hS.par.2 _ hm) (hS.ok _ hm) (fun p hp => by
    rcases part_at hO hi hp with ⟨e1, e2⟩ | ⟨j, hj, e1, e2⟩
    · rw [e2]; omega
    · rw [e2]; omega) (by omega)]
  rfl
theorem tx_succ (i : Nat) : tx L O (i + 1) = tx L O i ++ ndT (plO O (i + 1)) ((i : Int) + 1) (L.getD (O.getD i 0 - 1) z0) := rfl
theorem lgo_tx (hS : STO L) (hO : ORD L O) : ∀ (i : Nat), i ≤ O.length → ∀ R : List UInt8, lgo [] (tx L O i ++ R) = ((List.range i).map fun j => nl (txK L O) L O (0 + j)) ++ lgo [] R
  | 0, _, R => rfl
  | i + 1, hi, R => by
    rw [tx_succ, ndT_nl hS hO (by omega), List.append_assoc, List.append_assoc, lgo_tx hS hO i (by omega), List.singleton_append, lgo_one (line_nl hS hO (by omega)), List.range_succ, List.map_append, List.append_assoc]
    simp
theorem joinW_app : ∀ (a b : List (List UInt8)), joinW (a ++ b) = joinW a ++ joinW b
  | [], b => rfl
  | u :: a, b => by rw [List.cons_append, joinW_cons, joinW_cons, joinW_app a b, List.append_assoc]
/-- the words of the roots -/
def rws (g : Int → Int) (xs : List Int) : List (List UInt8) := xs.map fun x => Lib.decDigits (g x).toNat
theorem rt_take (g : Int → Int) (xs : List Int) (hg : ∀ x ∈ xs, 0 ≤ g x) : ∀ j : Nat, j ≤ xs.length → rt g xs j = joinW (rws g (xs.take j))
  | 0, _ => rfl
  | j + 1, h => by
    have hj : j < xs.length := by omega
    have e : xs.take (j + 1) = xs.take j ++ [xs.getD j 0] := by
      rw [List.take_add_one, List.getD_eq_getElem?_getD, List.getElem?_eq_getElem hj]
      rfl
    have hm : xs.getD j 0 ∈ xs := by rw [List.getD_eq_getElem?_getD, List.getElem?_eq_getElem hj]; exact List.getElem_mem hj
    show rt g xs j ++ 32 :: Lib.itoa (g (xs.getD j 0)) = _
    rw [rt_take g xs hg j (by omega), e]
    unfold rws
    rw [List.map_append, joinW_app, itoa_dec (hg _ hm)]
    simp [joinW]
theorem rt_all (g : Int → Int) (xs : List Int) (hg : ∀ x ∈ xs, 0 ≤ g x) : rt g xs xs.length = joinW (rws g xs) := by
  rw [rt_take g xs hg xs.length (Nat.le_refl _), List.take_length]
theorem okw_rws (g : Int → Int) (xs : List Int) : ∀ u ∈ rws g xs, OKw u := fun u hu => by
  obtain ⟨x, hx, rfl⟩ := List.mem_map.1 hu
  exact okw_dec _
theorem rtO_rws {n : Nat} (hn : n < 2147483647) (g : Int → Int) : ∀ xs : List Int, (∀ x ∈ xs, 1 ≤ g x ∧ g x ≤ (n : Int)) → rtO (tsN n) (rws g xs) = some (xs.map g)
  | [], _ => rfl
  | x :: xs, h => by
    have h1 := h x (List.mem_cons_self ..)
    have ih := rtO_rws hn g xs (fun y hy => h y (List.mem_cons_of_mem _ hy))
    show (match ptO (tsN n) (Lib.decDigits (g x).toNat) with
      | none => none
      | some t => (rtO (tsN n) (rws g xs)).map (t :: ·)) = _
    rw [pt_dec h1.1 h1.2 (by omega), ih]
    rfl
/-- the roots are of the order -/
def RTS (O : List Nat) (xs : List Int) : Prop := ∀ x ∈ xs, ∃ j : Nat, j < O.length ∧ x = ((O.getD j 0 : Nat) : Int)
theorem RTS.at_ (h : RTS O xs) (hO : ORD L O) : ∀ x ∈ xs, ∃ j : Nat, j < O.length ∧ x = ((O.getD j 0 : Nat) : Int) ∧ plO O O.length x = (j : Int) + 1 := fun x hx => by
  obtain ⟨j, hj, e⟩ := h x hx
  exact ⟨j, hj, e, by rw [e]; exact plO_at hO O.length j hj (Nat.le_refl _)⟩
theorem RTS.bd (h : RTS O xs) (hO : ORD L O) : ∀ x ∈ xs, 1 ≤ plO O O.length x ∧ plO O O.length x ≤ (O.length : Int) := fun x hx => by
  obtain ⟨j, hj, e, e2⟩ := h.at_ hO x hx
  omega
theorem lgo_dump (hS : STO L) (hO : ORD L O) (hx : RTS O xs) : lgo [] (dumpT L O xs) = ((List.range O.length).map fun j => nl (txK L O) L O (0 + j)) ++ [rootsB ++ joinW (rws (plO O O.length) xs)] := by
  have hl : ∀ c ∈ rootsB ++ joinW (rws (plO O O.length) xs), c ≠ 10 := fun c hc => by
    rcases List.mem_append.1 hc with hc | hc
    · have : ∀ c ∈ rootsB, c ≠ 10 := by decide
      exact this c hc
    · exact join_sign (okw_rws _ _) c hc
  unfold dumpT
  rw [List.append_assoc, List.append_assoc, lgo_tx hS hO O.length (Nat.le_refl _), rt_all _ _ (fun x hx2 => by have := (hx.bd hO x hx2).1; omega)]
  congr 1
  have e : [114, 111, 111, 116, 115] ++ (joinW (rws (plO O O.length) xs) ++ [10]) = (rootsB ++ joinW (rws (plO O O.length) xs)) ++ 10 :: [] := by
    unfold rootsB
    simp
  rw [e, lgo_one hl]
  rfl
theorem wds_roots (g : Int → Int) (xs : List Int) : wds (rootsB ++ joinW (rws g xs)) = rootsB :: rws g xs :=
  wds_join (by decide) (fun u hu => ⟨(okw_rws g xs u hu).1, fun c hc => ((okw_rws g xs u hu).2 c hc).1⟩)
theorem tx_num (hS : STO L) (hO : ORD L O) (hl : O.length < 2147483647) : ∀ i, i < O.length → (kn L O i).op = 3 → numO (txK L O i) = some (kn L O i).num.toNat := fun i hi _ => by
  have hu := (kn_ok hO hS.ok hl hi).num
  unfold U64 at hu
  exact numO_tx (by omega)
/-- a dump, read -/
theorem ldG_dump (hS : STO L) (hO : ORD L O) (hl : O.length < 2147483647) (hx : RTS O xs) (lim : Int) (hlim : lim ≤ 0 ∨ (O.length : Int) ≤ lim) : ldG lim (lgo [] (dumpT L O xs)) [] [] = (KL L O O.length, xs.map (plO O O.length), 0, 0) := by
  rw [lgo_dump hS hO hx]
  exact ldG_run hS.good hO hS.ok hS.wds hl (tx_num hS hO hl) (fun i hi => wds_nl hS hO hi) lim hlim (wds_roots _ _) (rtO_rws hl _ xs (hx.bd hO)) O.length 0 (by omega)
theorem ldG_less (hS : STO L) (hO : ORD L O) (hl : O.length < 2147483647) (hx : RTS O xs) (k : Nat) (h1 : 1 ≤ k) (h2 : k < O.length) : ldG (k : Int) (lgo [] (dumpT L O xs)) [] [] = (KL L O k, [], k + 1, 4) := by
  rw [lgo_dump hS hO hx]
  exact ldG_full hS.good hO hS.ok hS.wds hl (tx_num hS hO hl) (fun i hi => wds_nl hS hO hi) k h1 h2 _ O.length 0 (by omega) (by omega)
end
end Go.Proofs.YtobgedjpghokcaaGreatDoor
namespace Go.Proofs.YtobgedjpghokcaaGreatDoor
open Go.Lib Go.Tm Go.Bw Go.Bn Go.Bd

/-- one store's terms are another's, by places -/
structure SIM (L K : List Nd) (S : Nat → Prop) (f : Nat → Nat) : Prop where
  zero : f 0 = 0
  pos : ∀ x, S x → 0 < x ∧ 0 < f x
  inj : ∀ x y, S x → S y → f x = f y → x = y
  a : ∀ t, S t → pA K (f t) = f (pA L t) ∧ (pA L t = 0 ∨ S (pA L t))
  b : ∀ t, S t → pB K (f t) = f (pB L t) ∧ (pB L t = 0 ∨ S (pB L t))
  c : ∀ t, S t → pC K (f t) = f (pC L t) ∧ (pC L t = 0 ∨ S (pC L t))
  rng : ∀ x, S x → x ≤ L.length ∧ f x ≤ K.length
section
variable {L K : List Nd} {S : Nat → Prop} {f : Nat → Nat}
theorem SIM.has (h : SIM L K S f) {o : List Nat} (ho : ∀ x ∈ o, S x) {x : Nat} (hx : S x) : (o.map f).contains (f x) = o.contains x := by
  rw [Bool.eq_iff_iff, List.contains_iff_mem, List.contains_iff_mem, List.mem_map]
  constructor
  · rintro ⟨y, hy, e⟩
    rw [← h.inj y x (ho y hy) hx e]
    exact hy
  · exact fun hm => ⟨x, hm, rfl⟩
theorem SIM.opn (h : SIM L K S f) {o : List Nat} (ho : ∀ x ∈ o, S x) {x : Nat} (hx : x = 0 ∨ S x) : Tm.opn (o.map f) (f x) = Tm.opn o x := by
  unfold Tm.opn
  rcases hx with e | hx
  · rw [e, h.zero]
    rfl
  · rw [h.has ho hx, decide_eq_true (h.pos x hx).1, decide_eq_true (h.pos x hx).2]
theorem SIM.unt (h : SIM L K S f) {o : List Nat} (ho : ∀ x ∈ o, S x) {t : Nat} (ht : S t) : Tm.unt K (o.map f) (f t) = f (Tm.unt L o t) ∧ (Tm.unt L o t = 0 ∨ S (Tm.unt L o t)) := by
  obtain ⟨a1, a2⟩ := h.a t ht
  obtain ⟨b1, b2⟩ := h.b t ht
  obtain ⟨c1, c2⟩ := h.c t ht
  unfold Tm.unt
  rw [a1, b1, c1, h.opn ho a2, h.opn ho b2, h.opn ho c2]
  split
  · exact ⟨rfl, a2⟩
  · split
    · exact ⟨rfl, b2⟩
    · split
      · exact ⟨rfl, c2⟩
      · exact ⟨h.zero.symm, Or.inl rfl⟩
theorem SIM.fin (h : SIM L K S f) (hPL : PAR L) (hPK : PAR K) : ∀ (m : Nat) (o p : List Nat), PW L o p → PW K (o.map f) (p.map f) → (∀ x ∈ o, S x) → (∀ x ∈ p, S x) → mu L o p = m → Tm.fin K (mu K (o.map f) (p.map f)) (o.map f) (p.map f) = (Tm.fin L (mu L o p) o p).map f
  | m, o, [], _, _, _, _, _ => by rw [List.map_nil, fin_nil, fin_nil]
  | 0, o, t :: p, hw, _, _, _, hm => by
    have := hw.len
    unfold mu at hm
    simp at this hm
    omega
  | m + 1, o, t :: p, hw, hk, ho, hp, hm => by
    have ht := hp t (List.mem_cons_self ..)
    obtain ⟨u1, u2⟩ := h.unt ho ht
    by_cases hu : Tm.unt L o t = 0
    · have hu2 : Tm.unt K (o.map f) (f t) = 0 := by rw [u1, hu, h.zero]
      rw [List.map_cons] at hk ⊢
      have ih := SIM.fin h hPL hPK m (o ++ [t]) p (hw.tell hu) (by rw [List.map_append]; exact hk.tell hu2) (fun x hx => by
        rcases List.mem_append.1 hx with e | e
        · exact ho x e
        · rw [List.mem_singleton.1 e]; exact ht) (fun x hx => hp x (List.mem_cons_of_mem _ hx)) (by have := mu_tell hw; omega)
      rw [fin_tell hw hu, fin_tell hk hu2, ← ih, List.map_append]
      rfl
    · have hS : S (Tm.unt L o t) := u2.resolve_left hu
      have hu2 : Tm.unt K (o.map f) (f t) ≠ 0 := by rw [u1]; have := (h.pos _ hS).2; omega
      rw [List.map_cons] at hk ⊢
      have ih := SIM.fin h hPL hPK m o (Tm.unt L o t :: t :: p) (hw.push hPL hu) (by rw [List.map_cons, List.map_cons, ← u1]; exact hk.push hPK hu2) ho (fun x hx => by
        rcases List.mem_cons.1 hx with e | e
        · rw [e]; exact hS
        · exact hp x e) (by have := mu_push (x := Tm.unt L o t) hw; omega)
      rw [fin_push hw hu, fin_push hk hu2, ← ih, List.map_cons, List.map_cons, u1]
theorem SIM.og1 (h : SIM L K S f) (hPL : PAR L) (hPK : PAR K) {o : List Nat} {r : Nat} (hw : PW L o []) (hk : PW K (o.map f) []) (ho : ∀ x ∈ o, S x) (hr : S r) : Tm.og1 K (o.map f) (f r) = (Tm.og1 L o r).map f := by
  unfold Tm.og1
  rw [h.has ho hr]
  by_cases hc : o.contains r = true
  · rw [if_pos hc, if_pos hc]
  · rw [if_neg hc, if_neg hc]
    have hn : r ∉ o := by simpa using hc
    have hn2 : f r ∉ o.map f := fun hm => by
      have := h.has ho hr
      rw [List.contains_iff_mem.2 hm] at this
      exact hc this.symm
    have q1 := h.pos r hr
    have q2 := h.rng r hr
    exact SIM.fin h hPL hPK _ o [r] (hw.root q1.1 q2.1 hn) (hk.root q1.2 q2.2 hn2) ho (fun x hx => by rw [List.mem_singleton.1 hx]; exact hr) rfl
theorem triv_ld (L : List Nd) (o : List Nat) : LD L (fun _ => True) o [] := ⟨fun _ _ _ _ => Or.inl trivial, fun _ _ _ _ => Or.inl trivial⟩
/-- the order of the one, told by places, is the order of the other -/
theorem SIM.og (h : SIM L K S f) (hPL : PAR L) (hPK : PAR K) : ∀ (rs o : List Nat), PW L o [] → PW K (o.map f) [] → (∀ x ∈ Tm.og L o rs, S x) → (∀ r ∈ rs, S r) → Tm.og K (o.map f) (rs.map f) = (Tm.og L o rs).map f
  | [], o, _, _, _, _ => rfl
  | r :: rs, o, hw, hk, hall, hr => by
    have hSr := hr r (List.mem_cons_self ..)
    have q1 := h.pos r hSr
    have q2 := h.rng r hSr
    obtain ⟨w1, _, _, w4⟩ := og1_ok hPL hw (triv_ld L o) q1.1 q2.1 (R := fun _ => True) trivial
    obtain ⟨k1, _, _, _⟩ := og1_ok hPK hk (triv_ld K _) q1.2 q2.2 (R := fun _ => True) trivial
    have hall' : ∀ x ∈ Tm.og L (Tm.og1 L o r) rs, S x := hall
    have hsub : ∀ x ∈ Tm.og1 L o r, S x := fun x hx => hall' x ((og_ok (R := fun _ => True) hPL rs (Tm.og1 L o r) w1 (triv_ld L _) (fun y hy => by
      have hSy := hr y (List.mem_cons_of_mem _ hy)
      exact ⟨(h.pos y hSy).1, (h.rng y hSy).1, trivial⟩)).2.2.2 x hx)
    have e1 := SIM.og1 h hPL hPK hw hk (fun x hx => hsub x (w4 x hx)) hSr
    show Tm.og K (Tm.og1 K (o.map f) (f r)) (rs.map f) = (Tm.og L (Tm.og1 L o r) rs).map f
    rw [e1] at k1 ⊢
    exact SIM.og h hPL hPK rs (Tm.og1 L o r) w1 k1 hall' (fun y hy => hr y (List.mem_cons_of_mem _ hy))
end
end Go.Proofs.YtobgedjpghokcaaGreatDoor
namespace Go.Proofs.YtobgedjpghokcaaGreatDoor
open Go.Lib Go.Tm Go.Bw Go.Bn Go.Bd

section
variable {L : List Nd} {O : List Nat}
theorem KL_pars (hS : STO L) (hO : ORD L O) : ∀ i : Nat, i ≤ O.length → PARS (KL L O i)
  | 0, _ => par_nil
  | i + 1, h => par_snoc (KL_pars hS hO i (by omega)) (kn_step hS.good hO (by omega)).1
theorem KL_good (hS : STO L) (hO : ORD L O) : ∀ i : Nat, i ≤ O.length → GoodL (KL L O i)
  | 0, _ => good_nil
  | i + 1, h => good_snoc (KL_good hS hO i (by omega)) (kn_step hS.good hO (by omega)).1 (kn_step hS.good hO (by omega)).2
theorem KL_mem : ∀ {i : Nat} {n : Nd}, n ∈ KL L O i → ∃ j, j < i ∧ n = kn L O j
  | 0, n, h => by cases h
  | i + 1, n, h => by
    rcases List.mem_append.1 h with e | e
    · obtain ⟨j, h1, h2⟩ := KL_mem e
      exact ⟨j, by omega, h2⟩
    · exact ⟨i, by omega, List.mem_singleton.1 e⟩
theorem KL_sto (hS : STO L) (hO : ORD L O) (hl : O.length < 2147483647) : STO (KL L O O.length) :=
  ⟨KL_good hS hO _ (Nat.le_refl _), KL_pars hS hO _ (Nat.le_refl _), fun n hn => by obtain ⟨j, h1, rfl⟩ := KL_mem hn; exact kn_ok hO hS.ok hl h1, KL_wds hO hS.wds _ (Nat.le_refl _)⟩
/-- a term's place -/
def plN (O : List Nat) (t : Nat) : Nat := (plO O O.length (t : Int)).toNat
theorem plN_at (hO : ORD L O) {j : Nat} (hj : j < O.length) : plN O (O.getD j 0) = j + 1 := by
  unfold plN
  rw [plO_at hO O.length j hj (Nat.le_refl _)]
  omega
theorem plN_zero (hO : ORD L O) : plN O 0 = 0 := by
  unfold plN
  rw [show ((0 : Nat) : Int) = 0 from rfl, plO_zero hO O.length (Nat.le_refl _)]
  rfl
/-- the same of one part: x the part, y the part of the place's node -/
theorem part_sim (hO : ORD L O) {i : Nat} (hi : i < O.length) {p : Int} (hp : p = (L.getD (O.getD i 0 - 1) z0).a ∨ p = (L.getD (O.getD i 0 - 1) z0).b ∨ p = (L.getD (O.getD i 0 - 1) z0).c) : (plO O (i + 1) p).toNat = plN O p.toNat ∧ (p.toNat = 0 ∨ ∃ j, j < O.length ∧ p.toNat = O.getD j 0) := by
  rcases part_at hO hi hp with ⟨e1, e2⟩ | ⟨j, hj, e1, e2⟩
  · subst e1
    rw [e2]
    exact ⟨(plN_zero hO).symm, Or.inl rfl⟩
  · have e3 : p.toNat = O.getD j 0 := by omega
    rw [e2, e3, plN_at hO (by omega)]
    exact ⟨by omega, Or.inr ⟨j, by omega, rfl⟩⟩
theorem sim_kl (hO : ORD L O) : SIM L (KL L O O.length) (fun x => ∃ j, j < O.length ∧ x = O.getD j 0) (plN O) := by
  have gt : ∀ j, j < O.length → (KL L O O.length).getD (plN O (O.getD j 0) - 1) z0 = kn L O j := fun j hj => by
    rw [plN_at hO hj, Nat.add_sub_cancel]
    exact KL_get O.length j hj
  refine ⟨plN_zero hO, ?_, ?_, ?_, ?_, ?_, ?_⟩
  · rintro x ⟨j, hj, rfl⟩
    rw [plN_at hO hj]
    have := hO.rng j hj
    omega
  · rintro x y ⟨i, hi, rfl⟩ ⟨j, hj, rfl⟩ e
    rw [plN_at hO hi, plN_at hO hj] at e
    have : i = j := by omega
    rw [this]
  · rintro t ⟨j, hj, rfl⟩
    have h := part_sim hO hj (Or.inl rfl)
    unfold pA
    rw [gt j hj]
    exact h
  · rintro t ⟨j, hj, rfl⟩
    have h := part_sim hO hj (Or.inr (Or.inl rfl))
    unfold pB
    rw [gt j hj]
    exact h
  · rintro t ⟨j, hj, rfl⟩
    have h := part_sim hO hj (Or.inr (Or.inr rfl))
    unfold pC
    rw [gt j hj]
    exact h
  · rintro x ⟨j, hj, rfl⟩
    rw [plN_at hO hj, KL_len]
    have := hO.rng j hj
    omega
theorem getD_in {l : List Nat} {j : Nat} (h : j < l.length) : l.getD j 0 ∈ l := by
  rw [List.getD_eq_getElem?_getD, List.getElem?_eq_getElem h]
  exact List.getElem_mem h
theorem in_getD {l : List Nat} {x : Nat} (h : x ∈ l) : ∃ j, j < l.length ∧ x = l.getD j 0 := by
  obtain ⟨j, hj, e⟩ := List.getElem_of_mem h
  exact ⟨j, hj, by rw [List.getD_eq_getElem?_getD, List.getElem?_eq_getElem hj, ← e]; rfl⟩
/-- an order is one -/
theorem ord_of {xs : List Int} (hP : PAR L) (hr : ∀ x ∈ xs, isT L x = true) : ORD L (og L [] (toN xs)) ∧ RTS (og L [] (toN xs)) xs ∧ (og L [] (toN xs)).length ≤ L.length := by
  have hb : ∀ r ∈ toN xs, 1 ≤ r ∧ r ≤ L.length ∧ True := fun r hr2 => by
    obtain ⟨x, hx, rfl⟩ := List.mem_map.1 hr2
    have : 1 ≤ x ∧ x ≤ (L.length : Int) := of_decide_eq_true (hr x hx)
    exact ⟨by omega, by omega, trivial⟩
  obtain ⟨h1, h2, h3, _⟩ := og_ok (R := fun _ => True) hP (toN xs) [] (PW.nil L) (triv_ld L []) hb
  generalize og L [] (toN xs) = O at *
  refine ⟨⟨fun j hj => h1.ob _ (getD_in hj), fun i j hi hj e => ?_, fun i hi p hp => ?_⟩, fun x hx => ?_, by have := h1.len; simp at this; omega⟩
  · rw [List.getD_eq_getElem?_getD, List.getD_eq_getElem?_getD, List.getElem?_eq_getElem hi, List.getElem?_eq_getElem hj] at e
    have hn := List.pairwise_iff_getElem.1 h1.on
    have e' : O[i] = O[j] := by simpa using e
    rcases Nat.lt_trichotomy i j with h | h | h
    · exact absurd e' (hn i j hi hj h)
    · exact h
    · exact absurd e'.symm (hn j i hj hi h)
  · obtain ⟨r1, r2⟩ := h1.ob _ (getD_in hi)
    have hpar := hP (O.getD i 0 - 1) (by omega)
    by_cases h0 : p = 0
    · exact Or.inl h0
    right
    have hp0 : 0 ≤ p := by omega
    have hsplit : O = O.take i ++ O.getD i 0 :: O.drop (i + 1) := by
      rw [List.getD_eq_getElem?_getD, List.getElem?_eq_getElem hi]
      show O = O.take i ++ O[i] :: O.drop (i + 1)
      rw [List.getElem_cons_drop, List.take_append_drop]
    have hm := h1.cl _ _ _ hsplit p.toNat ⟨by omega, by unfold pA pB pC; omega⟩
    obtain ⟨j, hj, e⟩ := in_getD hm
    rw [List.length_take] at hj
    refine ⟨j, by omega, ?_⟩
    have e2 : (O.take i).getD j 0 = O.getD j 0 := by
      rw [List.getD_eq_getElem?_getD, List.getElem?_take_of_lt (by omega), List.getD_eq_getElem?_getD]
    omega
  · have hx2 : 1 ≤ x ∧ x ≤ (L.length : Int) := of_decide_eq_true (hr x hx)
    obtain ⟨j, hj, e⟩ := in_getD (h3 x.toNat (List.mem_map.2 ⟨x, hx, rfl⟩))
    exact ⟨j, hj, by omega⟩
/-- the places in their order -/
def upN (n : Nat) : List Nat := (List.range n).map (· + 1)
theorem upN_len (n : Nat) : (upN n).length = n := by unfold upN; simp
theorem upN_get {n j : Nat} (h : j < n) : (upN n).getD j 0 = j + 1 := by
  unfold upN
  rw [List.getD_eq_getElem?_getD, List.getElem?_map, List.getElem?_range h]
  rfl
theorem ord_map (hO : ORD L O) : O.map (plN O) = upN O.length := by
  apply List.ext_getElem
  · rw [List.length_map, upN_len]
  · intro j h1 h2
    rw [List.length_map] at h1
    have e1 : O.getD j 0 = O[j] := by rw [List.getD_eq_getElem?_getD, List.getElem?_eq_getElem h1]; rfl
    have e2 := upN_get (n := O.length) h1
    rw [List.getD_eq_getElem?_getD, List.getElem?_eq_getElem h2] at e2
    have e3 : (upN O.length)[j] = j + 1 := e2
    rw [List.getElem_map, e3, ← e1, plN_at hO h1]
/-- the order of what was read -/
theorem og_kl (hS : STO L) {xs : List Int} (hr : ∀ x ∈ xs, isT L x = true) (hOe : og L [] (toN xs) = O) : og (KL L O O.length) [] (toN (xs.map (plO O O.length))) = upN O.length := by
  obtain ⟨hO, hx, hl⟩ := ord_of hS.par.1 hr
  rw [hOe] at hO hx hl
  have hall : ∀ x ∈ og L [] (toN xs), ∃ j, j < O.length ∧ x = O.getD j 0 := by rw [hOe]; exact fun x hx => in_getD hx
  have hrs : ∀ r ∈ toN xs, ∃ j, j < O.length ∧ r = O.getD j 0 := fun r hr2 => by
    obtain ⟨x, hx2, rfl⟩ := List.mem_map.1 hr2
    obtain ⟨j, hj, e⟩ := hx x hx2
    exact ⟨j, hj, by omega⟩
  have h := (sim_kl hO).og hS.par.1 (KL_pars hS hO _ (Nat.le_refl _)).1 (toN xs) [] (PW.nil L) (PW.nil _) hall hrs
  rw [hOe, ord_map hO] at h
  rw [← h]
  have e : toN (xs.map (plO O O.length)) = (toN xs).map (plN O) := by
    unfold toN
    rw [List.map_map, List.map_map]
    apply List.map_congr_left
    intro x hx2
    obtain ⟨j, hj, e, e2⟩ := hx.at_ hO x hx2
    show (plO O O.length x).toNat = plN O x.toNat
    unfold plN
    rw [show ((x.toNat : Nat) : Int) = x by omega]
  rw [e]
  rfl
theorem ord_kl (hO : ORD L O) : ORD (KL L O O.length) (upN O.length) := by
  refine ⟨fun j hj => ?_, fun i j hi hj e => ?_, fun i hi p hp => ?_⟩
  · rw [upN_len] at hj
    rw [upN_get hj, KL_len]
    omega
  · rw [upN_len] at hi hj
    rw [upN_get hi, upN_get hj] at e
    omega
  · rw [upN_len] at hi
    rw [upN_get hi, Nat.add_sub_cancel, KL_get O.length i hi] at hp
    have h : ∀ q, (q = (L.getD (O.getD i 0 - 1) z0).a ∨ q = (L.getD (O.getD i 0 - 1) z0).b ∨ q = (L.getD (O.getD i 0 - 1) z0).c) → p = plO O (i + 1) q → p = 0 ∨ ∃ j, j < i ∧ p = (((upN O.length).getD j 0 : Nat) : Int) := fun q hq e => by
      rcases part_at hO hi hq with ⟨e1, e2⟩ | ⟨j, hj, e1, e2⟩
      · left; rw [e, e2]
      · right
        refine ⟨j, hj, ?_⟩
        rw [upN_get (by omega), e, e2]
        rfl
    rcases hp with e | e | e
    · exact h _ (Or.inl rfl) e
    · exact h _ (Or.inr (Or.inl rfl)) e
    · exact h _ (Or.inr (Or.inr rfl)) e
theorem pl_up (hO : ORD L O) {i j : Nat} (hi : i ≤ O.length) (hj : j < i) : plO (upN O.length) i ((j : Int) + 1) = (j : Int) + 1 := by
  have h := plO_at (ord_kl hO) i j hj (by rw [upN_len]; exact hi)
  rw [upN_get (by omega)] at h
  exact h
/-- what was read has the places' nodes at its places -/
theorem kn_up (hO : ORD L O) {i : Nat} (hi : i < O.length) : kn (KL L O O.length) (upN O.length) i = kn L O i := by
  unfold kn
  rw [upN_get hi, Nat.add_sub_cancel, KL_get O.length i hi]
  have h : ∀ q, (q = (L.getD (O.getD i 0 - 1) z0).a ∨ q = (L.getD (O.getD i 0 - 1) z0).b ∨ q = (L.getD (O.getD i 0 - 1) z0).c) → plO (upN O.length) (i + 1) (plO O (i + 1) q) = plO O (i + 1) q := fun q hq => by
    rcases part_at hO hi hq with ⟨e1, e2⟩ | ⟨j, hj, e1, e2⟩
    · rw [e2]
      exact plO_zero (ord_kl hO) (i + 1) (by rw [upN_len]; omega)
    · rw [e2]
      exact pl_up hO (by omega) (by omega)
  have ha := h _ (Or.inl rfl)
  have hb := h _ (Or.inr (Or.inl rfl))
  have hc := h _ (Or.inr (Or.inr rfl))
  unfold kn ren
  simp only
  rw [ha, hb, hc]
theorem tx_up (hS : STO L) (hO : ORD L O) (hl : O.length < 2147483647) : ∀ i : Nat, i ≤ O.length → tx (KL L O O.length) (upN O.length) i = tx L O i
  | 0, _ => rfl
  | i + 1, h => by
    have hi : i < O.length := by omega
    rw [tx_succ, tx_succ, ndT_nl hS hO hi, ndT_nl (KL_sto hS hO hl) (ord_kl hO) (by rw [upN_len]; exact hi), tx_up hS hO hl i (by omega)]
    unfold nl txK
    rw [kn_up hO hi]
/-- the second dump is the first -/
theorem dump_up (hS : STO L) (hO : ORD L O) (hl : O.length < 2147483647) {xs : List Int} (hx : RTS O xs) : dumpT (KL L O O.length) (upN O.length) (xs.map (plO O O.length)) = dumpT L O xs := by
  have hb := hx.bd hO
  have e1 : ∀ x ∈ xs, plO (upN O.length) O.length (plO O O.length x) = plO O O.length x := fun x hx2 => by
    obtain ⟨j, hj, e, e2⟩ := hx.at_ hO x hx2
    rw [e2]
    exact pl_up hO (Nat.le_refl _) hj
  unfold dumpT
  rw [upN_len, tx_up hS hO hl O.length (Nat.le_refl _), rt_all _ _ (fun y hy => by
    obtain ⟨x, hx2, rfl⟩ := List.mem_map.1 hy
    rw [e1 x hx2]
    have := (hb x hx2).1
    omega), rt_all _ _ (fun x hx2 => by have := (hb x hx2).1; omega)]
  congr 3
  unfold rws
  rw [List.map_map]
  apply List.map_congr_left
  intro x hx2
  show Lib.decDigits (plO (upN O.length) O.length (plO O O.length x)).toNat = _
  rw [e1 x hx2]
theorem good_res {lim : Int} (h : GoodL L) (o : OPR) : GoodL (res lim L o).1 := by
  unfold Go.Proofs.YtobgedjpghokcaaGreatDoor.res
  split
  · exact good_mk h
  · exact h
end
end Go.Proofs.YtobgedjpghokcaaGreatDoor
