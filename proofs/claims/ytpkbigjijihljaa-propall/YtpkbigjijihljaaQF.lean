import Derived.Test.YtpkbigjijihljaaEO
import Derived.Test.YtpkbigjijihljaaQB
import Derived.Test.YtpkbigjijihljaaRG
import Derived.Test.YtpkbigjijihljaaEU
import Derived.Test.YtpkbigjijihljaaET
import Derived.Test.YtpkbigjijihljaaEQ
namespace Go.Proofs.Ytpkbigjijihljaa
open Go.Pr
theorem val_es0 (n c : Nat) (hc : 1 ≤ c) : (es0 n).val c = 0 := by
  obtain ⟨d, rfl⟩ : ∃ d, c = d + 1 := ⟨c - 1, by omega⟩
  show ((-1) :: List.replicate (2 * n + 1) 0).getD (d + 1) 0 = (0 : Int)
  rw [List.getD_eq_getElem?_getD, List.getElem?_cons_succ, List.getElem?_replicate]
  split <;> rfl
theorem watch_es0 (n c : Nat) : (es0 n).watch c = [] := by
  show (List.replicate (2 * n + 2) ([] : List (Nat × Nat))).getD c [] = []
  rw [List.getD_eq_getElem?_getD, List.getElem?_replicate]
  split <;> rfl
theorem wf0 {n : Nat} (hn : n ≤ 1048576) : WF (es0 n) where
  n := hn
  lits := fun _ h => absurd h List.not_mem_nil
  litl := Nat.zero_le _
  cls := fun _ h => absurd h List.not_mem_nil
  cll := Nat.zero_le _
  met := Nat.le_refl _
  vall := by show ((-1) :: List.replicate (2 * n + 1) (0 : Int)).length = 2 * n + 2; simp
  val3 := fun x hx => by
    have h5 : x ∈ (-1) :: List.replicate (2 * n + 1) (0 : Int) := hx
    rcases List.mem_cons.1 h5 with h | h
    · exact Or.inl h
    · exact Or.inr (Or.inl (List.eq_of_mem_replicate h))
  val0 := rfl
  valx := fun c h1 h2 => by
    have ho := opp_lt h1 h2
    rw [val_es0 n c (by omega), val_es0 n (opp c) (by omega)]
    rfl
  givl := by show (List.replicate (n + 1) ((0 : Nat), some 0)).length = n + 1; simp
  wtl := by show (List.replicate (2 * n + 2) ([] : List (Nat × Nat))).length = 2 * n + 2; simp
  wat := fun ws h e he => by
    have h5 : ws ∈ List.replicate (2 * n + 2) ([] : List (Nat × Nat)) := h
    rw [List.eq_of_mem_replicate h5] at he
    exact absurd he List.not_mem_nil
  tr := fun _ h => absurd h List.not_mem_nil
  trd := List.nodup_nil
  trv := fun c h1 _ h => by
    rw [val_es0 n c (by omega)] at h
    exact absurd h (by decide)
  head := Nat.le_refl _
  mks := fun _ h => absurd h List.not_mem_nil
  mkd := List.Pairwise.nil
  tks := fun _ h => absurd h List.not_mem_nil
  dn := Nat.le_refl _
  clash := fun _ h => absurd h (by show ¬ none = some _; simp)
theorem full0 {n : Nat} (hn : n ≤ 1048576) : FULL (es0 n) where
  inv := {
    wf := wf0 hn
    g0 := by
      show ((List.replicate (n + 1) ((0 : Nat), some 0)).getD 0 (0, none)).1 = 0
      rw [List.getD_eq_getElem?_getD, List.getElem?_replicate]
      split <;> rfl
    lvb := fun c h1 h2 => absurd (val_es0 n c (by omega)) h2
    tst := fun _ h => absurd h List.not_mem_nil
    un := fun k h => absurd h (Nat.not_lt_zero k)
    wm := fun k h => absurd h (Nat.not_lt_zero k)
    ok := fun k h => absurd h (Nat.not_lt_zero k)
    ent := fun x _ e he => by
      rw [watch_es0] at he
      exact absurd he List.not_mem_nil
    nd := fun x _ => by rw [watch_es0]; exact List.nodup_nil
    lst := fun k h => absurd h (Nat.not_lt_zero k) }
  tks := {
    srt := fun _ j _ h => absurd h (Nat.not_lt_zero j)
    lvs := fun j h => absurd h (Nat.not_lt_zero j)
    pnd := fun j h => absurd h (Nat.not_lt_zero j)
    non := fun _ h => absurd h List.not_mem_nil
    som := fun _ h => absurd h List.not_mem_nil
    key := List.nodup_nil }
  snd := {
    lvp := fun i h => absurd h (Nat.not_lt_zero i)
    rsn := fun i h => absurd h (Nat.not_lt_zero i)
    dec := fun i h => absurd h (Nat.not_lt_zero i)
    cla := fun _ h => absurd h (by show ¬ none = some _; simp) }
  new := fun k _ => by
    show (([] : List CL).getD k cl0).a = 0
    rfl
end Go.Proofs.Ytpkbigjijihljaa
namespace Go.Proofs.Ytpkbigjijihljaa
open Go.Pr
/-- the literals of an engine with their levels -/
def prs (S : ES) : List (Int × Int) := S.trail.map fun c => (litI c, (S.lvl c : Int))
/-- an engine and the document's -/
structure REL (S : ES) (R : RS) : Prop where
  full : FULL S
  n : R.n = S.n
  level : R.level = S.marks.length
  lits : R.lits = S.lits.length
  all : R.all = allI S
  bad : R.bad = true ↔ S.clash ≠ none
  once : Once (fst R.tr)
  bnd : ∀ x ∈ fst R.tr, x ≠ 0 ∧ -(R.n : Int) ≤ x ∧ x ≤ R.n
  lvs : ∀ x ∈ R.tr, x.2 ≤ (R.level : Int)
  tr : ∀ (m v : Int), R.bad = false ∨ v < (R.level : Int) → ((m, v) ∈ R.tr ↔ (m, v) ∈ prs S)
def rs0 (n : Nat) : RS := ⟨n, 0, 0, [], [], false⟩
theorem REL.zero {n : Nat} (hn : n ≤ 1048576) : REL (es0 n) (rs0 n) where
  full := full0 hn
  n := rfl
  level := rfl
  lits := rfl
  all := rfl
  bad := ⟨fun h => absurd h (by show ¬ false = true; simp), fun h => absurd rfl h⟩
  once := List.Pairwise.nil
  bnd := fun _ h => absurd h List.not_mem_nil
  lvs := fun _ h => absurd h List.not_mem_nil
  tr := fun _ _ _ => Iff.rfl
theorem fst_prs (S : ES) : fst (prs S) = S.trail.map litI := by
  unfold fst prs
  rw [List.map_map]
  rfl
theorem mem_fst {tr : List (Int × Int)} {m : Int} : m ∈ fst tr ↔ ∃ v, (m, v) ∈ tr := by
  unfold fst
  rw [List.mem_map]
  constructor
  · rintro ⟨⟨a, v⟩, h, rfl⟩
    exact ⟨v, h⟩
  · rintro ⟨v, h⟩
    exact ⟨_, h, rfl⟩
theorem hasB_of {n : Nat} {l : Int} (h : l ≠ 0 ∧ -(n : Int) ≤ l ∧ l ≤ n) : hasB n l = true := by
  unfold hasB
  simp [h.1, h.2.1, h.2.2]
theorem REL.rw {S : ES} {R : RS} (h : REL S R) : RW R where
  n := by rw [h.n]; exact h.full.inv.wf.n
  level := by rw [h.level]; have := WF.marks_len h.full.inv.wf; have := h.full.inv.wf.n; omega
  lits := by rw [h.lits]; exact h.full.inv.wf.litl
  alll := by rw [h.all]; unfold allI; rw [List.length_map, List.length_range]; exact h.full.inv.wf.cll
  all := fun c hc => by
    rw [h.all] at hc
    obtain ⟨k, hk, rfl⟩ := mem_allI.1 hc
    have hw := h.full.inv.wf
    refine ⟨?_, fun x hx => ?_⟩
    · rw [List.length_map, hw.inside_len hk]
      exact (hw.clause_ok hk).2.2.1
    · obtain ⟨z, hz, rfl⟩ := List.mem_map.1 hx
      have hz2 := hw.inside_mem hz
      rw [h.n]
      exact hasB_of ⟨litI_ne hz2.1, (litI_le hz2.2).1, (litI_le hz2.2).2⟩
  once := h.once
  bnd := h.bnd
theorem REL.mem {S : ES} {R : RS} (h : REL S R) (hb : R.bad = false) (m : Int) : m ∈ fst R.tr ↔ m ∈ tl S := by
  unfold tl
  rw [List.mem_reverse, ← fst_prs, mem_fst, mem_fst]
  exact exists_congr fun v => h.tr m v (Or.inl hb)
theorem REL.clash {S : ES} {R : RS} (h : REL S R) (hb : R.bad = false) : S.clash = none := by
  cases hc : S.clash with
  | none => rfl
  | some k =>
    have := h.bad.2 (by rw [hc]; simp)
    rw [hb] at this
    cases this
theorem REL.nobad {S : ES} {R : RS} (h : REL S R) (hc : S.clash = none) : R.bad = false := by
  cases hb : R.bad with
  | false => rfl
  | true => exact absurd hc (h.bad.1 hb)
/-- Add -/
theorem allI_len (S : ES) : (allI S).length = S.cls.length := by unfold allI; rw [List.length_map, List.length_range]
theorem allI_add {S : ES} (hw : WF S) (c : List Nat) : allI (S.add c) = allI S ++ [c.map litI] := by
  unfold allI
  have e : (S.add c).cls.length = S.cls.length + 1 := by show (S.cls ++ [_]).length = _; simp
  rw [e, List.range_succ, List.map_append, List.map_singleton, add_inside_new]
  congr 1
  exact List.map_congr_left fun k hk => by rw [add_inside hw (List.mem_range.1 hk)]
theorem code_of {n : Nat} {l : Int} (h : hasB n l = true) : 2 ≤ codeN l ∧ codeN l < 2 * n + 2 := by
  have := hasB_lt' h
  exact ⟨code_ge this.1, code_lt this.2.1 this.2.2⟩
theorem REL.addE {S : ES} {R : RS} (h : REL S R) (xs : List Int) : raddE R xs = Go.Proofs.Ytpkbigjijihljaa.addE S xs := by
  unfold raddE Go.Proofs.Ytpkbigjijihljaa.addE
  rw [h.n, h.lits, h.all, allI_len]
theorem REL.add {S : ES} {R : RS} (h : REL S R) (xs : List Int) : REL (addS S xs) (raddS R xs) := by
  unfold addS raddS
  rw [h.addE]
  by_cases h0 : Go.Proofs.Ytpkbigjijihljaa.addE S xs = 0
  · rw [if_pos h0, if_pos h0]
    have hc : xs.all (hasB S.n) = true ∧ xs.length ≤ 65536 ∧ S.cls.length < 1048576 ∧ S.lits.length + xs.length ≤ 4194304 := by
      unfold Go.Proofs.Ytpkbigjijihljaa.addE at h0
      split at h0
      · next h1 =>
        split at h0
        · exact absurd h0 (by decide)
        · split at h0
          · exact absurd h0 (by decide)
          · exact ⟨h1, by omega, by omega, by omega⟩
      · exact absurd h0 (by decide)
    obtain ⟨c1, c2, c3, c4⟩ := hc
    have hw := h.full.inv.wf
    have hcod : ∀ x ∈ xs.map codeN, 2 ≤ x ∧ x < 2 * S.n + 2 := fun x hx => by
      obtain ⟨l, hl, rfl⟩ := List.mem_map.1 hx
      exact code_of (List.all_eq_true.1 c1 l hl)
    have hback : (xs.map codeN).map litI = xs := by
      rw [List.map_map]
      conv => rhs; rw [← List.map_id xs]
      exact List.map_congr_left fun l _ => litI_code l
    have hle : (xs.map codeN).length = xs.length := List.length_map _
    exact {
      full := h.full.add hcod (by rw [hle]; exact c4) c3 (by rw [hle]; exact c2)
      n := h.n
      level := h.level
      lits := by show R.lits + xs.length = (S.lits ++ xs.map codeN).length; rw [List.length_append, hle, h.lits]
      all := by show R.all ++ [xs] = _; rw [allI_add hw, hback, h.all]
      bad := h.bad
      once := h.once
      bnd := h.bnd
      lvs := h.lvs
      tr := h.tr }
  · rw [if_neg h0, if_neg h0]
    exact h
end Go.Proofs.Ytpkbigjijihljaa
namespace Go.Proofs.Ytpkbigjijihljaa
open Go.Pr
theorem val_tl {S : ES} (hw : WF S) {l : Int} (h : hasB S.n l = true) : (S.val (codeN l) = 1 ↔ l ∈ tl S) ∧ (S.val (codeN l) = -1 ↔ -l ∈ tl S) := by
  have hc := code_of h
  have e := litI_code l
  have h1 := mem_tl hw hc.1 hc.2
  have h2 := mem_tl_neg hw hc.1 hc.2
  rw [e] at h1 h2
  exact ⟨h1.symm, h2.symm⟩
theorem REL.val {S : ES} {R : RS} (h : REL S R) (hb : R.bad = false) {l : Int} (hl : hasB S.n l = true) : rof l R.tr = S.val (codeN l) := by
  have hw := h.full.inv.wf
  have hr := rof_pos (l := l) h.once (fun x hx => (h.bnd x hx).1)
  have hv := val_tl hw hl
  rcases hw.val_of (codeN l) with e | e | e
  · rw [e]; exact hr.2.1 ((h.mem hb _).2 (hv.2.1 e))
  · rw [e]
    refine hr.2.2 (fun h5 => ?_) (fun h5 => ?_)
    · have := hv.1.2 ((h.mem hb _).1 h5)
      rw [e] at this
      exact absurd this (by decide)
    · have := hv.2.2 ((h.mem hb _).1 h5)
      rw [e] at this
      exact absurd this (by decide)
  · rw [e]; exact hr.1 ((h.mem hb _).2 (hv.1.1 e))
theorem REL.decE {S : ES} {R : RS} (h : REL S R) (l : Int) : rdecE R l = Go.Proofs.Ytpkbigjijihljaa.decE S l := by
  unfold rdecE Go.Proofs.Ytpkbigjijihljaa.decE
  rw [h.n]
  by_cases hl : hasB S.n l = true
  · rw [if_pos hl, if_pos hl]
    cases hb : R.bad with
    | true => rw [if_pos rfl, if_pos (h.bad.1 hb)]
    | false =>
      have hc := h.clash hb
      rw [h.val hb hl, if_neg (by simp), if_neg (c := S.clash ≠ none) (by rw [hc]; simp)]
  · rw [if_neg hl, if_neg hl]
theorem decE_zero {S : ES} {l : Int} (h : decE S l = 0) : hasB S.n l = true ∧ S.clash = none ∧ S.val (codeN l) = 0 := by
  unfold decE at h
  split at h
  · next h1 =>
    split at h
    · exact absurd h (by decide)
    · next h2 =>
      split at h
      · exact absurd h (by decide)
      · next h3 => exact ⟨h1, Decidable.of_not_not h2, Decidable.of_not_not h3⟩
  · exact absurd h (by decide)
theorem prs_decide {S : ES} (hw : WF S) {l : Nat} (h1 : 2 ≤ l) (h2 : l < 2 * S.n + 2) (h0 : S.val l = 0) : prs (S.decide l) = prs S ++ [(litI l, (S.marks.length : Int) + 1)] := by
  have hlv : ∀ c, (S.decide l).lvl c = if c / 2 = l / 2 then S.level + 1 else S.lvl c := fun c => by
    unfold ES.lvl
    rw [decide_giv hw h2]
    split <;> rfl
  show (S.trail ++ [l]).map (fun c => (litI c, ((S.decide l).lvl c : Int))) = _
  rw [List.map_append, List.map_singleton, hlv l, if_pos rfl]
  congr 1
  refine List.map_congr_left fun c hc => ?_
  have hne : c / 2 ≠ l / 2 := fun e => by
    have ht := hw.tr c hc
    have : c = l ∨ c = opp l := by unfold opp; split <;> omega
    rcases this with e | e
    · rw [e, h0] at ht; exact absurd ht.2.2 (by decide)
    · have hx := hw.valx l h1 h2
      rw [← e, h0, ht.2.2] at hx
      exact absurd hx (by decide)
  rw [hlv c, if_neg hne]
theorem REL.decide {S : ES} {R : RS} (h : REL S R) (l : Int) : REL (decS S l) (rdecS R l) := by
  unfold decS rdecS
  rw [h.decE]
  by_cases h0 : Go.Proofs.Ytpkbigjijihljaa.decE S l = 0
  · rw [if_pos h0, if_pos h0]
    obtain ⟨d1, d2, d3⟩ := decE_zero h0
    have hb := h.nobad d2
    have hw := h.full.inv.wf
    have hc := code_of d1
    have hlb := hasB_lt' d1
    have hv := val_tl hw d1
    have hpr : prs (S.decide (codeN l)) = prs S ++ [(l, (R.level : Int) + 1)] := by
      rw [prs_decide hw hc.1 hc.2 d3, litI_code, h.level]
    have hn1 : l ∉ fst R.tr := fun h5 => by
      have := hv.1.2 ((h.mem hb _).1 h5)
      rw [d3] at this
      exact absurd this (by decide)
    have hn2 : -l ∉ fst R.tr := fun h5 => by
      have := hv.2.2 ((h.mem hb _).1 h5)
      rw [d3] at this
      exact absurd this (by decide)
    have hfs : fst (R.tr ++ [(l, (R.level : Int) + 1)]) = fst R.tr ++ [l] := fst_snoc _ _ _
    exact {
      full := h.full.decide hc.1 hc.2 d3 d2
      n := h.n
      level := by show R.level + 1 = (S.marks ++ [_]).length; rw [List.length_append, h.level]; rfl
      lits := h.lits
      all := h.all
      bad := h.bad
      once := by
        show Once (fst (R.tr ++ [(l, (R.level : Int) + 1)]))
        rw [hfs]
        refine List.pairwise_append.2 ⟨h.once, List.pairwise_singleton _ _, fun a ha b hb => ?_⟩
        rw [List.mem_singleton] at hb
        subst hb
        exact ⟨fun e => hn1 (e ▸ ha), fun e => hn2 (e ▸ ha)⟩
      bnd := fun x hx => by
        have hx' : x ∈ fst (R.tr ++ [(l, (R.level : Int) + 1)]) := hx
        rw [hfs, List.mem_append, List.mem_singleton] at hx'
        rcases hx' with e | e
        · exact h.bnd x e
        · subst e
          rw [show ({ R with level := R.level + 1, tr := R.tr ++ [(x, (R.level : Int) + 1)] } : RS).n = R.n from rfl, h.n]
          exact hlb
      lvs := fun x hx => by
        rcases List.mem_append.1 hx with e | e
        · have := h.lvs x e
          show x.2 ≤ ((R.level + 1 : Nat) : Int)
          omega
        · rw [List.mem_singleton] at e
          subst e
          show (R.level : Int) + 1 ≤ ((R.level + 1 : Nat) : Int)
          omega
      tr := fun m v _ => by
        show (m, v) ∈ R.tr ++ [(l, (R.level : Int) + 1)] ↔ _
        rw [hpr, List.mem_append, List.mem_append, h.tr m v (Or.inl hb)] }
  · rw [if_neg h0, if_neg h0]
    exact h
/-- Back -/
theorem REL.bakE {S : ES} {R : RS} (h : REL S R) (l : Int) : rbakE R l = Go.Proofs.Ytpkbigjijihljaa.bakE S l := by
  unfold rbakE Go.Proofs.Ytpkbigjijihljaa.bakE
  rw [h.level]
  rfl
theorem mem_at {α : Type} {l : List α} {x : α} (d : α) : x ∈ l ↔ ∃ i, i < l.length ∧ x = l.getD i d := by
  rw [List.mem_iff_getElem]
  constructor
  · rintro ⟨i, hi, rfl⟩
    exact ⟨i, hi, (getD_of _ _ _ hi).symm⟩
  · rintro ⟨i, hi, rfl⟩
    exact ⟨i, hi, (getD_of _ _ _ hi).symm⟩
theorem mem_prs {S : ES} {m v : Int} : (m, v) ∈ prs S ↔ ∃ i, i < S.trail.length ∧ m = litI (S.trail.getD i 0) ∧ v = (S.lvl (S.trail.getD i 0) : Int) := by
  unfold prs
  rw [List.mem_map]
  constructor
  · rintro ⟨c, hc, e⟩
    obtain ⟨i, hi, rfl⟩ := (mem_at 0).1 hc
    exact ⟨i, hi, (congrArg Prod.fst e).symm, (congrArg Prod.snd e).symm⟩
  · rintro ⟨i, hi, rfl, rfl⟩
    exact ⟨_, (mem_at 0).2 ⟨i, hi, rfl⟩, rfl⟩
theorem prs_back {S : ES} (h : FULL S) {a : Nat} (ha : a < S.marks.length) (m v : Int) : (m, v) ∈ prs (S.back a) ↔ (m, v) ∈ prs S ∧ v ≤ (a : Int) := by
  have hw := h.inv.wf
  have hml : S.marks.getD a 0 < S.trail.length := by rw [getD_of _ _ _ ha]; exact hw.mks _ (List.getElem_mem _)
  have htr : (S.back a).trail = S.trail.take (S.marks.getD a 0) := rfl
  have hlv : ∀ c, (S.back a).lvl c = S.lvl c := fun _ => rfl
  have hlen : (S.back a).trail.length = S.marks.getD a 0 := by rw [htr, List.length_take]; omega
  have hget : ∀ i, i < S.marks.getD a 0 → (S.back a).trail.getD i 0 = S.trail.getD i 0 := fun i hi => by
    rw [htr, List.getD_eq_getElem?_getD, List.getElem?_take_of_lt hi, ← List.getD_eq_getElem?_getD]
  rw [mem_prs, mem_prs]
  constructor
  · rintro ⟨i, hi, rfl, rfl⟩
    rw [hlen] at hi
    have h5 := (h.snd.at_lvl ha (show i < S.trail.length by omega)).1 hi
    rw [hget i hi, hlv]
    exact ⟨⟨i, by omega, rfl, rfl⟩, by omega⟩
  · rintro ⟨⟨i, hi, rfl, rfl⟩, hv⟩
    have h5 := (h.snd.at_lvl ha hi).2 (by omega)
    exact ⟨i, by omega, by rw [hget i h5], by rw [hget i h5, hlv]⟩
theorem mem_cut {level : Int} {tr : List (Int × Int)} {m v : Int} : (m, v) ∈ cut level tr ↔ (m, v) ∈ tr ∧ v ≤ level := by
  unfold cut
  rw [List.mem_filter, decide_eq_true_iff]
theorem cut_sub (level : Int) (tr : List (Int × Int)) : (fst (cut level tr)).Sublist (fst tr) := List.Sublist.map _ List.filter_sublist
theorem REL.back {S : ES} {R : RS} (h : REL S R) (l : Int) : REL (bakS S l) (rbakS R l) := by
  unfold bakS rbakS
  have hL : S.level = S.marks.length := rfl
  have hw := h.full.inv.wf
  by_cases h0 : 0 ≤ l ∧ l < (S.level : Int)
  · rw [if_pos h0]
    have e0 : rbakE R l = 0 := by
      unfold rbakE
      rw [h.level, if_neg (by omega)]
    rw [if_pos e0, if_pos (by rw [h.level, ← hL]; exact h0.2)]
    have ha : l.toNat < S.marks.length := by omega
    have hml : S.marks.getD l.toNat 0 < S.trail.length := by rw [getD_of _ _ _ ha]; exact hw.mks _ (List.getElem_mem _)
    exact {
      full := h.full.back ha
      n := h.n
      level := by show l.toNat = (S.marks.take l.toNat).length; rw [List.length_take]; omega
      lits := h.lits
      all := h.all
      bad := ⟨fun h5 => absurd h5 (by show ¬ false = true; simp), fun h5 => absurd rfl h5⟩
      once := List.Pairwise.sublist (cut_sub _ _) h.once
      bnd := fun x hx => h.bnd x ((cut_sub _ _).subset hx)
      lvs := fun x hx => by
        obtain ⟨m, v⟩ := x
        have := (mem_cut.1 hx).2
        show v ≤ ((l.toNat : Nat) : Int)
        omega
      tr := fun m v _ => by
        show (m, v) ∈ cut l R.tr ↔ _
        rw [mem_cut, prs_back h.full ha]
        constructor
        · rintro ⟨h5, h6⟩
          exact ⟨(h.tr m v (Or.inr (by rw [h.level]; omega))).1 h5, by omega⟩
        · rintro ⟨h5, h6⟩
          exact ⟨(h.tr m v (Or.inr (by rw [h.level]; omega))).2 h5, by omega⟩ }
  · rw [if_neg h0]
    by_cases e0 : rbakE R l = 0
    · rw [if_pos e0]
      have el : l = (R.level : Int) := by
        unfold rbakE at e0
        rw [h.level] at e0 ⊢
        split at e0
        · exact absurd e0 (by decide)
        · omega
      have hcut : cut l R.tr = R.tr := by
        unfold cut
        rw [List.filter_eq_self]
        intro x hx
        rw [decide_eq_true_iff, el]
        exact h.lvs x hx
      rw [hcut, if_neg (by omega), show l.toNat = R.level by omega]
      exact h
    · rw [if_neg e0]
      exact h
end Go.Proofs.Ytpkbigjijihljaa
namespace Go.Proofs.Ytpkbigjijihljaa
open Go.Pr
theorem lvl_le {S : ES} (h : FULL S) {i : Nat} (hi : i < S.trail.length) : S.lvl (S.trail.getD i 0) ≤ S.marks.length := by
  have ht := h.inv.wf.tr (S.trail.getD i 0) ((mem_at 0).2 ⟨i, hi, rfl⟩)
  exact h.inv.lvb _ ht.1 (by rw [ht.2.2]; decide)
/-- a place of the trail that a run leaves alone -/
theorem grow_get {S T : ES} (g : Grow S T) {i : Nat} (hi : i < S.trail.length) : T.trail.getD i 0 = S.trail.getD i 0 := by
  obtain ⟨u, hu⟩ := g.tr
  rw [← hu, List.getD_eq_getElem?_getD, List.getElem?_append_left hi, ← List.getD_eq_getElem?_getD]
theorem grow_old {S T : ES} (g : Grow S T) (h : FULL S) (hT : FULL T) {i : Nat} (hi : i < S.trail.length) : T.lvl (T.trail.getD i 0) = S.lvl (S.trail.getD i 0) := by
  have hle := g.tr.length_le
  have a1 := lvl_le h hi
  have a2 := lvl_le hT (i := i) (by omega)
  rw [g.marks] at a2
  have key : ∀ j, j < S.marks.length → (j < T.lvl (T.trail.getD i 0) ↔ j < S.lvl (S.trail.getD i 0)) := fun j hj => by
    rw [← h.snd.lvp i hi j hj, ← hT.snd.lvp i (by omega) j (by rw [g.marks]; exact hj), g.marks]
  rcases Nat.lt_trichotomy (T.lvl (T.trail.getD i 0)) (S.lvl (S.trail.getD i 0)) with e | e | e
  · exact absurd ((key _ (by omega)).2 e) (Nat.lt_irrefl _)
  · exact e
  · exact absurd ((key _ (by omega)).1 e) (Nat.lt_irrefl _)
theorem grow_new {S T : ES} (g : Grow S T) (h : FULL S) (hT : FULL T) {i : Nat} (hi : S.trail.length ≤ i) (hi2 : i < T.trail.length) : T.lvl (T.trail.getD i 0) = S.marks.length := by
  have a2 := lvl_le hT hi2
  rw [g.marks] at a2
  by_cases e : T.lvl (T.trail.getD i 0) = S.marks.length
  · exact e
  · exfalso
    have hlt : T.lvl (T.trail.getD i 0) < S.marks.length := by omega
    have h5 := (hT.snd.lvp i hi2 _ (by rw [g.marks]; exact hlt)).1 (by
      rw [g.marks, getD_of _ _ _ hlt]
      have := h.inv.wf.mks _ (List.getElem_mem hlt)
      omega)
    exact absurd h5 (Nat.lt_irrefl _)
theorem grow_prs_old {S T : ES} (g : Grow S T) (h : FULL S) (hT : FULL T) {m v : Int} (hm : (m, v) ∈ prs S) : (m, v) ∈ prs T := by
  obtain ⟨i, hi, rfl, rfl⟩ := mem_prs.1 hm
  have hle := g.tr.length_le
  exact mem_prs.2 ⟨i, by omega, by rw [grow_get g hi], by rw [grow_old g h hT hi]⟩
theorem grow_prs_new {S T : ES} (g : Grow S T) (h : FULL S) (hT : FULL T) {m v : Int} (hm : (m, v) ∈ prs T) : (m, v) ∈ prs S ∨ (v = (S.marks.length : Int) ∧ m ∉ tl S ∧ m ∈ tl T) := by
  obtain ⟨i, hi, rfl, rfl⟩ := mem_prs.1 hm
  have hw := hT.inv.wf
  by_cases hlt : i < S.trail.length
  · exact Or.inl (mem_prs.2 ⟨i, hlt, by rw [grow_get g hlt], by rw [grow_old g h hT hlt]⟩)
  · refine Or.inr ⟨by rw [grow_new g h hT (by omega) hi], fun h5 => ?_, ?_⟩
    · unfold tl at h5
      rw [List.mem_reverse] at h5
      have hx : T.trail.getD i 0 ∈ T.trail := (mem_at 0).2 ⟨i, hi, rfl⟩
      rw [mem_lits (fun c hc => (h.inv.wf.tr c hc).1) (hw.tr _ hx).1] at h5
      obtain ⟨u, hu⟩ := g.tr
      have hd : T.trail.getD i 0 ∈ T.trail.drop S.trail.length := by
        rw [List.getD_eq_getElem?_getD, List.getElem?_eq_getElem hi]
        rw [List.mem_iff_getElem]
        refine ⟨i - S.trail.length, by rw [List.length_drop]; omega, ?_⟩
        rw [List.getElem_drop]
        simp [show S.trail.length + (i - S.trail.length) = i by omega]
      have ht : T.trail.getD i 0 ∈ T.trail.take S.trail.length := by
        have e : T.trail.take S.trail.length = S.trail := by rw [← hu, List.take_left']; rfl
        rw [e]
        exact h5
      exact nodup_parts hw.trd ht hd rfl
    · unfold tl
      rw [List.mem_reverse]
      exact List.mem_map.2 ⟨_, (mem_at 0).2 ⟨i, hi, rfl⟩, rfl⟩
theorem tl_prs {S : ES} {m : Int} : m ∈ tl S ↔ ∃ v, (m, v) ∈ prs S := by
  unfold tl
  rw [List.mem_reverse, ← fst_prs, mem_fst]
theorem fls_rev {T c : List Int} (h : Fls T c) : Fls T.reverse c := fun m hm => List.mem_reverse.2 (h m hm)
theorem closed_congr {all : List (List Int)} {T U : List Int} (h : Closed all T) (he : ∀ x, x ∈ T ↔ x ∈ U) : Closed all U :=
  ⟨fun c hc hf => h.nofls c hc (fun m hm => (he _).2 (hf m hm)), fun c hc l hu => h.nounit c hc l ⟨fun h5 => hu.1 ((he _).1 h5), fun h5 => hu.2.1 ((he _).1 h5), hu.2.2.1, fun m hm => (hu.2.2.2 m hm).imp id (fun h5 => (he _).2 h5)⟩⟩
/-- Propagate: both come to the same -/
theorem REL.prop {S T : ES} {R : RS} (h : REL S R) (hb : R.bad = false) (r : Runs S T) {tr : List (Int × Int)} (gt : GT R tr) {b b' : Bool}
    (hs1 : b = true → T.clash = none ∧ T.step = none) (hs2 : b = false → T.clash ≠ none) (hr1 : b' = true → Closed R.all (fst tr)) (hr2 : b' = false → ∃ c ∈ R.all, Fls (fst tr) c) :
    b' = b ∧ REL T { R with tr := tr, bad := !b } := by
  have hF := h.full
  have hT := r.full hF
  have g := r.grow hF
  have hall : allI T = allI S := allI_grow g
  have dS : Der (allI S) (tl S) (tl T) := r.der hF
  have dR : Der (allI S) (fst R.tr).reverse (fst tr).reverse := by rw [← h.all]; exact gt.der
  have hbase : ∀ x, x ∈ tl S ↔ x ∈ (fst R.tr).reverse := fun x => by rw [List.mem_reverse]; exact (h.mem hb x).symm
  have hcS : b = true → Closed (allI S) (tl T) := fun e => by rw [← hall]; exact hT.closed (hs1 e).1 (hs1 e).2
  have hcR : b' = true → Closed (allI S) (fst tr).reverse := fun e => by
    rw [← h.all]
    exact closed_congr (hr1 e) (fun x => List.mem_reverse.symm)
  have hbb : b' = b := by
    cases hb1 : b with
    | true =>
      cases hb2 : b' with
      | true => rfl
      | false =>
        obtain ⟨c, hc, hf⟩ := hr2 hb2
        rw [h.all] at hc
        exact absurd (fls_rev hf) (dR.nofls (hcS hb1) (fun x hx => dS.base_sub x ((hbase x).2 hx)) c hc)
    | false =>
      cases hb2 : b' with
      | false => rfl
      | true =>
        obtain ⟨k, hk⟩ : ∃ k, T.clash = some k := by
          cases hc : T.clash with
          | none => exact absurd hc (hs2 hb1)
          | some k => exact ⟨k, rfl⟩
        obtain ⟨c, hc, hf⟩ := hT.fls hk
        rw [hall] at hc
        exact absurd hf (dS.nofls (hcR hb2) (fun x hx => dR.base_sub x ((hbase x).1 hx)) c hc)
  refine ⟨hbb, ?_⟩
  subst hbb
  obtain ⟨new, hnew, hlv⟩ := gt.new
  have hLS : (R.level : Int) = (S.marks.length : Int) := by rw [h.level]
  exact {
    full := hT
    n := h.n.trans g.n.symm
    level := by show R.level = T.marks.length; rw [g.marks]; exact h.level
    lits := by show R.lits = T.lits.length; rw [g.lits]; exact h.lits
    all := by show R.all = allI T; rw [hall]; exact h.all
    bad := by
      show (!b') = true ↔ _
      cases b' with
      | true => exact ⟨fun h5 => absurd h5 (by simp), fun h5 => absurd (hs1 rfl).1 h5⟩
      | false => exact ⟨fun _ => hs2 rfl, fun _ => rfl⟩
    once := gt.once
    bnd := gt.bnd
    lvs := fun x hx => by
      have hx' : x ∈ tr := hx
      rw [hnew, List.mem_append] at hx'
      rcases hx' with e | e
      · exact h.lvs x e
      · exact Int.le_of_eq (hlv x e)
    tr := fun m v hv => by
      show (m, v) ∈ tr ↔ _
      have hv' : b' = true ∨ v < (R.level : Int) := by
        rcases hv with e | e
        · left
          cases b' with
          | true => rfl
          | false => exact absurd e (by show ¬ (!false) = false; simp)
        · exact Or.inr e
      constructor
      · intro hm
        have hm' := hm
        rw [hnew, List.mem_append] at hm'
        rcases hm' with e | e
        · exact grow_prs_old g hF hT ((h.tr m v (Or.inl hb)).1 e)
        · have hvl : v = (R.level : Int) := hlv _ e
          rcases hv' with e2 | e2
          · have hmt : m ∈ tl T := (Der.same dS dR hbase (hcS e2) (hcR e2) m).2 (List.mem_reverse.2 (mem_fst.2 ⟨v, hm⟩))
            obtain ⟨v', hv2⟩ := tl_prs.1 hmt
            rcases grow_prs_new g hF hT hv2 with e3 | e3
            · exfalso
              -- the document's list would have it twice
              have hin := (h.tr m v' (Or.inl hb)).2 e3
              have ho := gt.once
              rw [hnew] at ho
              unfold fst at ho
              rw [List.map_append] at ho
              exact ((List.pairwise_append.1 ho).2.2 m (List.mem_map.2 ⟨_, hin, rfl⟩) m (List.mem_map.2 ⟨_, e, rfl⟩)).1 rfl
            · rw [hvl, hLS, ← e3.1]
              exact hv2
          · omega
      · intro hm
        rcases grow_prs_new g hF hT hm with e | e
        · rw [hnew, List.mem_append]
          exact Or.inl ((h.tr m v (Or.inl hb)).2 e)
        · rcases hv' with e2 | e2
          · have hmt := (Der.same dS dR hbase (hcS e2) (hcR e2) m).1 e.2.2
            obtain ⟨v', hv2⟩ := mem_fst.1 (List.mem_reverse.1 hmt)
            have hv3 := hv2
            rw [hnew, List.mem_append] at hv3
            rcases hv3 with e3 | e3
            · exact absurd (tl_prs.2 ⟨v', (h.tr m v' (Or.inl hb)).1 e3⟩) e.2.1
            · have h6 : v' = (R.level : Int) := hlv _ e3
              rw [e.1, ← hLS, ← h6]
              exact hv2
          · omega }
end Go.Proofs.Ytpkbigjijihljaa
