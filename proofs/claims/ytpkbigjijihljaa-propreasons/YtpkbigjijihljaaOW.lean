import Derived.Test.YtpkbigjijihljaaOE
import Derived.Test.YtpkbigjijihljaaOK
import Derived.Test.YtpkbigjijihljaaOM
import Derived.Test.YtpkbigjijihljaaOR
namespace Go.Proofs.Ytpkbigjijihljaa
open Go.ChangeShapes Go.WideShapes Go.ChangeAt Go.RowKit
open Go.Pr
theorem trail_inj {S : ES} (hw : WF S) {i j : Nat} (hi : i < S.trail.length) (hj : j < S.trail.length) (h : S.trail.getD i 0 / 2 = S.trail.getD j 0 / 2) : i = j := by
  have hd := hw.trd
  have h1 : i < (S.trail.map fun c => c / 2).length := by rw [List.length_map]; exact hi
  have h2 : j < (S.trail.map fun c => c / 2).length := by rw [List.length_map]; exact hj
  refine (List.getElem_inj (h₀ := h1) (h₁ := h2) hd).1 ?_
  rw [List.getElem_map, List.getElem_map]
  rw [getD_of _ _ _ hi, getD_of _ _ _ hj] at h
  exact h
theorem litI_div {a b : Nat} (h : litI a = litI b ∨ litI a = -litI b) : a / 2 = b / 2 := by
  unfold litI at h
  split at h <;> split at h <;> omega
/-- what a statement must find at a literal of the trail -/
structure RSN (S : ES) (cls : List (List Int)) (dec : List Int) (k : Nat) (l : Int) (sn : List Int) : Prop where
  ne : l ≠ 0
  lb : -1048576 ≤ l ∧ l ≤ 1048576
  n1 : l ∉ sn
  n2 : -l ∉ sn
  val : valE S (if l < 0 then -l else l) = if l < 0 then -1 else 1
  lev : ∃ lv : Nat, levE S (if l < 0 then -l else l) = (lv : Int) ∧ lv ≤ dec.length ∧ lv ≤ S.marks.length ∧
    ((rsnE S (if l < 0 then -l else l) = none ∧ 1 ≤ lv ∧ dec.getD (lv - 1) 0 = l) ∨
     ∃ kk, rsnE S (if l < 0 then -l else l) = some kk ∧ kk < cls.length ∧ clL S (some kk) = cls.getD kk [] ∧ ¬ (1 ≤ lv ∧ dec.getD (lv - 1) 0 = l) ∧ l ∈ cls.getD kk [] ∧ ∀ m ∈ cls.getD kk [], m = l ∨ -m ∈ sn)
theorem BREL.rsn {S : ES} {cls : List (List Int)} {dec : List Int} (h : BREL S cls dec) {k : Nat} (hk : k < S.trail.length) : RSN S cls dec k (litI (S.trail.getD k 0)) ((S.trail.take k).map litI) := by
  have hw := h.full.inv.wf
  have hn := hw.n
  have hm : S.trail.getD k 0 ∈ S.trail := by rw [getD_of _ _ _ hk]; exact List.getElem_mem _
  obtain ⟨c, hc⟩ : ∃ c, S.trail.getD k 0 = c := ⟨_, rfl⟩
  rw [hc] at hm
  have ht := hw.tr c hm
  have hle := litI_le ht.2.1
  have habs : (if litI c < 0 then -litI c else litI c) = ((c / 2 : Nat) : Int) := by
    unfold litI
    split <;> split <;> omega
  have hsn : ∀ z, z ∈ (S.trail.take k).map litI → ∃ j, j < k ∧ z = litI (S.trail.getD j 0) := fun z hz => by
    obtain ⟨x, hx, rfl⟩ := List.mem_map.1 hz
    obtain ⟨j, hj, e⟩ := List.mem_iff_getElem.1 hx
    rw [List.length_take] at hj
    rw [List.getElem_take] at e
    exact ⟨j, by omega, by rw [getD_of _ _ _ (by omega), e]⟩
  have hno : ∀ z, z ∈ (S.trail.take k).map litI → litI c = z ∨ litI c = -z → False := fun z hz e => by
    obtain ⟨j, hj, rfl⟩ := hsn z hz
    have := trail_inj hw (i := k) (j := j) hk (by omega) (by rw [hc]; exact litI_div e)
    omega
  have hlv : S.lvl c ≤ S.marks.length := h.full.inv.lvb c ht.1 (by rw [ht.2.2]; decide)
  have hval : S.val (2 * (c / 2)) = if litI c < 0 then -1 else 1 := by
    by_cases e : c % 2 = 1
    · have h1 : litI c < 0 := by unfold litI; rw [if_pos e]; omega
      rw [if_pos h1]
      have h2 : opp c = 2 * (c / 2) := by unfold opp; rw [if_pos e]; omega
      rw [← h2, hw.valx c ht.1 ht.2.1, ht.2.2]
    · have h1 : ¬ litI c < 0 := by unfold litI; rw [if_neg e]; omega
      rw [if_neg h1]
      have h2 : c = 2 * (c / 2) := by omega
      rw [← h2]
      exact ht.2.2
  have hvE : valE S ((c / 2 : Nat) : Int) = if litI c < 0 then -1 else 1 := by
    unfold valE
    rw [if_neg (by omega), show (2 * ((c / 2 : Nat) : Int)).toNat = 2 * (c / 2) by omega]
    exact hval
  have hv0 : S.val (2 * (c / 2)) ≠ 0 := by
    rw [hval]
    split <;> decide
  have hlE : levE S ((c / 2 : Nat) : Int) = (S.lvl c : Int) := by
    unfold levE
    rw [if_neg (by omega), show (2 * ((c / 2 : Nat) : Int)).toNat = 2 * (c / 2) by omega, if_neg hv0]
    rfl
  have hrE : rsnE S ((c / 2 : Nat) : Int) = (S.giv.getD (c / 2) (0, none)).2 := by
    unfold rsnE
    rw [hvE, if_neg (by split <;> decide)]
    rfl
  rw [hc]
  refine ⟨litI_ne ht.1, ⟨by omega, by omega⟩, fun hz => hno _ hz (Or.inl rfl), fun hz => hno _ hz (Or.inr (by rw [Int.neg_neg])), by rw [habs]; exact hvE, S.lvl c, by rw [habs]; exact hlE, by rw [h.len]; exact hlv, hlv, ?_⟩
  rw [habs, hrE]
  have hdec := h.full.snd.dec k hk
  rw [hc] at hdec
  cases hr : (S.giv.getD (c / 2) (0, none)).2 with
  | none =>
    left
    refine ⟨rfl, ?_⟩
    obtain ⟨j, hj, e⟩ := List.mem_iff_getElem.1 (hdec.1 hr)
    have hlp := h.full.snd.lvp k hk
    rw [hc] at hlp
    have h1 := (hlp j hj).1 (by rw [getD_of _ _ _ hj, e]; exact Nat.le_refl _)
    have h2 : S.lvl c = j + 1 := by
      by_cases e2 : j + 1 < S.lvl c
      · have hj1 : j + 1 < S.marks.length := by omega
        have h3 := (hlp (j + 1) hj1).2 e2
        have h4 := List.pairwise_iff_getElem.1 hw.mkd j (j + 1) hj hj1 (Nat.lt_succ_self j)
        rw [getD_of _ _ _ hj1] at h3
        omega
      · omega
    rw [h2]
    refine ⟨by omega, ?_⟩
    rw [Nat.add_sub_cancel, h.dec j hj, getD_of S.marks _ _ hj, e, hc]
  | some kk =>
    right
    have hrs := h.full.snd.rsn k hk kk (by rw [hc]; exact hr)
    rw [hc] at hrs
    obtain ⟨h1, h2, h3⟩ := hrs
    have hcl : cls.getD kk [] = (S.inside kk).map litI := by rw [h.all, all_get h1]
    refine ⟨kk, rfl, by rw [h.all, all_len]; exact h1, by rw [hcl]; rfl, fun hx => ?_, by rw [hcl]; exact List.mem_map.2 ⟨c, h2, rfl⟩, fun m hm => ?_⟩
    · obtain ⟨x1, x2⟩ := hx
      have hj : S.lvl c - 1 < S.marks.length := by omega
      rw [h.dec _ hj] at x2
      have hml : S.marks.getD (S.lvl c - 1) 0 < S.trail.length := by rw [getD_of _ _ _ hj]; exact hw.mks _ (List.getElem_mem _)
      have hkk := trail_inj hw (i := S.marks.getD (S.lvl c - 1) 0) (j := k) hml hk (by rw [hc]; exact litI_div (Or.inl x2))
      have : k ∈ S.marks := by rw [← hkk, getD_of _ _ _ hj]; exact List.getElem_mem _
      have := hdec.2 this
      rw [hr] at this
      cases this
    · rw [hcl] at hm
      obtain ⟨z, hz, rfl⟩ := List.mem_map.1 hm
      by_cases e : z = c
      · exact Or.inl (by rw [e])
      · right
        have := h3 z hz e
        rw [← litI_opp (hw.inside_mem hz).1]
        exact List.mem_map.2 ⟨_, this, rfl⟩
end Go.Proofs.Ytpkbigjijihljaa
namespace Go.Proofs.Ytpkbigjijihljaa
open Go.ChangeShapes Go.WideShapes Go.ChangeAt Go.RowKit
open Go.Pr
theorem BK.rows {w : World} {b : Nat} {O : Nat → Prop} {cls : List (List Int)} {dec : List Int} {pA pD : Value} {q : Nat → Value} (h : BK w b O cls dec pA pD q) {aA : Option Addr} {cA : Nat} (eA : pA = .slice aA cls.length cA) : Rows2 w aA cls := fun i hi => by
  obtain ⟨bA, cA', ad, cp, e1, e2, e3⟩ := h.at hi
  rw [eA] at e1
  injection e1 with e4 _ _
  exact ⟨bA, ad, cp, e4, e2, e3⟩
theorem NewRow.row {w w' : World} {v : Value} {xs : List Int} (h : NewRow w w' v xs) : ∃ ad, v = .slice ad xs.length xs.length ∧ Row w' ad xs := by
  rcases h with ⟨e1, e2⟩ | ⟨a, e1, _, _, e2⟩
  · subst e2
    exact ⟨none, e1, fun h => absurd h (Nat.lt_irrefl 0)⟩
  · exact ⟨_, e1, fun _ => ⟨a, 0, rfl, fun j hj => by rw [Nat.zero_add]; exact (blk_cell e2 j).trans (intsV_get xs j hj)⟩⟩
theorem Row.fr {w w' : World} {O O' : Nat → Prop} {ad : Option Addr} {xs : List Int} (h : Row w ad xs) (f : Fr O w w' O') (ho : ∀ a o, ad = some ⟨a, o, none⟩ → 0 < xs.length → ¬ O a) : Row w' ad xs := fun h0 => by
  obtain ⟨a, o, e1, e2⟩ := h h0
  have hlt : a < w.heap.size := block_lt_of_cell (e2 0 h0)
  exact ⟨a, o, e1, fun j hj => (World.cell?_of_block (w' := w') (w := w) (a := ⟨a, o + j, none⟩) (f.kept a hlt (ho a o e1 h0))).trans (e2 j hj)⟩
set_option maxHeartbeats 8000000 in
set_option maxRecDepth 20000 in
theorem reasoned_ok {w : World} {g b B : Nat} {O1 O2 : Nat → Prop} {S : ES} {p : Nat → Value} {cls : List (List Int)} {dec : List Int} {pA pD : Value} {q : Nat → Value} (h : EB w g b B O1 O2 S p cls dec pA pD q) (hr : BREL S cls dec) {k : Nat} {l : Int} {sn : List Int} (hs : RSN S cls dec k l sn) {aS : Option Addr} {cS : Nat} (hS : Row w aS sn) (hSl : sn.length ≤ 1048576) (hSo : ∀ a o, aS = some ⟨a, o, none⟩ → 0 < sn.length → ¬ O1 a) :
    Calls Try.prog 16 #[.pointer (some ⟨b, 0, none⟩), .pointer (some ⟨g, 0, none⟩), .int .i64 l, .slice aS sn.length cS] w fun e w' => e = .returned (.bool true) ∧ Mem w' g O1 S p ∧ Fr O1 w w' O1 := by
  have hw := hr.full.inv.wf
  have hz := hr.bsz
  obtain ⟨lv, lE, lv1, lv2, hcase⟩ := hs.lev
  generalize hPP : (fun (e : Ending) (w' : World) => e = .returned (.bool true) ∧ Mem w' g O1 S p ∧ Fr O1 w w' O1) = PP
  have HPP : Hid (∀ w', Mem w' g O1 S p → Fr O1 w w' O1 → PP (.returned (.bool true)) w') := fun w' h1 h2 => by rw [← hPP]; exact ⟨rfl, h1, h2⟩
  -- the looks
  obtain ⟨v, hv⟩ : ∃ v, (if l < 0 then -l else l) = v := ⟨_, rfl⟩
  rw [hv] at lE hcase
  have hval := hs.val
  rw [hv] at hval
  have HH1 : Hid (∀ m, Calls Try.prog 38 #[.slice aS sn.length cS, .int .i64 l] (w.drewN m) fun e w' => e = .returned (.bool false) ∧ ∃ m', w' = (w.drewN m).drewN m') := fun m => by
    have h5 := lhas_any (cp := cS) (w.drewN m) (ad := aS) (xs := sn) hS (by omega) l
    rw [decide_eq_false hs.n1] at h5
    exact h5
  have HH2 : Hid (∀ m, Calls Try.prog 38 #[.slice aS sn.length cS, .int .i64 (-l)] (w.drewN m) fun e w' => e = .returned (.bool false) ∧ ∃ m', w' = (w.drewN m).drewN m') := fun m => by
    have h5 := lhas_any (cp := cS) (w.drewN m) (ad := aS) (xs := sn) hS (by omega) (-l)
    rw [decide_eq_false hs.n2] at h5
    exact h5
  have HV : Hid (∀ m, Calls Try.prog 30 #[.pointer (some ⟨g, 0, none⟩), .int .i64 v] (w.drewN m) fun e w' => e = .returned (.int .i64 (if l < 0 then -1 else 1)) ∧ ∃ m', w' = (w.drewN m).drewN m') := fun m => by
    have h5 := value_mem (h.m.drewN (m := m)) hw v
    rw [hval] at h5
    exact h5
  have HLv : Hid (∀ m, Calls Try.prog 32 #[.pointer (some ⟨g, 0, none⟩), .int .i64 v] (w.drewN m) fun e w' => e = .returned (.int .i64 (lv : Int)) ∧ ∃ m', w' = (w.drewN m).drewN m') := fun m => by
    have h5 := levelOf_mem (h.m.drewN (m := m)) hr.full v
    rw [lE] at h5
    exact h5
  have HLe : Hid (∀ m, Calls Try.prog 34 #[.pointer (some ⟨g, 0, none⟩)] (w.drewN m) fun e w' => e = .returned (.int .i64 (S.marks.length : Int)) ∧ w' = w.drewN m) := fun m => level_mem h.m.drewN
  have HRe : Hid (∀ m, Calls Try.prog 39 #[.pointer (some ⟨g, 0, none⟩), .int .i64 v] (w.drewN m) (Told1 (w.drewN m) g O1 S p (clL S (rsnE S v)))) := fun m => reason_mem h.m.drewN hr.full v
  obtain ⟨⟨aA, cA, eA⟩, aD, cD, eD⟩ := h.bk.formA
  have k1 : ∀ m, (w.drewN m).cell? ⟨b, 1, none⟩ = some (.slice aD dec.length cD) := fun m => (h.bk.cell 1).trans (congrArg some eD)
  have hdl := hz.d
  have hml : S.marks.length ≤ 1048576 := by have := WF.marks_len hw; have := hw.n; omega
  have hlb := hs.lb
  have hne := hs.ne
  -- behind Reason
  have HRS : Hid (∀ (m : Nat) vv w', NewRow (w.drewN m) w' vv (clL S (rsnE S v)) → Mem w' g O1 S p → Fr O1 (w.drewN m) w' O1 → ∃ ad, vv = .slice ad (clL S (rsnE S v)).length (clL S (rsnE S v)).length ∧ (∀ m', Row (w'.drewN m') ad (clL S (rsnE S v))) ∧ (∀ m', Row (w'.drewN m') aS sn) ∧ (∀ m', Mem (w'.drewN m') g O1 S p ∧ Fr O1 w (w'.drewN m') O1) ∧ (∀ m', (w'.drewN m').cell? ⟨b, 1, none⟩ = some (.slice aD dec.length cD)) ∧ (∀ m', (w'.drewN m').cell? ⟨b, 0, none⟩ = some (.slice aA cls.length cA)) ∧ (∀ m', Rows2 (w'.drewN m') aA cls) ∧ ∀ i, i < dec.length → ∃ bD, aD = some ⟨bD, 0, none⟩ ∧ ∀ m', (w'.drewN m').cell? ⟨bD, i, none⟩ = some (.int .i64 (dec.getD i 0))) := fun m vv w' e1 e2 e3 => by
    obtain ⟨ad, e4, e5⟩ := e1.row
    have e3' : Fr O1 w w' O1 := ⟨e3.os, e3.tape, e3.output, e3.size, e3.kept, e3.new⟩
    obtain ⟨t2, _⟩ := h.told e2 e3'
    refine ⟨ad, e4, fun _ => e5, fun _ => hS.fr (e3'.drewN) hSo, fun _ => ⟨e2.drewN, e3'.drewN⟩, fun _ => (t2.bk.cell 1).trans (congrArg some eD), fun _ => (t2.bk.cell 0).trans (congrArg some eA), fun _ => t2.bk.rows eA, fun i hi => ?_⟩
    obtain ⟨bD, cD', e6, e7⟩ := t2.bk.decAt hi
    rw [eD] at e6
    injection e6 with e8 _ _
    exact ⟨bD, e8, fun _ => e7⟩
  have hcll := hz.c
  have HCL : Hid (∀ c ∈ cls, c.length ≤ 65536) := hz.cl
  have HCB : Hid (∀ c ∈ cls, ∀ m ∈ c, m ≠ 0 ∧ -1048576 ≤ m ∧ m ≤ 1048576) := hz.cb
  clear hval lE hPP h hr hs hw hz eA eD hS hSo
  by_cases h0 : l < 0
  · obtain ⟨n, rfl⟩ : ∃ n : Nat, l = -(n : Int) := ⟨(-l).toNat, by omega⟩
    rw [if_pos h0, Int.neg_neg] at hv
    subst hv
    rw [if_pos h0] at HV
    rw [Int.neg_neg] at HH2
    have q3 : Int.tdiv (-(n : Int)) (n : Int) = -1 := by
      rw [Int.neg_tdiv, Int.tdiv_self (by omega)]
    have q5 : (-(n : Int) == 0) = false := beq_false_of_ne (by omega)
    have q0 : (0 : Int) < (n : Int) := by omega
    have q1 : -1048576 ≤ -(n : Int) := by omega
    have q2 : -(n : Int) ≤ 1048576 := by omega
    have q2' : (n : Int) ≤ 1048576 := by omega
    have q4 : ((n : Int) == 0) = false := beq_false_of_ne (by omega)
    have q6 : decide ((lv : Int) < 0) = false := decide_eq_false (by omega)
    have q7 : decide ((S.marks.length : Int) < (lv : Int)) = false := decide_eq_false (by omega)
    have q8 : decide ((dec.length : Int) < (lv : Int)) = false := decide_eq_false (by omega)
    clear hlb hne
    obtain ⟨sl, hsl⟩ : ∃ sl, sn.length = sl := ⟨_, rfl⟩
    rw [hsl] at HH1 HH2 ⊢
    have HSL : Hid (sn.length = sl) := hsl
    have HSLE : Hid (sn.length ≤ 1048576) := hSl
    have HCASE : Hid ((rsnE S (n : Int) = none ∧ 1 ≤ lv ∧ dec.getD (lv - 1) 0 = (-(n : Int))) ∨ ∃ kk, rsnE S (n : Int) = some kk ∧ kk < cls.length ∧ clL S (some kk) = cls.getD kk [] ∧ ¬ (1 ≤ lv ∧ dec.getD (lv - 1) 0 = (-(n : Int))) ∧ (-(n : Int)) ∈ cls.getD kk [] ∧ ∀ m ∈ cls.getD kk [], m = (-(n : Int)) ∨ -m ∈ sn) := hcase
    clear hsl hSl hcase
    obtain ⟨dl, hdl2⟩ : ∃ dl, dec.length = dl := ⟨_, rfl⟩
    rw [hdl2] at HRS k1 q8 hdl lv1
    clear hdl2
    generalize S.marks.length = ml at *
    go_enter Try.func16, Try.ntmps16
    go_wp2_with fail
    first | (go_quiet (first
      | (go_at_call_of 38 (-(n : Int)); exact Calls.quiet_of (HH1.out _))
      | (go_at_call 38; exact Calls.quiet_of (HH2.out _))
      | (go_at_call 30; exact Calls.quiet_of (HV.out _)))) | fail
    go_wp2_with fail
    refine (HLv.out _).mono ?_
    rintro e w1 ⟨rfl, m1, rfl⟩
    obtain ⟨W1, m2, hW1⟩ : ∃ W1 m2, w.drewN m2 = W1 ∧ (w.drewN nq).drewN m1 = W1 := ⟨_, nq + m1, rfl, by rw [World.drewN_drewN]⟩
    have HW1 : Hid (w.drewN m2 = W1) := hW1.1
    have k1m : W1.cell? ⟨b, 1, none⟩ = some (.slice aD dl cD) := by rw [← hW1.1]; exact k1 m2
    have HLe1 : Hid (Calls Try.prog 34 #[.pointer (some ⟨g, 0, none⟩)] W1 fun e w' => e = .returned (.int .i64 (ml : Int)) ∧ w' = W1) := by
      show Calls _ _ _ _ _
      rw [← HW1.out]
      exact HLe.out _
    have HRe1 : Hid (Calls Try.prog 39 #[.pointer (some ⟨g, 0, none⟩), .int .i64 (n : Int)] W1 (Told1 W1 g O1 S p (clL S (rsnE S (n : Int))))) := by
      show Calls _ _ _ _ _
      rw [← HW1.out]
      exact HRe.out _
    have HRS1 := HRS.out m2
    rw [HW1.out] at HRS1
    rw [hW1.2]
    have HRS2 : Hid (_) := HRS1
    clear hW1 q3 q4 q0 HRS1 HRS HRe HLe HLv HV HH1 HH2
    go_wp2_with fail
    refine HLe1.out.mono ?_
    rintro e w2 ⟨rfl, hw2⟩
    obtain rfl := hw2.symm
    go_wp2_with fail
    refine HRe1.out.mono ?_
    rintro e w3 ⟨vv, rfl, h3, h4, h5⟩
    obtain ⟨aR, rfl, r1, r2, r3, r4, r5, r6, r7⟩ := HRS2.out vv w3 h3 h4 h5
    clear h3 h4 h5 HRS2 HRe1 HLe1 k1m k1
    have HR1 : Hid (∀ m', Row (w3.drewN m') aR (clL S (rsnE S (n : Int)))) := r1
    have HR2 : Hid (∀ m', Row (w3.drewN m') aS sn) := r2
    have HR3 : Hid (∀ m', Mem (w3.drewN m') g O1 S p ∧ Fr O1 w (w3.drewN m') O1) := r3
    have HR6 : Hid (∀ m', Rows2 (w3.drewN m') aA cls) := r6
    have s4 : w3.cell? ⟨b, 1, none⟩ = some (.slice aD dl cD) := r4 0
    have s5 : ∀ m', (w3.drewN m').cell? ⟨b, 0, none⟩ = some (.slice aA cls.length cA) := r5
    have s5' : w3.cell? ⟨b, 0, none⟩ = some (.slice aA cls.length cA) := r5 0
    have HP3 : Hid (∀ m, PP (.returned (.bool true)) (w3.drewN m)) := fun m => HPP.out _ (HR3.out m).1 (HR3.out m).2
    have HP3' : Hid (PP (.returned (.bool true)) w3) := HP3.out 0
    clear r1 r2 r3 r4 r5 r6
    rcases HCASE.out with ⟨f1, f2, f3⟩ | ⟨kk, f1, f2, f3, f4, f5, f6⟩
    · obtain ⟨bD, rfl, d1⟩ := r7 (lv - 1) (by omega)
      rw [f3] at d1
      have d2 : w3.cell? ⟨bD, lv - 1, none⟩ = some (.int .i64 (-(n : Int))) := d1 0
      rw [f1]
      have e0 : (clL S none).length = 0 := rfl
      rw [e0]
      clear f3 HCASE r7 d1 e0 f1
      obtain ⟨l1, rfl⟩ : ∃ l1, lv = l1 + 1 := ⟨lv - 1, by omega⟩
      rw [Nat.add_sub_cancel] at d2
      have g1 : (1 : Int) ≤ ((l1 + 1 : Nat) : Int) := by omega
      have g2 : (l1 : Int) < (dl : Int) := by omega
      go_wp2
      first | exact HP3'.out | (go_ret; exact HP3'.out) | (go_ret2; exact HP3'.out)
    · rw [f1, f3]
      rw [f1, f3] at HR1
      have HLB : Hid (∀ m ∈ cls.getD kk [], -1048576 ≤ m ∧ m ≤ 1048576) := fun m hm => (HCB.out _ (by rw [getD_of _ _ _ f2]; exact List.getElem_mem _) m hm).2
      have hyl : (cls.getD kk []).length ≤ 65536 := HCL.out _ (by rw [getD_of _ _ _ f2]; exact List.getElem_mem _)
      have HON : Hid (∀ m, Calls Try.prog 20 #[.slice aA cls.length cA, .slice aR (cls.getD kk []).length (cls.getD kk []).length] (w3.drewN m) fun e w' => e = .returned (.bool true) ∧ ∃ m', w' = (w3.drewN m).drewN m') := fun m => one_any (w3.drewN m) (HR6.out m) (HR1.out m) hcll HCL.out f2 rfl
      have HHL : Hid (∀ m, Calls Try.prog 38 #[.slice aR (cls.getD kk []).length (cls.getD kk []).length, .int .i64 (-(n : Int))] (w3.drewN m) fun e w' => e = .returned (.bool true) ∧ ∃ m', w' = (w3.drewN m).drewN m') := fun m => by
        have h5 := lhas_any (cp := (cls.getD kk []).length) (w3.drewN m) (HR1.out m) (by omega) (-(n : Int))
        rw [decide_eq_true f5] at h5
        exact h5
      have HF6 : Hid (∀ m ∈ cls.getD kk [], m = (-(n : Int)) ∨ -m ∈ sn) := f6
      have HF4 : Hid (¬ (1 ≤ lv ∧ dec.getD (lv - 1) 0 = (-(n : Int)))) := f4
      have HHS : Hid (∀ m x, -x ∈ sn → Calls Try.prog 38 #[.slice aS sl cS, .int .i64 (-x)] (w3.drewN m) fun e w' => e = .returned (.bool true) ∧ ∃ m', w' = (w3.drewN m).drewN m') := fun m x hx => by
        have h5 := lhas_any (cp := cS) (w3.drewN m) (HR2.out m) (by have := HSLE.out; omega) (-x)
        rw [decide_eq_true hx, HSL.out] at h5
        exact h5
      clear f1 f3 f4 f5 f6 HCASE HR6 HR2 HR3 HCB HCL
      generalize cls.getD kk [] = ys at *
      obtain ⟨yl, hyl2⟩ : ∃ yl, ys.length = yl := ⟨_, rfl⟩
      have HYL : Hid (ys.length = yl) := hyl2
      rw [hyl2] at HON HHL hyl ⊢
      clear hyl2
      generalize cls.length = cl at *
      have HD : Hid (lv = 0 ∨ ∃ l1 bD x, lv = l1 + 1 ∧ aD = some ⟨bD, 0, none⟩ ∧ w3.cell? ⟨bD, l1, none⟩ = some (.int .i64 x) ∧ l1 < dl ∧ (x == (-(n : Int))) = false) := by
        show _ ∨ _
        by_cases e : lv = 0
        · exact Or.inl e
        · obtain ⟨bD, e1, e2⟩ := r7 (lv - 1) (by omega)
          exact Or.inr ⟨lv - 1, bD, _, by omega, e1, e2 0, by omega, beq_false_of_ne (fun h => HF4.out ⟨by omega, h⟩)⟩
      clear r7 HF4 HSLE
      have HLOOP : Hid (∀ j, j < yl → ∃ a o, aR = some ⟨a, o, none⟩ ∧ (∀ m, (w3.drewN m).cell? ⟨a, o + j, none⟩ = some (.int .i64 (ys.getD j 0))) ∧ -1048576 ≤ ys.getD j 0 ∧ ys.getD j 0 ≤ 1048576 ∧ (ys.getD j 0 = (-(n : Int)) ∨ -(ys.getD j 0) ∈ sn)) := fun j hj => by
        have hj' : j < ys.length := by rw [HYL.out]; exact hj
        obtain ⟨a, o, e1, e2⟩ := HR1.out 0 (by omega)
        have hm : ys.getD j 0 ∈ ys := getD_mem hj'
        exact ⟨a, o, e1, fun _ => e2 j hj', (HLB.out _ hm).1, (HLB.out _ hm).2, HF6.out _ hm⟩
      clear HR1 HLB HF6
      rcases HD.out with rfl | ⟨l1, bD, x, rfl, rfl, d1, d2, d3⟩
      · have g1 : decide ((1 : Int) ≤ ((0 : Nat) : Int)) = false := decide_eq_false (by omega)
        go_wp2_with fail
        refine (HHL.out 0).mono ?_
        rintro e w4 ⟨rfl, m4, rfl⟩
        rw [show (w3.drewN 0).drewN m4 = w3.drewN (0 + m4) from World.drewN_drewN _ _ _]
        generalize 0 + m4 = m5
        have s5m := s5 m5
        go_wp2_with fail
        refine (HON.out m5).mono ?_
        rintro e w4 ⟨rfl, m6, rfl⟩
        rw [World.drewN_drewN]
        generalize m5 + m6 = m7
        clear s5m s5' s4
        go_wp2_with fail
        go_loopg [12] yl (fun gk s12 wr => ∃ j : Nat, s12 = .int .i64 (j : Int) ∧ j + gk = yl ∧ ∃ m, w3.drewN m = wr)
        case atStart => exact ⟨0, rfl, by omega, m7, rfl⟩
        case round =>
          obtain ⟨j, rfl, hj, m8, rfl⟩ := hrel
          by_cases hlt : j < yl
          · obtain ⟨a, o, rfl, c1, c2, c3, c4⟩ := HLOOP.out j hlt
            have c1m := c1 m8
            have g3 : (j : Int) < (yl : Int) := by omega
            by_cases he : ys.getD j 0 = (-(n : Int))
            · rw [he] at c1m
              clear c1 c2 c3 c4 he
              go_wp2_with fail
              first
              | (go_roundg (gk - 1)
                 case measure => omega
                 case rel => exact ⟨j + 1, by simp, by omega, m8, rfl⟩)
              | (go_quiet (fail)
                 go_wp2
                 go_roundg (gk - 1)
                 case measure => omega
                 case rel => exact ⟨j + 1, by simp, by omega, _, rfl⟩)
            · have HHx : Hid (∀ m, Calls Try.prog 38 #[.slice aS sl cS, .int .i64 (-(ys.getD j 0))] (w3.drewN m) fun e w' => e = .returned (.bool true) ∧ ∃ m', w' = (w3.drewN m).drewN m') := fun m => HHS.out m _ (c4.resolve_left he)
              have g4 : (ys.getD j 0 != (-(n : Int))) = true := bne_iff_ne.2 he
              clear c1 c4 he
              generalize ys.getD j 0 = x2 at *
              obtain ⟨W1, hW1⟩ : ∃ W1, w3.drewN m8 = W1 := ⟨_, rfl⟩
              have HW8 : Hid (w3.drewN m8 = W1) := hW1
              have HHy : Hid (∀ m, Calls Try.prog 38 #[.slice aS sl cS, .int .i64 (-x2)] (W1.drewN m) fun e w' => e = .returned (.bool true) ∧ ∃ m', w' = (W1.drewN m).drewN m') := fun m => by
                rw [← HW8.out, World.drewN_drewN]
                exact HHx.out _
              rw [hW1] at c1m ⊢
              clear hW1 HHx
              go_wp2_with fail
              first
              | (go_quiet ((go_at_call 38; exact Calls.quiet_of (HHy.out _)))
                 go_wp2
                 go_roundg (gk - 1)
                 case measure => omega
                 case rel => exact ⟨j + 1, by simp, by omega, _, by rw [← HW8.out, World.drewN_drewN]⟩)
              | (refine (HHy.out 0).mono ?_
                 rintro e w5 ⟨rfl, m9, rfl⟩
                 have HW9 : Aside (w3.drewN (m8 + (0 + m9)) = (W1.drewN 0).drewN m9) := (by show _ = _; rw [← HW8.out, World.drewN_drewN, World.drewN_drewN])
                 generalize (W1.drewN 0).drewN m9 = W9 at *
                 go_wp2
                 go_roundg (gk - 1)
                 case measure => omega
                 case rel => exact ⟨j + 1, by simp, by omega, _, HW9.out⟩)
          · have hjy : j = yl := by omega
            subst hjy
            have HP4 : Hid (PP (.returned (.bool true)) (w3.drewN m8)) := HP3.out m8
            go_wp2
            first | exact HP4.out | (go_ret; exact HP4.out) | (go_ret2; exact HP4.out)
      · have g1 : (1 : Int) ≤ ((l1 + 1 : Nat) : Int) := by omega
        have g2 : (l1 : Int) < (dl : Int) := by omega
        go_wp2_with fail
        refine (HHL.out 0).mono ?_
        rintro e w4 ⟨rfl, m4, rfl⟩
        rw [show (w3.drewN 0).drewN m4 = w3.drewN (0 + m4) from World.drewN_drewN _ _ _]
        generalize 0 + m4 = m5
        have s5m := s5 m5
        go_wp2_with fail
        refine (HON.out m5).mono ?_
        rintro e w4 ⟨rfl, m6, rfl⟩
        rw [World.drewN_drewN]
        generalize m5 + m6 = m7
        clear s5m s5' s4
        go_wp2_with fail
        go_loopg [12] yl (fun gk s12 wr => ∃ j : Nat, s12 = .int .i64 (j : Int) ∧ j + gk = yl ∧ ∃ m, w3.drewN m = wr)
        case atStart => exact ⟨0, rfl, by omega, m7, rfl⟩
        case round =>
          obtain ⟨j, rfl, hj, m8, rfl⟩ := hrel
          by_cases hlt : j < yl
          · obtain ⟨a, o, rfl, c1, c2, c3, c4⟩ := HLOOP.out j hlt
            have c1m := c1 m8
            have g3 : (j : Int) < (yl : Int) := by omega
            by_cases he : ys.getD j 0 = (-(n : Int))
            · rw [he] at c1m
              clear c1 c2 c3 c4 he
              go_wp2_with fail
              first
              | (go_roundg (gk - 1)
                 case measure => omega
                 case rel => exact ⟨j + 1, by simp, by omega, m8, rfl⟩)
              | (go_quiet (fail)
                 go_wp2
                 go_roundg (gk - 1)
                 case measure => omega
                 case rel => exact ⟨j + 1, by simp, by omega, _, rfl⟩)
            · have HHx : Hid (∀ m, Calls Try.prog 38 #[.slice aS sl cS, .int .i64 (-(ys.getD j 0))] (w3.drewN m) fun e w' => e = .returned (.bool true) ∧ ∃ m', w' = (w3.drewN m).drewN m') := fun m => HHS.out m _ (c4.resolve_left he)
              have g4 : (ys.getD j 0 != (-(n : Int))) = true := bne_iff_ne.2 he
              clear c1 c4 he
              generalize ys.getD j 0 = x2 at *
              obtain ⟨W1, hW1⟩ : ∃ W1, w3.drewN m8 = W1 := ⟨_, rfl⟩
              have HW8 : Hid (w3.drewN m8 = W1) := hW1
              have HHy : Hid (∀ m, Calls Try.prog 38 #[.slice aS sl cS, .int .i64 (-x2)] (W1.drewN m) fun e w' => e = .returned (.bool true) ∧ ∃ m', w' = (W1.drewN m).drewN m') := fun m => by
                rw [← HW8.out, World.drewN_drewN]
                exact HHx.out _
              rw [hW1] at c1m ⊢
              clear hW1 HHx
              go_wp2_with fail
              first
              | (go_quiet ((go_at_call 38; exact Calls.quiet_of (HHy.out _)))
                 go_wp2
                 go_roundg (gk - 1)
                 case measure => omega
                 case rel => exact ⟨j + 1, by simp, by omega, _, by rw [← HW8.out, World.drewN_drewN]⟩)
              | (refine (HHy.out 0).mono ?_
                 rintro e w5 ⟨rfl, m9, rfl⟩
                 have HW9 : Aside (w3.drewN (m8 + (0 + m9)) = (W1.drewN 0).drewN m9) := (by show _ = _; rw [← HW8.out, World.drewN_drewN, World.drewN_drewN])
                 generalize (W1.drewN 0).drewN m9 = W9 at *
                 go_wp2
                 go_roundg (gk - 1)
                 case measure => omega
                 case rel => exact ⟨j + 1, by simp, by omega, _, HW9.out⟩)
          · have hjy : j = yl := by omega
            subst hjy
            have HP4 : Hid (PP (.returned (.bool true)) (w3.drewN m8)) := HP3.out m8
            go_wp2
            first | exact HP4.out | (go_ret; exact HP4.out) | (go_ret2; exact HP4.out)
  · obtain ⟨n, rfl⟩ : ∃ n : Nat, l = (n : Int) := ⟨l.toNat, by omega⟩
    rw [if_neg h0] at hv
    subst hv
    rw [if_neg h0] at HV
    have q3 : Int.tdiv (n : Int) (n : Int) = 1 := Int.tdiv_self (by omega)
    have q0 : (0 : Int) < (n : Int) := by omega
    have q1 : -1048576 ≤ -(n : Int) := by omega
    have q2 : -(n : Int) ≤ 1048576 := by omega
    have q2' : (n : Int) ≤ 1048576 := by omega
    have q4 : ((n : Int) == 0) = false := beq_false_of_ne (by omega)
    have q6 : decide ((lv : Int) < 0) = false := decide_eq_false (by omega)
    have q7 : decide ((S.marks.length : Int) < (lv : Int)) = false := decide_eq_false (by omega)
    have q8 : decide ((dec.length : Int) < (lv : Int)) = false := decide_eq_false (by omega)
    clear hlb hne
    obtain ⟨sl, hsl⟩ : ∃ sl, sn.length = sl := ⟨_, rfl⟩
    rw [hsl] at HH1 HH2 ⊢
    have HSL : Hid (sn.length = sl) := hsl
    have HSLE : Hid (sn.length ≤ 1048576) := hSl
    have HCASE : Hid ((rsnE S (n : Int) = none ∧ 1 ≤ lv ∧ dec.getD (lv - 1) 0 = (n : Int)) ∨ ∃ kk, rsnE S (n : Int) = some kk ∧ kk < cls.length ∧ clL S (some kk) = cls.getD kk [] ∧ ¬ (1 ≤ lv ∧ dec.getD (lv - 1) 0 = (n : Int)) ∧ (n : Int) ∈ cls.getD kk [] ∧ ∀ m ∈ cls.getD kk [], m = (n : Int) ∨ -m ∈ sn) := hcase
    clear hsl hSl hcase
    obtain ⟨dl, hdl2⟩ : ∃ dl, dec.length = dl := ⟨_, rfl⟩
    rw [hdl2] at HRS k1 q8 hdl lv1
    clear hdl2
    generalize S.marks.length = ml at *
    go_enter Try.func16, Try.ntmps16
    go_wp2_with fail
    first | (go_quiet (first
      | (go_at_call_of 38 (-(n : Int)); exact Calls.quiet_of (HH2.out _))
      | (go_at_call 38; exact Calls.quiet_of (HH1.out _))
      | (go_at_call 30; exact Calls.quiet_of (HV.out _)))) | fail
    go_wp2_with fail
    refine (HLv.out _).mono ?_
    rintro e w1 ⟨rfl, m1, rfl⟩
    obtain ⟨W1, m2, hW1⟩ : ∃ W1 m2, w.drewN m2 = W1 ∧ (w.drewN nq).drewN m1 = W1 := ⟨_, nq + m1, rfl, by rw [World.drewN_drewN]⟩
    have HW1 : Hid (w.drewN m2 = W1) := hW1.1
    have k1m : W1.cell? ⟨b, 1, none⟩ = some (.slice aD dl cD) := by rw [← hW1.1]; exact k1 m2
    have HLe1 : Hid (Calls Try.prog 34 #[.pointer (some ⟨g, 0, none⟩)] W1 fun e w' => e = .returned (.int .i64 (ml : Int)) ∧ w' = W1) := by
      show Calls _ _ _ _ _
      rw [← HW1.out]
      exact HLe.out _
    have HRe1 : Hid (Calls Try.prog 39 #[.pointer (some ⟨g, 0, none⟩), .int .i64 (n : Int)] W1 (Told1 W1 g O1 S p (clL S (rsnE S (n : Int))))) := by
      show Calls _ _ _ _ _
      rw [← HW1.out]
      exact HRe.out _
    have HRS1 := HRS.out m2
    rw [HW1.out] at HRS1
    rw [hW1.2]
    have HRS2 : Hid (_) := HRS1
    clear hW1 q3 q4 q0 HRS1 HRS HRe HLe HLv HV HH1 HH2
    go_wp2_with fail
    refine HLe1.out.mono ?_
    rintro e w2 ⟨rfl, hw2⟩
    obtain rfl := hw2.symm
    go_wp2_with fail
    refine HRe1.out.mono ?_
    rintro e w3 ⟨vv, rfl, h3, h4, h5⟩
    obtain ⟨aR, rfl, r1, r2, r3, r4, r5, r6, r7⟩ := HRS2.out vv w3 h3 h4 h5
    clear h3 h4 h5 HRS2 HRe1 HLe1 k1m k1
    have HR1 : Hid (∀ m', Row (w3.drewN m') aR (clL S (rsnE S (n : Int)))) := r1
    have HR2 : Hid (∀ m', Row (w3.drewN m') aS sn) := r2
    have HR3 : Hid (∀ m', Mem (w3.drewN m') g O1 S p ∧ Fr O1 w (w3.drewN m') O1) := r3
    have HR6 : Hid (∀ m', Rows2 (w3.drewN m') aA cls) := r6
    have s4 : w3.cell? ⟨b, 1, none⟩ = some (.slice aD dl cD) := r4 0
    have s5 : ∀ m', (w3.drewN m').cell? ⟨b, 0, none⟩ = some (.slice aA cls.length cA) := r5
    have s5' : w3.cell? ⟨b, 0, none⟩ = some (.slice aA cls.length cA) := r5 0
    have HP3 : Hid (∀ m, PP (.returned (.bool true)) (w3.drewN m)) := fun m => HPP.out _ (HR3.out m).1 (HR3.out m).2
    have HP3' : Hid (PP (.returned (.bool true)) w3) := HP3.out 0
    clear r1 r2 r3 r4 r5 r6
    rcases HCASE.out with ⟨f1, f2, f3⟩ | ⟨kk, f1, f2, f3, f4, f5, f6⟩
    · obtain ⟨bD, rfl, d1⟩ := r7 (lv - 1) (by omega)
      rw [f3] at d1
      have d2 : w3.cell? ⟨bD, lv - 1, none⟩ = some (.int .i64 (n : Int)) := d1 0
      rw [f1]
      have e0 : (clL S none).length = 0 := rfl
      rw [e0]
      clear f3 HCASE r7 d1 e0 f1
      obtain ⟨l1, rfl⟩ : ∃ l1, lv = l1 + 1 := ⟨lv - 1, by omega⟩
      rw [Nat.add_sub_cancel] at d2
      have g1 : (1 : Int) ≤ ((l1 + 1 : Nat) : Int) := by omega
      have g2 : (l1 : Int) < (dl : Int) := by omega
      go_wp2
      first | exact HP3'.out | (go_ret; exact HP3'.out) | (go_ret2; exact HP3'.out)
    · rw [f1, f3]
      rw [f1, f3] at HR1
      have HLB : Hid (∀ m ∈ cls.getD kk [], -1048576 ≤ m ∧ m ≤ 1048576) := fun m hm => (HCB.out _ (by rw [getD_of _ _ _ f2]; exact List.getElem_mem _) m hm).2
      have hyl : (cls.getD kk []).length ≤ 65536 := HCL.out _ (by rw [getD_of _ _ _ f2]; exact List.getElem_mem _)
      have HON : Hid (∀ m, Calls Try.prog 20 #[.slice aA cls.length cA, .slice aR (cls.getD kk []).length (cls.getD kk []).length] (w3.drewN m) fun e w' => e = .returned (.bool true) ∧ ∃ m', w' = (w3.drewN m).drewN m') := fun m => one_any (w3.drewN m) (HR6.out m) (HR1.out m) hcll HCL.out f2 rfl
      have HHL : Hid (∀ m, Calls Try.prog 38 #[.slice aR (cls.getD kk []).length (cls.getD kk []).length, .int .i64 (n : Int)] (w3.drewN m) fun e w' => e = .returned (.bool true) ∧ ∃ m', w' = (w3.drewN m).drewN m') := fun m => by
        have h5 := lhas_any (cp := (cls.getD kk []).length) (w3.drewN m) (HR1.out m) (by omega) (n : Int)
        rw [decide_eq_true f5] at h5
        exact h5
      have HF6 : Hid (∀ m ∈ cls.getD kk [], m = (n : Int) ∨ -m ∈ sn) := f6
      have HF4 : Hid (¬ (1 ≤ lv ∧ dec.getD (lv - 1) 0 = (n : Int))) := f4
      have HHS : Hid (∀ m x, -x ∈ sn → Calls Try.prog 38 #[.slice aS sl cS, .int .i64 (-x)] (w3.drewN m) fun e w' => e = .returned (.bool true) ∧ ∃ m', w' = (w3.drewN m).drewN m') := fun m x hx => by
        have h5 := lhas_any (cp := cS) (w3.drewN m) (HR2.out m) (by have := HSLE.out; omega) (-x)
        rw [decide_eq_true hx, HSL.out] at h5
        exact h5
      clear f1 f3 f4 f5 f6 HCASE HR6 HR2 HR3 HCB HCL
      generalize cls.getD kk [] = ys at *
      obtain ⟨yl, hyl2⟩ : ∃ yl, ys.length = yl := ⟨_, rfl⟩
      have HYL : Hid (ys.length = yl) := hyl2
      rw [hyl2] at HON HHL hyl ⊢
      clear hyl2
      generalize cls.length = cl at *
      have HD : Hid (lv = 0 ∨ ∃ l1 bD x, lv = l1 + 1 ∧ aD = some ⟨bD, 0, none⟩ ∧ w3.cell? ⟨bD, l1, none⟩ = some (.int .i64 x) ∧ l1 < dl ∧ (x == (n : Int)) = false) := by
        show _ ∨ _
        by_cases e : lv = 0
        · exact Or.inl e
        · obtain ⟨bD, e1, e2⟩ := r7 (lv - 1) (by omega)
          exact Or.inr ⟨lv - 1, bD, _, by omega, e1, e2 0, by omega, beq_false_of_ne (fun h => HF4.out ⟨by omega, h⟩)⟩
      clear r7 HF4 HSLE
      have HLOOP : Hid (∀ j, j < yl → ∃ a o, aR = some ⟨a, o, none⟩ ∧ (∀ m, (w3.drewN m).cell? ⟨a, o + j, none⟩ = some (.int .i64 (ys.getD j 0))) ∧ -1048576 ≤ ys.getD j 0 ∧ ys.getD j 0 ≤ 1048576 ∧ (ys.getD j 0 = (n : Int) ∨ -(ys.getD j 0) ∈ sn)) := fun j hj => by
        have hj' : j < ys.length := by rw [HYL.out]; exact hj
        obtain ⟨a, o, e1, e2⟩ := HR1.out 0 (by omega)
        have hm : ys.getD j 0 ∈ ys := getD_mem hj'
        exact ⟨a, o, e1, fun _ => e2 j hj', (HLB.out _ hm).1, (HLB.out _ hm).2, HF6.out _ hm⟩
      clear HR1 HLB HF6
      rcases HD.out with rfl | ⟨l1, bD, x, rfl, rfl, d1, d2, d3⟩
      · have g1 : decide ((1 : Int) ≤ ((0 : Nat) : Int)) = false := decide_eq_false (by omega)
        go_wp2_with fail
        refine (HHL.out 0).mono ?_
        rintro e w4 ⟨rfl, m4, rfl⟩
        rw [show (w3.drewN 0).drewN m4 = w3.drewN (0 + m4) from World.drewN_drewN _ _ _]
        generalize 0 + m4 = m5
        have s5m := s5 m5
        go_wp2_with fail
        refine (HON.out m5).mono ?_
        rintro e w4 ⟨rfl, m6, rfl⟩
        rw [World.drewN_drewN]
        generalize m5 + m6 = m7
        clear s5m s5' s4
        go_wp2_with fail
        go_loopg [12] yl (fun gk s12 wr => ∃ j : Nat, s12 = .int .i64 (j : Int) ∧ j + gk = yl ∧ ∃ m, w3.drewN m = wr)
        case atStart => exact ⟨0, rfl, by omega, m7, rfl⟩
        case round =>
          obtain ⟨j, rfl, hj, m8, rfl⟩ := hrel
          by_cases hlt : j < yl
          · obtain ⟨a, o, rfl, c1, c2, c3, c4⟩ := HLOOP.out j hlt
            have c1m := c1 m8
            have g3 : (j : Int) < (yl : Int) := by omega
            by_cases he : ys.getD j 0 = (n : Int)
            · rw [he] at c1m
              clear c1 c2 c3 c4 he
              go_wp2_with fail
              first
              | (go_roundg (gk - 1)
                 case measure => omega
                 case rel => exact ⟨j + 1, by simp, by omega, m8, rfl⟩)
              | (go_quiet (fail)
                 go_wp2
                 go_roundg (gk - 1)
                 case measure => omega
                 case rel => exact ⟨j + 1, by simp, by omega, _, rfl⟩)
            · have HHx : Hid (∀ m, Calls Try.prog 38 #[.slice aS sl cS, .int .i64 (-(ys.getD j 0))] (w3.drewN m) fun e w' => e = .returned (.bool true) ∧ ∃ m', w' = (w3.drewN m).drewN m') := fun m => HHS.out m _ (c4.resolve_left he)
              have g4 : (ys.getD j 0 != (n : Int)) = true := bne_iff_ne.2 he
              clear c1 c4 he
              generalize ys.getD j 0 = x2 at *
              obtain ⟨W1, hW1⟩ : ∃ W1, w3.drewN m8 = W1 := ⟨_, rfl⟩
              have HW8 : Hid (w3.drewN m8 = W1) := hW1
              have HHy : Hid (∀ m, Calls Try.prog 38 #[.slice aS sl cS, .int .i64 (-x2)] (W1.drewN m) fun e w' => e = .returned (.bool true) ∧ ∃ m', w' = (W1.drewN m).drewN m') := fun m => by
                rw [← HW8.out, World.drewN_drewN]
                exact HHx.out _
              rw [hW1] at c1m ⊢
              clear hW1 HHx
              go_wp2_with fail
              first
              | (go_quiet ((go_at_call 38; exact Calls.quiet_of (HHy.out _)))
                 go_wp2
                 go_roundg (gk - 1)
                 case measure => omega
                 case rel => exact ⟨j + 1, by simp, by omega, _, by rw [← HW8.out, World.drewN_drewN]⟩)
              | (refine (HHy.out 0).mono ?_
                 rintro e w5 ⟨rfl, m9, rfl⟩
                 have HW9 : Aside (w3.drewN (m8 + (0 + m9)) = (W1.drewN 0).drewN m9) := (by show _ = _; rw [← HW8.out, World.drewN_drewN, World.drewN_drewN])
                 generalize (W1.drewN 0).drewN m9 = W9 at *
                 go_wp2
                 go_roundg (gk - 1)
                 case measure => omega
                 case rel => exact ⟨j + 1, by simp, by omega, _, HW9.out⟩)
          · have hjy : j = yl := by omega
            subst hjy
            have HP4 : Hid (PP (.returned (.bool true)) (w3.drewN m8)) := HP3.out m8
            go_wp2
            first | exact HP4.out | (go_ret; exact HP4.out) | (go_ret2; exact HP4.out)
      · have g1 : (1 : Int) ≤ ((l1 + 1 : Nat) : Int) := by omega
        have g2 : (l1 : Int) < (dl : Int) := by omega
        go_wp2_with fail
        refine (HHL.out 0).mono ?_
        rintro e w4 ⟨rfl, m4, rfl⟩
        rw [show (w3.drewN 0).drewN m4 = w3.drewN (0 + m4) from World.drewN_drewN _ _ _]
        generalize 0 + m4 = m5
        have s5m := s5 m5
        go_wp2_with fail
        refine (HON.out m5).mono ?_
        rintro e w4 ⟨rfl, m6, rfl⟩
        rw [World.drewN_drewN]
        generalize m5 + m6 = m7
        clear s5m s5' s4
        go_wp2_with fail
        go_loopg [12] yl (fun gk s12 wr => ∃ j : Nat, s12 = .int .i64 (j : Int) ∧ j + gk = yl ∧ ∃ m, w3.drewN m = wr)
        case atStart => exact ⟨0, rfl, by omega, m7, rfl⟩
        case round =>
          obtain ⟨j, rfl, hj, m8, rfl⟩ := hrel
          by_cases hlt : j < yl
          · obtain ⟨a, o, rfl, c1, c2, c3, c4⟩ := HLOOP.out j hlt
            have c1m := c1 m8
            have g3 : (j : Int) < (yl : Int) := by omega
            by_cases he : ys.getD j 0 = (n : Int)
            · rw [he] at c1m
              clear c1 c2 c3 c4 he
              go_wp2_with fail
              first
              | (go_roundg (gk - 1)
                 case measure => omega
                 case rel => exact ⟨j + 1, by simp, by omega, m8, rfl⟩)
              | (go_quiet (fail)
                 go_wp2
                 go_roundg (gk - 1)
                 case measure => omega
                 case rel => exact ⟨j + 1, by simp, by omega, _, rfl⟩)
            · have HHx : Hid (∀ m, Calls Try.prog 38 #[.slice aS sl cS, .int .i64 (-(ys.getD j 0))] (w3.drewN m) fun e w' => e = .returned (.bool true) ∧ ∃ m', w' = (w3.drewN m).drewN m') := fun m => HHS.out m _ (c4.resolve_left he)
              have g4 : (ys.getD j 0 != (n : Int)) = true := bne_iff_ne.2 he
              clear c1 c4 he
              generalize ys.getD j 0 = x2 at *
              obtain ⟨W1, hW1⟩ : ∃ W1, w3.drewN m8 = W1 := ⟨_, rfl⟩
              have HW8 : Hid (w3.drewN m8 = W1) := hW1
              have HHy : Hid (∀ m, Calls Try.prog 38 #[.slice aS sl cS, .int .i64 (-x2)] (W1.drewN m) fun e w' => e = .returned (.bool true) ∧ ∃ m', w' = (W1.drewN m).drewN m') := fun m => by
                rw [← HW8.out, World.drewN_drewN]
                exact HHx.out _
              rw [hW1] at c1m ⊢
              clear hW1 HHx
              go_wp2_with fail
              first
              | (go_quiet ((go_at_call 38; exact Calls.quiet_of (HHy.out _)))
                 go_wp2
                 go_roundg (gk - 1)
                 case measure => omega
                 case rel => exact ⟨j + 1, by simp, by omega, _, by rw [← HW8.out, World.drewN_drewN]⟩)
              | (refine (HHy.out 0).mono ?_
                 rintro e w5 ⟨rfl, m9, rfl⟩
                 have HW9 : Aside (w3.drewN (m8 + (0 + m9)) = (W1.drewN 0).drewN m9) := (by show _ = _; rw [← HW8.out, World.drewN_drewN, World.drewN_drewN])
                 generalize (W1.drewN 0).drewN m9 = W9 at *
                 go_wp2
                 go_roundg (gk - 1)
                 case measure => omega
                 case rel => exact ⟨j + 1, by simp, by omega, _, HW9.out⟩)
          · have hjy : j = yl := by omega
            subst hjy
            have HP4 : Hid (PP (.returned (.bool true)) (w3.drewN m8)) := HP3.out m8
            go_wp2
            first | exact HP4.out | (go_ret; exact HP4.out) | (go_ret2; exact HP4.out)
end Go.Proofs.Ytpkbigjijihljaa
namespace Go.Proofs.Ytpkbigjijihljaa
open Go.ChangeShapes Go.WideShapes Go.ChangeAt Go.RowKit
open Go.Pr
set_option maxHeartbeats 8000000 in
set_option maxRecDepth 20000 in
theorem bconflict_ok {w : World} {g b B : Nat} {O1 O2 : Nat → Prop} {S : ES} {p : Nat → Value} {cls : List (List Int)} {dec : List Int} {pA pD : Value} {q : Nat → Value} (h : EB w g b B O1 O2 S p cls dec pA pD q) (hr : BREL S cls dec) {aT : Option Addr} {cT : Nat} (hT : Row w aT (S.trail.map litI)) (hTo : ∀ a o, aT = some ⟨a, o, none⟩ → 0 < (S.trail.map litI).length → ¬ O1 a) :
    Calls Try.prog 17 #[.pointer (some ⟨b, 0, none⟩), .pointer (some ⟨g, 0, none⟩), .slice aT (S.trail.map litI).length cT] w fun e w' => e = .returned (.bool true) ∧ Done w g O1 S w' := by
  have hw := hr.full.inv.wf
  have hz := hr.bsz
  generalize hPP : (fun (e : Ending) (w' : World) => e = .returned (.bool true) ∧ Done w g O1 S w') = PP
  have HPP : Hid (∀ w', Done w g O1 S w' → PP (.returned (.bool true)) w') := fun w' h1 => by rw [← hPP]; exact ⟨rfl, h1⟩
  have HCo : Hid (Calls Try.prog 19 #[.pointer (some ⟨g, 0, none⟩)] w (Told1 w g O1 S p (clL S S.clash))) := conflict_mem h.m hw
  obtain ⟨⟨aA, cA, eA⟩, _⟩ := h.bk.formA
  have htl : (S.trail.map litI).length ≤ 1048576 := by rw [List.length_map]; have := hw.trail_len; have := hw.n; omega
  have HRS : Hid (∀ vv w', NewRow w w' vv (clL S S.clash) → Mem w' g O1 S p → Fr O1 w w' O1 → ∃ ad, vv = .slice ad (clL S S.clash).length (clL S S.clash).length ∧ (∀ m', Row (w'.drewN m') ad (clL S S.clash)) ∧ (∀ m', Row (w'.drewN m') aT (S.trail.map litI)) ∧ (∀ m', Mem (w'.drewN m') g O1 S p ∧ Fr O1 w (w'.drewN m') O1) ∧ (∀ m', (w'.drewN m').cell? ⟨b, 0, none⟩ = some (.slice aA cls.length cA)) ∧ (∀ m', Rows2 (w'.drewN m') aA cls)) := fun vv w' e1 e2 e3 => by
    obtain ⟨ad, e4, e5⟩ := e1.row
    obtain ⟨t2, _⟩ := h.told e2 e3
    exact ⟨ad, e4, fun _ => e5, fun _ => hT.fr e3.drewN hTo, fun _ => ⟨e2.drewN, e3.drewN⟩, fun _ => (t2.bk.cell 0).trans (congrArg some eA), fun _ => t2.bk.rows eA⟩
  have hcll := hz.c
  have HCL : Hid (∀ c ∈ cls, c.length ≤ 65536) := hz.cl
  have HCB : Hid (∀ c ∈ cls, ∀ m ∈ c, m ≠ 0 ∧ -1048576 ≤ m ∧ m ≤ 1048576) := hz.cb
  have HAL : Hid (cls = allI S) := hr.all
  cases hc : S.clash with
  | none =>
    rw [hc] at HCo HRS
    have e0 : (clL S none).length = 0 := rfl
    rw [e0] at HRS
    have HW : Hid (∀ w', Mem w' g O1 S p ∧ Fr O1 w w' O1 → Done w g O1 S w') := fun w' h => ⟨O1, p, h.1, h.2⟩
    generalize (S.trail.map litI).length = tl0 at *
    clear hPP h hr hw hz hT hTo HCL HCB HAL hc e0
    go_enter Try.func17, Try.ntmps17
    go_wp2_with fail
    refine HCo.out.mono ?_
    rintro e w3 ⟨vv, rfl, h3, h4, h5⟩
    obtain ⟨aR, rfl, _, _, r3, _, _⟩ := HRS.out vv w3 h3 h4 h5
    have HP3 : Hid (PP (.returned (.bool true)) w3) := HPP.out _ (HW.out _ ⟨h4, h5⟩)
    clear h3 h4 h5 HRS HCo r3
    go_wp2
    first | exact HP3.out | (go_ret; exact HP3.out) | (go_ret2; exact HP3.out)
  | some kk =>
    have hkk := hw.clash kk hc
    have hcla := hr.full.snd.cla kk hc
    have f2 : kk < cls.length := by rw [HAL.out, all_len]; exact hkk
    have f3 : clL S (some kk) = cls.getD kk [] := by rw [HAL.out, all_get hkk]; rfl
    rw [hc, f3] at HCo HRS
    have HF6 : Hid (∀ m ∈ cls.getD kk [], -m ∈ S.trail.map litI) := fun m hm => by
      rw [← f3] at hm
      obtain ⟨z, hz2, rfl⟩ := List.mem_map.1 hm
      have hz3 := hw.inside_mem hz2
      rw [← litI_opp hz3.1]
      exact List.mem_map.2 ⟨_, opp_true hw hz3.1 hz3.2 (hcla z hz2), rfl⟩
    have HDE : Hid (∀ W, Mem W g O1 S p → Calls Try.prog 25 #[.pointer (some ⟨g, 0, none⟩), .int .i64 1] W fun e w' => ∃ x, e = .returned (.int .i64 x) ∧ (x != 0) = true ∧ Done W g O1 S w') := fun W m => by
      have hx : decE S 1 ≠ 0 := by
        unfold decE
        rw [hc]
        split
        · simp
        · decide
      have hS : decS S 1 = S := by unfold decS; rw [if_neg hx]
      have h5 := decide_mem m hw 1
      rw [hS] at h5
      exact h5.mono fun e w' hh => ⟨_, hh.1, bne_iff_ne.2 hx, hh.2⟩
    have HLB : Hid (∀ m ∈ cls.getD kk [], -1048576 ≤ m ∧ m ≤ 1048576) := fun m hm => (HCB.out _ (by rw [getD_of _ _ _ f2]; exact List.getElem_mem _) m hm).2
    have hyl : (cls.getD kk []).length ≤ 65536 := HCL.out _ (by rw [getD_of _ _ _ f2]; exact List.getElem_mem _)
    have HTD : Hid (∀ W w', Mem W g O1 S p ∧ Fr O1 w W O1 → Done W g O1 S w' → Done w g O1 S w') := fun W w' h1 h2 => by
      obtain ⟨O', p', m, f⟩ := h2
      exact ⟨O', p', m, h1.2.trans f⟩
    have HW : Hid (∀ w', Mem w' g O1 S p ∧ Fr O1 w w' O1 → Done w g O1 S w') := fun w' h => ⟨O1, p, h.1, h.2⟩
    clear hPP h hr hw hz hT hTo HCB HAL hc hcla f3
    obtain ⟨tt, htt⟩ : ∃ tt, (S.trail.map litI).length = tt := ⟨_, rfl⟩
    have HTT : Hid ((S.trail.map litI).length = tt) := htt
    have HTL : Hid ((S.trail.map litI).length ≤ 1048576) := htl
    rw [htt]
    clear htt htl
    go_enter Try.func17, Try.ntmps17
    go_wp2_with fail
    refine HCo.out.mono ?_
    rintro e w3 ⟨vv, rfl, h3, h4, h5⟩
    obtain ⟨aR, rfl, r1, r2, r3, r5, r6⟩ := HRS.out vv w3 h3 h4 h5
    have HR1 : Hid (∀ m', Row (w3.drewN m') aR (cls.getD kk [])) := r1
    have HR3 : Hid (∀ m', Mem (w3.drewN m') g O1 S p ∧ Fr O1 w (w3.drewN m') O1) := r3
    have HP3 : Hid (PP (.returned (.bool true)) w3) := HPP.out _ (HW.out _ ⟨h4, h5⟩)
    have HON : Hid (∀ m, Calls Try.prog 20 #[.slice aA cls.length cA, .slice aR (cls.getD kk []).length (cls.getD kk []).length] (w3.drewN m) fun e w' => e = .returned (.bool true) ∧ ∃ m', w' = (w3.drewN m).drewN m') := fun m => one_any (w3.drewN m) (r6 m) (r1 m) hcll HCL.out f2 rfl
    have HHS : Hid (∀ m x, -x ∈ S.trail.map litI → Calls Try.prog 38 #[.slice aT tt cT, .int .i64 (-x)] (w3.drewN m) fun e w' => e = .returned (.bool true) ∧ ∃ m', w' = (w3.drewN m).drewN m') := fun m x hx => by
      have h5 := lhas_any (cp := cT) (w3.drewN m) (r2 m) (by have := HTL.out; omega) (-x)
      rw [decide_eq_true hx, HTT.out] at h5
      exact h5
    have s5 : ∀ m', (w3.drewN m').cell? ⟨b, 0, none⟩ = some (.slice aA cls.length cA) := r5
    clear h3 h4 h5 HRS HCo r1 r2 r3 r5 r6 HCL HTL
    generalize cls.getD kk [] = ys at *
    obtain ⟨yl, hyl2⟩ : ∃ yl, ys.length = yl := ⟨_, rfl⟩
    have HYL : Hid (ys.length = yl) := hyl2
    rw [hyl2] at HON hyl ⊢
    clear hyl2
    generalize cls.length = cl at *
    have HLOOP : Hid (∀ j, j < yl → ∃ a o, aR = some ⟨a, o, none⟩ ∧ (∀ m, (w3.drewN m).cell? ⟨a, o + j, none⟩ = some (.int .i64 (ys.getD j 0))) ∧ -1048576 ≤ ys.getD j 0 ∧ ys.getD j 0 ≤ 1048576 ∧ -(ys.getD j 0) ∈ S.trail.map litI) := fun j hj => by
      have hj' : j < ys.length := by rw [HYL.out]; exact hj
      obtain ⟨a, o, e1, e2⟩ := HR1.out 0 (by omega)
      have hm : ys.getD j 0 ∈ ys := getD_mem hj'
      exact ⟨a, o, e1, fun _ => e2 j hj', (HLB.out _ hm).1, (HLB.out _ hm).2, HF6.out _ hm⟩
    clear HR1 HLB HF6
    by_cases hy0 : yl = 0
    · subst hy0
      go_wp2
      first | exact HP3.out | (go_ret; exact HP3.out) | (go_ret2; exact HP3.out)
    · have g0 : ((yl : Int) == 0) = false := beq_false_of_ne (by omega)
      clear HP3
      go_wp2_with fail
      go_loopg [8] yl (fun gk s8 wr => ∃ j : Nat, s8 = .int .i64 (j : Int) ∧ j + gk = yl ∧ ∃ m, w3.drewN m = wr)
      case atStart => exact ⟨0, rfl, by omega, 0, rfl⟩
      case round =>
        obtain ⟨j, rfl, hj, m8, rfl⟩ := hrel
        by_cases hlt : j < yl
        · obtain ⟨a, o, rfl, c1, c2, c3, c4⟩ := HLOOP.out j hlt
          have c1m := c1 m8
          have g3 : (j : Int) < (yl : Int) := by omega
          have HHx : Hid (∀ m, Calls Try.prog 38 #[.slice aT tt cT, .int .i64 (-(ys.getD j 0))] (w3.drewN m) fun e w' => e = .returned (.bool true) ∧ ∃ m', w' = (w3.drewN m).drewN m') := fun m => HHS.out m _ c4
          clear c1 c4
          generalize ys.getD j 0 = x2 at *
          obtain ⟨W1, hW1⟩ : ∃ W1, w3.drewN m8 = W1 := ⟨_, rfl⟩
          have HW8 : Hid (w3.drewN m8 = W1) := hW1
          have HHy : Hid (∀ m, Calls Try.prog 38 #[.slice aT tt cT, .int .i64 (-x2)] (W1.drewN m) fun e w' => e = .returned (.bool true) ∧ ∃ m', w' = (W1.drewN m).drewN m') := fun m => by
            rw [← HW8.out, World.drewN_drewN]
            exact HHx.out _
          rw [hW1] at c1m ⊢
          clear hW1 HHx
          go_wp2_with fail
          first
          | (go_quiet ((go_at_call 38; exact Calls.quiet_of (HHy.out _)))
             go_wp2
             go_roundg (gk - 1)
             case measure => omega
             case rel => exact ⟨j + 1, by simp, by omega, _, by rw [← HW8.out, World.drewN_drewN]⟩)
          | (refine (HHy.out 0).mono ?_
             rintro e w5 ⟨rfl, m9, rfl⟩
             have HW9 : Aside (w3.drewN (m8 + (0 + m9)) = (W1.drewN 0).drewN m9) := (by show _ = _; rw [← HW8.out, World.drewN_drewN, World.drewN_drewN])
             generalize (W1.drewN 0).drewN m9 = W9 at *
             go_wp2
             go_roundg (gk - 1)
             case measure => omega
             case rel => exact ⟨j + 1, by simp, by omega, _, HW9.out⟩)
        · have hjy : j = yl := by omega
          subst hjy
          have s5m := s5 m8
          go_wp2_with fail
          refine (HON.out m8).mono ?_
          rintro e w4 ⟨rfl, m6, rfl⟩
          rw [World.drewN_drewN]
          generalize m8 + m6 = m7
          clear s5m
          go_wp2_with fail
          refine (HDE.out _ (HR3.out m7).1).mono ?_
          rintro e w6 ⟨x, rfl, hx, hd⟩
          have HP6 : Hid (PP (.returned (.bool true)) w6) := HPP.out _ (HTD.out _ _ (HR3.out m7) hd)
          clear hd
          go_wp2
          first | exact HP6.out | (go_ret; exact HP6.out) | (go_ret2; exact HP6.out)
end Go.Proofs.Ytpkbigjijihljaa
namespace Go.Proofs.Ytpkbigjijihljaa
open Go.ChangeShapes Go.WideShapes Go.ChangeAt Go.RowKit
open Go.Pr
/-- an engine in a conflict -/
def Stf (w : World) (g b B : Nat) (W : World) : Prop := ∃ S O1 O2 p cls dec pA pD q, BREL S cls dec ∧ EB W g b B O1 O2 S p cls dec pA pD q ∧ Below B w W ∧ ∃ kk, S.clash = some kk
theorem Stb.prop3 {w W : World} {g b B : Nat} (h : Stb w g b B W) :
    Calls Try.prog 18 #[.pointer (some ⟨g, 0, none⟩)] W fun e w' => ∃ u, e = .returned (.bool u) ∧ Stb w g b B w' ∧ (u = false → Stf w g b B w') := by
  obtain ⟨S, O1, O2, p, cls, dec, pA, pD, q, h1, h2, h3⟩ := h
  refine (propagate_mem h2.m h1.full).mono fun e w' hh => ?_
  obtain ⟨u, he, T, t1, t2, t3, t4⟩ := hh
  have hr := h1.runs t1
  obtain ⟨O1', p', t5, _, bl⟩ := h2.e t4
  refine ⟨u, he, ⟨T, O1', O2, p', cls, dec, pA, pD, q, hr, t5, h3.trans bl⟩, fun e => ⟨T, O1', O2, p', cls, dec, pA, pD, q, hr, t5, h3.trans bl, ?_⟩⟩
  cases hc : T.clash with
  | none => exact absurd hc (t3 e)
  | some k => exact ⟨k, rfl⟩
theorem Stf.conflict {w W : World} {g b B : Nat} (h : Stf w g b B W) :
    Calls Try.prog 19 #[.pointer (some ⟨g, 0, none⟩)] W fun e w' => ∃ ad n, e = .returned (.slice ad n n) ∧ n ≤ 65536 ∧ Stb w g b B w' ∧ (n = 0 → ∃ aA K cA, w'.cell? ⟨b, 0, none⟩ = some (.slice aA K cA) ∧ Calls Try.prog 20 #[.slice aA K cA, .slice none 0 0] w' fun e w2 => e = .returned (.bool true) ∧ Stb w g b B w2) := by
  obtain ⟨S, O1, O2, p, cls, dec, pA, pD, q, h1, h2, h3, kk, hc⟩ := h
  have hw := h1.full.inv.wf
  have hz := h1.bsz
  have hkk := hw.clash kk hc
  have f2 : kk < cls.length := by rw [h1.all, all_len]; exact hkk
  have f3 : clL S (some kk) = cls.getD kk [] := by rw [h1.all, all_get hkk]; rfl
  refine (conflict_mem h2.m hw).mono fun e w' hh => ?_
  obtain ⟨v, e1, e2, e3, e4⟩ := hh
  rw [hc, f3] at e2
  obtain ⟨t2, bl⟩ := h2.told e3 e4
  obtain ⟨ad, e5, e6⟩ := e2.row
  rw [e5] at e1
  have hS : Stb w g b B w' := ⟨S, O1, O2, p, cls, dec, pA, pD, q, h1, t2, h3.trans bl⟩
  refine ⟨ad, _, e1, hz.cl _ (by rw [getD_of _ _ _ f2]; exact List.getElem_mem _), hS, fun h0 => ?_⟩
  obtain ⟨⟨aA, cA, eA⟩, _⟩ := t2.bk.formA
  refine ⟨aA, cls.length, cA, (t2.bk.cell 0).trans (congrArg some eA), ?_⟩
  have h5 := one_any (cA := cA) (cp := 0) (ad := none) (xs := []) w' (t2.bk.rows eA) (fun h => absurd h (Nat.lt_irrefl 0)) hz.c hz.cl f2 (List.eq_nil_of_length_eq_zero h0)
  refine h5.mono fun e w2 hh => ⟨hh.1, ?_⟩
  obtain ⟨m, rfl⟩ := hh.2
  exact hS.drewN
/-- within a round: the literals that were seen -/
def Seen (w3 : World) (g : Nat) (O1 : Nat → Prop) (S : ES) (p : Nat → Value) (k : Nat) (vS : Value) (wr : World) : Prop :=
  Mem wr g O1 S p ∧ Fr O1 w3 wr O1 ∧ wr.ownsRow w3.heap.size 3 1 vS k (((S.trail.take k).map litI).map (Value.int .i64))
theorem Seen.row {w3 wr : World} {g : Nat} {O1 : Nat → Prop} {S : ES} {p : Nat → Value} {k : Nat} {vS : Value} (h : Seen w3 g O1 S p k vS wr) (hk : k ≤ S.trail.length) (ho : ∀ k, O1 k → k < w3.heap.size) : ∃ aS cS, vS = .slice aS k cS ∧ k ≤ cS ∧ Row wr aS ((S.trail.take k).map litI) ∧ (∀ a o, aS = some ⟨a, o, none⟩ → 0 < ((S.trail.take k).map litI).length → ¬ O1 a) := by
  have hl : ((S.trail.take k).map litI).length = k := by rw [List.length_map, List.length_take]; omega
  have h1 := h.2.2
  rcases h.2.2.2 with ⟨e, h0⟩ | ⟨b, cap, cur, e, hb, hbl, hc, _⟩
  · refine ⟨none, 0, by rw [e, h0], by omega, fun h5 => absurd h5 (by omega), fun a o h5 => by cases h5⟩
  · rw [e] at h1
    refine ⟨_, cap, e, hc, fun h5 => ⟨b, 0, rfl, fun j hj => ?_⟩, fun a o h5 _ h6 => ?_⟩
    · rw [Nat.zero_add, h1.cellAt j (by omega), List.getElem?_map, List.getElem?_eq_getElem hj, getD_of _ _ _ hj]
      rfl
    · injection h5 with h5
      injection h5 with h7 _ _
      have := ho a h6
      omega
theorem Seen.over {w3 wr w' : World} {g : Nat} {O1 : Nat → Prop} {S : ES} {p : Nat → Value} {k : Nat} {vS : Value} (h : Seen w3 g O1 S p k vS wr) (ho : ∀ k, O1 k → k < w3.heap.size) (m : Mem w' g O1 S p) (f : Fr O1 wr w' O1) : Seen w3 g O1 S p k vS w' := by
  refine ⟨m, h.2.1.trans f, row_same h.2.2 (fun x hx => ?_)⟩
  rcases h.2.2.2 with ⟨e, h0⟩ | ⟨b, cap, cur, e, hb, hbl, hc, _⟩
  · rw [e] at hx; cases hx
  · rw [e] at hx
    have e2 : b = x := by simpa [Value.ownBlock] using hx
    subst e2
    exact f.kept b (Array.getElem?_eq_some_iff.1 hbl).1 (fun h5 => by have := ho b h5; omega)
theorem Seen.next {w3 wr w4 : World} {g : Nat} {O1 : Nat → Prop} {S : ES} {p : Nat → Value} {k : Nat} {vS v' : Value} {o : Obj} (h : Seen w3 g O1 S p k vS wr) (hk : k < S.trail.length) (hgr : (wr.alloc o).grownBy w4 vS.ownBlock) (hr : w4.ownsRow w3.heap.size 3 1 v' (k + 1) (((S.trail.take k).map litI).map (Value.int .i64) ++ [.int .i64 (litI (S.trail.getD k 0))])) (ho : ∀ k, O1 k → k < w3.heap.size) : Seen w3 g O1 S p (k + 1) v' w4 := by
  have hsz : wr.heap.size ≤ w4.heap.size := by have := hgr.size; simp at this; omega
  have hvb : ∀ x, vS.ownBlock = some x → w3.heap.size ≤ x := fun x hx => by
    rcases h.2.2.2 with ⟨e, h0⟩ | ⟨b, cap, cur, e, hb, hbl, hc, _⟩
    · rw [e] at hx; cases hx
    · rw [e] at hx
      have e2 : b = x := by simpa [Value.ownBlock] using hx
      omega
  have hk4 : ∀ x, x < w3.heap.size → w4.heap[x]? = wr.heap[x]? := fun x hx => by
    have h5 := h.2.1.size
    exact (hgr.block x (by simp; omega) (fun e => by have := hvb x e.symm; omega)).trans (Below.heap_alloc _ _ x (by omega))
  refine ⟨h.1.kept hsz (fun x hx => hk4 x (ho x hx)), ?_, ?_⟩
  · have f := h.2.1
    exact ⟨hgr.os.trans f.os, hgr.tape.trans f.tape, hgr.output.trans f.output, Nat.le_trans f.size hsz, fun x hx hO => (hk4 x hx).trans (f.kept x hx hO), fun x hx => Or.inl hx⟩
  · have e : ((S.trail.take (k + 1)).map litI).map (Value.int .i64) = ((S.trail.take k).map litI).map (Value.int .i64) ++ [.int .i64 (litI (S.trail.getD k 0))] := by
      rw [List.take_add_one, List.map_append, List.map_append, List.getElem?_eq_getElem hk, getD_of _ _ _ hk]
      rfl
    rw [e]
    exact hr
end Go.Proofs.Ytpkbigjijihljaa
namespace Go.Proofs.Ytpkbigjijihljaa
open Go.ChangeShapes Go.WideShapes Go.ChangeAt Go.RowKit
open Go.Pr
set_option maxHeartbeats 8000000 in
set_option maxRecDepth 20000 in
theorem reasons_walk (vars : Int) {ad : Option Addr} {cp : Nat} {sc : List OP} (w : World) (hs : SCR w w.heap.size ad sc) (hl : sc.length ≤ 17592186044416) :
    Calls Try.prog 8 #[.int .i64 vars, .slice ad sc.length cp] w fun e w' => e = .returned (.bool true) ∧ Below w.heap.size w w' := by
  by_cases h : vars < 0 ∨ 1048576 < vars
  · clear hs hl
    generalize sc.length = n
    go_enter Try.func8, Try.ntmps8
    go_wp2_with fail
    refine (first_no vars h w).mono ?_
    rintro e w1 ⟨rfl, hb⟩
    go_wp2
    go_ret
    exact ⟨rfl, hb⟩
  · obtain ⟨n, rfl⟩ : ∃ n : Nat, vars = n := ⟨vars.toNat, by omega⟩
    have hn : n ≤ 1048576 := by omega
    have HBo : Hid (Calls Try.prog 14 #[.int .i64 (n : Int)] w fun e w' => ∃ g, e = .returned (.tuple #[.pointer (some ⟨g, 0, none⟩), .bool true]) ∧ Stb w g w'.heap.size w.heap.size (w'.alloc (.cells #[.slice none 0 0, .slice none 0 0] 42))) := (first_ok n hn w).mono fun e w' hh => by
      obtain ⟨g, O, p, e1, m, a, bl⟩ := hh
      exact ⟨g, e1, Stb.start hn m a bl⟩
    generalize hPP : (fun (e : Ending) (w' : World) => e = .returned (.bool true) ∧ Below w.heap.size w w') = PP
    have HPP : Hid (∀ g b w', Stb w g b w.heap.size w' → PP (.returned (.bool true)) w') := fun g b w' h => by rw [← hPP]; exact ⟨rfl, h.below⟩
    have HSC : Hid (∀ g b i, i < sc.length → ∃ sb so xk xn xa xl xc, ad = some ⟨sb, so, none⟩ ∧ (∀ W, Stb w g b w.heap.size W → W.cell? ⟨sb, so + i * 3, none⟩ = some (.int .i64 xk) ∧ W.cell? ⟨sb, so + i * 3 + 1, none⟩ = some (.int .i64 xn) ∧ W.cell? ⟨sb, so + i * 3 + 2, none⟩ = some (.slice xa xl xc)) ∧
      ∀ V, Stb w g b w.heap.size V → Calls Try.prog 15 #[.pointer (some ⟨b, 0, none⟩), .pointer (some ⟨g, 0, none⟩), .agg #[.int .i64 xk, .int .i64 xn, .slice xa xl xc]] V fun e w' => e = .returned (.tuple #[]) ∧ Stb w g b w.heap.size w') := fun g b i hi => scr_does hs g b i hi
    have HPR : Hid (∀ g b W, Stb w g b w.heap.size W → Calls Try.prog 18 #[.pointer (some ⟨g, 0, none⟩)] W fun e w' => ∃ u, e = .returned (.bool u) ∧ Stb w g b w.heap.size w' ∧ (u = false → Stf w g b w.heap.size w')) := fun g b W h => h.prop3
    have HCF : Hid (∀ g b W, Stf w g b w.heap.size W → Calls Try.prog 19 #[.pointer (some ⟨g, 0, none⟩)] W fun e w' => ∃ ad n, e = .returned (.slice ad n n) ∧ n ≤ 65536 ∧ Stb w g b w.heap.size w' ∧ (n = 0 → ∃ aA K cA, w'.cell? ⟨b, 0, none⟩ = some (.slice aA K cA) ∧ Calls Try.prog 20 #[.slice aA K cA, .slice none 0 0] w' fun e w2 => e = .returned (.bool true) ∧ Stb w g b w.heap.size w2)) := fun g b W h => h.conflict
    obtain ⟨i0, hi0, hz0, hz1, hz2⟩ := info_parts (P := Try.prog) (e := 3) (z := .int .i64 0) (size := 1) (bytes := 8) (by kernel_rfl)
    clear hPP h hs hn
    generalize sc.length = k at *
    go_enter Try.func8, Try.ntmps8
    go_wp2_with fail
    refine HBo.out.mono ?_
    rintro e w1 ⟨g, rfl, h1⟩
    have H1 : Hid (Stb w g w1.heap.size w.heap.size (w1.alloc (.cells #[.slice none 0 0, .slice none 0 0] 42))) := h1
    clear h1 HBo
    go_wp2_with fail
    generalize w1.alloc (.cells #[.slice none 0 0, .slice none 0 0] 42) = W1 at *
    generalize w1.heap.size = b at *
    go_loopg [8, 9, 10, 11] k (fun gk s8 s9 s10 s11 wr => ∃ i : Nat, s8 = .int .i64 (i : Int) ∧ i + gk = k ∧ Aside (Stb w g b w.heap.size wr))
    case atStart => exact ⟨0, rfl, by omega, H1.out⟩
    case round =>
      obtain ⟨i, rfl, hi2, HJ⟩ := hrel
      by_cases hlt : i < k
      · obtain ⟨sb, so, xk, xn, xa, xl, xc, rfl, hcel, hdoes⟩ := HSC.out g b i hlt
        have HDO : Hid (∀ V, Stb w g b w.heap.size V → Calls Try.prog 15 #[.pointer (some ⟨b, 0, none⟩), .pointer (some ⟨g, 0, none⟩), .agg #[.int .i64 xk, .int .i64 xn, .slice xa xl xc]] V fun e w' => e = .returned (.tuple #[]) ∧ Stb w g b w.heap.size w') := hdoes
        obtain ⟨c0, c1, c2⟩ := hcel _ HJ.out
        have q1 : (i : Int) < (k : Int) := by omega
        clear hdoes hcel H1
        go_wp2_with fail
        refine (HDO.out _ HJ.out).mono ?_
        rintro e w2 ⟨rfl, h2⟩
        obtain ⟨S, O1, O2, p, cls, dec, pA, pD, q, r1, r2, r3⟩ := h2
        have hw := r1.full.inv.wf
        have HTR : Hid (Calls Try.prog 13 #[.pointer (some ⟨g, 0, none⟩)] w2 (Told1 w2 g O1 S p (S.trail.map litI))) := trail_full r2.m hw
        have HTL : Hid ((S.trail.map litI).length = S.trail.length) := List.length_map _
        have htl : S.trail.length ≤ 1048576 := by have := hw.trail_len; have := hw.n; omega
        have HOS : Hid (∀ k, O1 k → k < w2.heap.size) := r2.m.osz
        have HEB : Hid (∀ W, Mem W g O1 S p → Fr O1 w2 W O1 → EB W g b w.heap.size O1 O2 S p cls dec pA pD q ∧ Below w.heap.size w W) := fun W m f => by
          obtain ⟨t, bl⟩ := r2.told m f
          exact ⟨t, r3.trans bl⟩
        have HRR : Hid (∀ k, k < S.trail.length → RSN S cls dec k (litI (S.trail.getD k 0)) ((S.trail.take k).map litI)) := fun k hk => r1.rsn hk
        have HBR : Hid (BREL S cls dec) := r1
        clear r1 r2 r3 hw c0 c1 c2
        go_wp2_with fail
        refine HTR.out.mono ?_
        rintro e w3 ⟨vv, rfl, h3, h4, h5⟩
        have h6 : ∃ aT, vv = .slice aT S.trail.length S.trail.length ∧ Row w3 aT (S.trail.map litI) ∧ ∀ a o, aT = some ⟨a, o, none⟩ → 0 < (S.trail.map litI).length → ¬ O1 a := by
          rcases h3 with ⟨e1, e2⟩ | ⟨a, e1, e2, e3, e4⟩
          · refine ⟨none, ?_, fun h => absurd h (by rw [e2]; simp), fun a o h => by cases h⟩
            have : S.trail.length = 0 := by rw [← HTL.out, e2]; rfl
            rw [e1, this]
          · refine ⟨_, by rw [e1, HTL.out], fun _ => ⟨a, 0, rfl, fun j hj => by rw [Nat.zero_add]; exact (blk_cell e4 j).trans (intsV_get _ j hj)⟩, fun a' o h _ hO => ?_⟩
            injection h with h
            injection h with h7 _ _
            have := HOS.out a' hO
            omega
        obtain ⟨aT, rfl, rT, rO⟩ := h6
        have HT : Hid (Row w3 aT (S.trail.map litI)) := rT
        have HTO : Hid (∀ a o, aT = some ⟨a, o, none⟩ → 0 < (S.trail.map litI).length → ¬ O1 a) := rO
        have HF3 : Hid (Mem w3 g O1 S p ∧ Fr O1 w2 w3 O1) := ⟨h4, h5⟩
        have HO3 : Hid (∀ k, O1 k → k < w3.heap.size) := fun k hk => Nat.lt_of_lt_of_le (HOS.out k hk) h5.size
        have HS0 : Hid (Seen w3 g O1 S p 0 (.slice none 0 0) w3) := ⟨h4, ⟨rfl, rfl, rfl, Nat.le_refl _, fun _ _ _ => rfl, fun _ h => Or.inl h⟩, World.ownsRow_nil _ _ _ _⟩
        clear h3 h4 h5 rT rO HTR HDO
        obtain ⟨tn, htn⟩ : ∃ tn, S.trail.length = tn := ⟨_, rfl⟩
        have HTN : Hid (S.trail.length = tn) := htn
        rw [htn] at htl ⊢
        clear htn
        go_wp2_with fail
        go_loopg [10, 11] tn (fun gk2 s10 s11 wr2 => ∃ j : Nat, s11 = .int .i64 (j : Int) ∧ j + gk2 = tn ∧ Aside (Seen w3 g O1 S p j s10 wr2))
        case atStart => exact ⟨0, rfl, by omega, HS0.out⟩
        case round =>
          obtain ⟨j, rfl, hj, HSe⟩ := hrel
          obtain ⟨aS, cS, rfl, hcS, rS, rSo⟩ := HSe.out.row (by rw [HTN.out]; omega) HO3.out
          have hsl : ((S.trail.take j).map litI).length = j := by rw [List.length_map, List.length_take, HTN.out]; omega
          obtain ⟨eb, ebl⟩ := HEB.out _ HSe.out.1 (HF3.out.2.trans HSe.out.2.1)
          have rT2 : Row wr aT (S.trail.map litI) := HT.out.fr HSe.out.2.1 HTO.out
          by_cases hlt2 : j < tn
          · obtain ⟨a, o, rfl, e4⟩ := rT2 (by rw [HTL.out, HTN.out]; omega)
            have e5 := e4 j (by rw [HTL.out, HTN.out]; exact hlt2)
            rw [show (S.trail.map litI).getD j 0 = litI (S.trail.getD j 0) by
              have hj1 : j < S.trail.length := by rw [HTN.out]; exact hlt2
              rw [getD_of _ _ _ (by rw [HTL.out]; exact hj1), List.getElem_map, getD_of _ _ _ hj1]] at e5
            have hrz := reasoned_ok (cS := cS) eb HBR.out (HRR.out j (by rw [HTN.out]; exact hlt2)) rS (by rw [hsl]; omega) rSo
            rw [hsl] at hrz
            have HRE : Hid (Calls Try.prog 16 #[.pointer (some ⟨b, 0, none⟩), .pointer (some ⟨g, 0, none⟩), .int .i64 (litI (S.trail.getD j 0)), .slice aS j cS] wr fun e w' => e = .returned (.bool true) ∧ Mem w' g O1 S p ∧ Fr O1 wr w' O1) := hrz
            have HLT : Hid (∀ w', Fr O1 w3 w' O1 → w'.cell? ⟨a, o + j, none⟩ = some (.int .i64 (litI (S.trail.getD j 0)))) := fun w' f => by
              have h7 := HT.out.fr f HTO.out
              obtain ⟨a', o', e6, e7⟩ := h7 (by rw [HTL.out, HTN.out]; omega)
              cases e6
              have e8 := e7 j (by rw [HTL.out, HTN.out]; exact hlt2)
              have hj1 : j < S.trail.length := by rw [HTN.out]; exact hlt2
              rw [getD_of _ _ _ (by rw [HTL.out]; exact hj1), List.getElem_map, ← getD_of S.trail _ 0 hj1] at e8
              exact e8
            have HNX : Hid (∀ (w4 w5 : World) g4 cap4, Seen w3 g O1 S p j (.slice aS j cS) w4 → (w4.alloc (.cells #[.int .i64 (litI (S.trail.getD j 0))] 3)).grownBy w5 (Value.ownBlock (.slice aS j cS)) → w5.ownsRow w3.heap.size 3 1 (.slice (some ⟨g4, 0, none⟩) (j + 1) cap4) (j + 1) (((S.trail.take j).map litI).map (Value.int .i64) ++ [.int .i64 (litI (S.trail.getD j 0))]) → Seen w3 g O1 S p (j + 1) (.slice (some ⟨g4, 0, none⟩) (j + 1) cap4) w5) := fun w4 w5 g4 cap4 h1 h2 h3 => h1.next (by rw [HTN.out]; exact hlt2) h2 h3 HO3.out
            have HSX : Hid (∀ w', Mem w' g O1 S p → Fr O1 wr w' O1 → Seen w3 g O1 S p j (.slice aS j cS) w') := fun w' m f => HSe.out.over HO3.out m f
            have HXS : Hid (∀ w4, Seen w3 g O1 S p j (.slice aS j cS) w4 → (w4.alloc (.cells #[.int .i64 (litI (S.trail.getD j 0))] 3)).ownsRow w3.heap.size 3 1 (.slice aS j cS) j (((S.trail.take j).map litI).map (Value.int .i64))) := fun w4 h => h.2.2.alloc _
            have q2 : (j : Int) < (tn : Int) := by omega
            clear eb ebl rT2 rS rSo hrz e4 hsl
            generalize litI (S.trail.getD j 0) = x at *
            generalize ((S.trail.take j).map litI).map (Value.int .i64) = XS at *
            go_wp2_with fail
            refine HRE.out.mono ?_
            rintro e w4 ⟨rfl, m4, f4⟩
            have HS4 : Hid (Seen w3 g O1 S p j (.slice aS j cS) w4) := HSX.out w4 m4 f4
            have e6 := HLT.out w4 HS4.out.2.1
            have e7 : ∀ ob, (w4.alloc ob).cell? ⟨a, o + j, none⟩ = some (.int .i64 x) := fun ob => HLT.out _ ⟨HS4.out.2.1.os, HS4.out.2.1.tape, HS4.out.2.1.output, by have := HS4.out.2.1.size; simp; omega, fun k hk hO => (Below.heap_alloc _ _ k (Nat.lt_of_lt_of_le hk HS4.out.2.1.size)).trans (HS4.out.2.1.kept k hk hO), fun k hk => Or.inl hk⟩
            clear m4 f4 HSX HRE
            have HOW : Hid ((w4.alloc (.cells #[.int .i64 x] 3)).ownsRow w3.heap.size 3 1 (.slice aS j cS) j XS) := HXS.out w4 HS4.out
            have hsz3 : w3.heap.size ≤ w4.heap.size := HS4.out.2.1.size
            go_wp2_with (at_builtin; refine wpList_append_lies _ rfl _ _ 30 rfl w3.heap.size 3 i0 (.int .i64 0) 1 8 Try.underlying30 hi0 hz0 hz1 hz2 rfl (by decide) _ _ _ rfl HOW.out ⟨w4.heap.size, 0, none⟩ 1 1 [.int .i64 x] rfl rfl (World.news_of_block (cs := #[.int .i64 x]) (t := 3) (fr := (0, 0)) (heap_alloc_new w4 _)) (by intro u hu; simp at hu; subst hu; rfl) (by omega) (by unfold maxLen; omega) (by omega) (by first | omega | (simp; omega)) (w4.heap.size + 1) (by simp) ?_; intro g5 cap5 w5 hown5 hgrow5 hat5 hlt5; have HN5 : Aside (Seen w3 g O1 S p (j + 1) (.slice (some ⟨g5, 0, none⟩) (j + 1) cap5) w5) := (HNX.out w4 w5 g5 cap5 HS4.out hgrow5 hown5); clear hown5 hgrow5 hat5 hlt5; refine Hid.out ?_)
            refine Lib.hid ?_
            clear e6 e7
            go_wp2
            go_roundg (gk - 1)
            case measure => omega
            case rel => exact ⟨j + 1, by simp, by omega, HN5⟩
          · have hjt : j = tn := by omega
            subst hjt
            have hbc := bconflict_ok (cT := j) eb HBR.out rT2 HTO.out
            rw [HTL.out, HTN.out] at hbc
            have HBC : Hid (Calls Try.prog 17 #[.pointer (some ⟨b, 0, none⟩), .pointer (some ⟨g, 0, none⟩), .slice aT j j] wr fun e w' => e = .returned (.bool true) ∧ Stb w g b w.heap.size w') := hbc.mono fun e w' hh => ⟨hh.1, by
              obtain ⟨O1', p', t5, _, bl⟩ := eb.e hh.2
              exact ⟨S, O1', O2, p', cls, dec, pA, pD, q, HBR.out, t5, ebl.trans bl⟩⟩
            clear hbc eb ebl rT2 rS rSo hsl
            go_wp2_with fail
            refine HBC.out.mono ?_
            rintro e w4 ⟨rfl, h4⟩
            have H4 : Aside (Stb w g b w.heap.size w4) := h4
            clear h4 HBC
            go_wp2
            go_roundg (k - (i + 1))
            case measure => omega
            case rel => exact ⟨i + 1, by simp, by omega, H4⟩
      · have hji : i = k := by omega
        subst hji
        go_wp2_with fail
        refine (HPR.out _ _ _ HJ.out).mono ?_
        rintro e w2 ⟨u, rfl, h2, h2'⟩
        cases u with
        | true =>
          have HP2 : Hid (PP (.returned (.bool true)) w2) := HPP.out _ _ _ h2
          clear h2 h2'
          go_wp2
          first | exact HP2.out | (go_ret2; exact HP2.out) | (go_ret; exact HP2.out)
        | false =>
          have H2 : Hid (Stf w g b w.heap.size w2) := h2' rfl
          clear h2 h2'
          go_wp2_with fail
          refine (HCF.out _ _ _ H2.out).mono ?_
          rintro e w3 ⟨a3, n3, rfl, h3a, h3b, h3c⟩
          by_cases hn0 : n3 = 0
          · obtain ⟨aA, K, cA, d0, hone⟩ := h3c hn0
            subst hn0
            have HON : Hid (Calls Try.prog 20 #[.slice aA K cA, .slice none 0 0] w3 fun e w2 => e = .returned (.bool true) ∧ Stb w g b w.heap.size w2) := hone
            clear h3b h3c hone
            go_wp2_with fail
            refine HON.out.mono ?_
            rintro e w4 ⟨rfl, h4⟩
            have HP4 : Hid (PP (.returned (.bool true)) w4) := HPP.out _ _ _ h4
            clear h4
            go_wp2
            first | exact HP4.out | (go_ret2; exact HP4.out) | (go_ret; exact HP4.out)
          · have HP3 : Hid (PP (.returned (.bool true)) w3) := HPP.out _ _ _ h3b
            have q3 : (0 : Int) < (n3 : Int) := by omega
            clear h3b h3c hn0
            go_wp2
            first | exact HP3.out | (go_ret2; exact HP3.out) | (go_ret; exact HP3.out)
end Go.Proofs.Ytpkbigjijihljaa
