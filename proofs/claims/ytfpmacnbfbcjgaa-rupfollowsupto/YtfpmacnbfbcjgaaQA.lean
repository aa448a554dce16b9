import Derived.Test.YtfpmacnbfbcjgaaPZ
import Derived.Test.YtfpmacnbfbcjgaaPM
namespace Go.Pr

theorem FULL.step {S T : ES} (h : FULL S) (hc : S.clash = none) (hs : S.step = some T) : FULL T := by
  unfold ES.step at hs
  split at hs
  · next hd =>
    cases hs
    exact h.again hd hc
  · next hd =>
    have hd2 : S.done = S.tasks.length := by have := h.inv.wf.dn; omega
    split at hs
    · next hm =>
      cases hs
      exact h.meet hd2 hm
    · split at hs
      · next hh =>
        cases hs
        exact h.tell hd2 hh hc
      · cases hs
/-- what a run of steps leaves alone -/
structure Grow (S S' : ES) : Prop where
  n : S'.n = S.n
  lits : S'.lits = S.lits
  len : S'.cls.length = S.cls.length
  ins : ∀ k, S'.inside k = S.inside k
  marks : S'.marks = S.marks
  tr : S.trail <+: S'.trail
theorem Grow.refl (S : ES) : Grow S S := ⟨rfl, rfl, rfl, fun _ => rfl, rfl, List.prefix_rfl⟩
theorem Grow.trans {S T U : ES} (h : Grow S T) (h2 : Grow T U) : Grow S U := ⟨h2.n.trans h.n, h2.lits.trans h.lits, h2.len.trans h.len, fun k => (h2.ins k).trans (h.ins k), h2.marks.trans h.marks, h.tr.trans h2.tr⟩
theorem Same.grow {S T : ES} (h : Same S T) : Grow S T := ⟨h.n, h.lits, h.len, h.inside, h.marks, h.tr⟩
theorem step_grow {S T : ES} (h : WF S) (hs : S.step = some T) : Grow S T := by
  unfold ES.step at hs
  split at hs
  · next hd =>
    cases hs
    exact (h.again hd).2.grow
  · split at hs
    · next hm =>
      cases hs
      have := (h.meet hm).2.grow
      exact ⟨this.n, this.lits, this.len, this.ins, this.marks, this.tr⟩
    · split at hs
      · next hh =>
        cases hs
        have ht := h.tr (S.trail.getD S.head 0) (by rw [getD_of _ _ _ hh]; exact List.getElem_mem _)
        have ho := opp_lt ht.1 ht.2.1
        have := (h.tell (l := opp (S.trail.getD S.head 0)) ho.2.1 (by omega)).2.grow
        exact ⟨this.n, this.lits, this.len, this.ins, this.marks, this.tr⟩
      · cases hs
/-- Propagate, so far -/
def Runs (S T : ES) : Prop :=
  ∀ P : ES → Prop, P S → (∀ U V : ES, P U → U.clash = none → U.step = some V → P V) → P T
theorem Runs.refl (S : ES) : Runs S S := fun _ h _ => h
theorem Runs.step {S S1 T : ES} (h : Runs S S1) (hc : S1.clash = none) (hs : S1.step = some T) : Runs S T := fun P h0 h1 => h1 S1 T (h P h0 h1) hc hs
theorem Runs.ind {S : ES} {motive : (T : ES) → Runs S T → Prop} (refl : motive S (Runs.refl S)) (step : ∀ {S1 T : ES} (h : Runs S S1) (hc : S1.clash = none) (hs : S1.step = some T), motive S1 h → motive T (Runs.step h hc hs)) {T : ES} (h : Runs S T) : motive T h := by
  obtain ⟨_, h2⟩ := h (fun U => ∃ k : Runs S U, motive U k) ⟨Runs.refl S, refl⟩ (fun U V hU hc hs => by
    obtain ⟨k, m⟩ := hU
    exact ⟨Runs.step k hc hs, step k hc hs m⟩)
  exact h2
theorem Runs.full {S T : ES} (r : Runs S T) (h : FULL S) : FULL T := by
  induction r using Runs.ind with
  | refl => exact h
  | step _ hc hs ih => exact ih.step hc hs
theorem Runs.grow {S T : ES} (r : Runs S T) (h : FULL S) : Grow S T := by
  induction r using Runs.ind with
  | refl => exact Grow.refl _
  | step r hc hs ih => exact ih.trans (step_grow (r.full h).inv.wf hs)
/-- literals -/
def litI (c : Nat) : Int := if c % 2 = 1 then -((c / 2 : Nat) : Int) else ((c / 2 : Nat) : Int)
def codeN (l : Int) : Nat := if l < 0 then (-2 * l + 1).toNat else (2 * l).toNat
theorem litI_code (l : Int) : litI (codeN l) = l := by
  unfold litI codeN
  split <;> split <;> omega
theorem code_litI {c : Nat} (h : 2 ≤ c) : codeN (litI c) = c := by
  unfold litI codeN
  split <;> split <;> omega
theorem litI_opp {c : Nat} (h : 2 ≤ c) : litI (opp c) = -litI c := by
  unfold litI opp
  split <;> split <;> omega
theorem code_neg {l : Int} (h : l ≠ 0) : codeN (-l) = opp (codeN l) := by
  unfold codeN opp
  split <;> split <;> split <;> omega
theorem code_ge {l : Int} (h : l ≠ 0) : 2 ≤ codeN l := by
  unfold codeN
  split <;> omega
theorem litI_ne {c : Nat} (h : 2 ≤ c) : litI c ≠ 0 := by
  unfold litI
  split <;> omega
theorem code_lt {l : Int} {n : Nat} (h1 : -(n : Int) ≤ l) (h2 : l ≤ n) : codeN l < 2 * n + 2 := by
  unfold codeN
  split <;> omega
theorem litI_le {c n : Nat} (h : c < 2 * n + 2) : -(n : Int) ≤ litI c ∧ litI c ≤ n := by
  unfold litI
  split <;> omega
def tl (S : ES) : List Int := (S.trail.map litI).reverse
def allI (S : ES) : List (List Int) := (List.range S.cls.length).map fun k => (S.inside k).map litI
theorem mem_allI {S : ES} {c : List Int} : c ∈ allI S ↔ ∃ k, k < S.cls.length ∧ c = (S.inside k).map litI := by
  unfold allI
  rw [List.mem_map]
  constructor
  · rintro ⟨k, hk, rfl⟩
    exact ⟨k, List.mem_range.1 hk, rfl⟩
  · rintro ⟨k, hk, rfl⟩
    exact ⟨k, List.mem_range.2 hk, rfl⟩
theorem mem_lits {ls : List Nat} (h : ∀ c ∈ ls, 2 ≤ c) {x : Nat} (hx : 2 ≤ x) : litI x ∈ ls.map litI ↔ x ∈ ls := by
  rw [List.mem_map]
  constructor
  · rintro ⟨c, hc, e⟩
    have := congrArg codeN e
    rw [code_litI (h c hc), code_litI hx] at this
    rw [← this]
    exact hc
  · exact fun hx => ⟨x, hx, rfl⟩
theorem mem_tl {S : ES} (hw : WF S) {x : Nat} (hx : 2 ≤ x) (hx2 : x < 2 * S.n + 2) : litI x ∈ tl S ↔ S.val x = 1 := by
  unfold tl
  rw [List.mem_reverse, mem_lits (fun c hc => (hw.tr c hc).1) hx]
  exact ⟨fun h => (hw.tr x h).2.2, hw.trv x hx hx2⟩
theorem mem_tl_neg {S : ES} (hw : WF S) {x : Nat} (hx : 2 ≤ x) (hx2 : x < 2 * S.n + 2) : -litI x ∈ tl S ↔ S.val x = -1 := by
  have ho := opp_lt hx hx2
  rw [← litI_opp hx, mem_tl hw ho.1 ho.2.1, hw.valx x hx hx2]
  omega
theorem FULL.fls {S : ES} (h : FULL S) {k : Nat} (hc : S.clash = some k) : ∃ c ∈ allI S, Fls (tl S) c := by
  have hw := h.inv.wf
  refine ⟨_, mem_allI.2 ⟨k, hw.clash k hc, rfl⟩, fun m hm => ?_⟩
  obtain ⟨z, hz, rfl⟩ := List.mem_map.1 hm
  have hz2 := hw.inside_mem hz
  exact (mem_tl_neg hw hz2.1 hz2.2).2 (h.snd.cla k hc z hz)
/-- where nothing is left to be done nothing follows -/
theorem FULL.closed {S : ES} (h : FULL S) (hc : S.clash = none) (hs : S.step = none) : Closed (allI S) (tl S) := by
  have hw := h.inv.wf
  have hd : S.done = S.tasks.length ∧ S.met = S.cls.length ∧ S.head = S.trail.length := by
    unfold ES.step at hs
    split at hs
    · cases hs
    · split at hs
      · cases hs
      · split at hs
        · cases hs
        · have := hw.dn; have := hw.met; have := hw.head
          exact ⟨by omega, by omega, by omega⟩
  obtain ⟨h1, h2, h3⟩ := hd
  have htold : ∀ x, 2 ≤ x → x < 2 * S.n + 2 → S.val x = -1 → Told S x := fun x hx hx2 hv => by
    unfold Told
    rw [h3, List.take_length]
    exact opp_true hw hx hx2 hv
  have key : ∀ k, k < S.cls.length → (∃ z ∈ S.inside k, S.val z = 1) ∨ (∃ a b, a ∈ S.inside k ∧ b ∈ S.inside k ∧ a ≠ b ∧ S.val a ≠ -1 ∧ S.val b ≠ -1) := fun k hk => by
    have hkm : k < S.met := by omega
    by_cases ha : (S.clause k).a = 0
    · obtain ⟨f, hf, ho, hu⟩ := h.inv.un k hkm ha
      rcases hu with ⟨q1, q2, _⟩ | ⟨j, q1, q2, _⟩ | ⟨q1, _⟩
      · exact Or.inl ⟨f, q1, q2⟩
      · omega
      · exact absurd hc q1
    · have hmm := h.inv.wm k hkm ha
      have hok : ∀ x, x = (S.clause k).a ∨ x = (S.clause k).b → S.val x = -1 → ∃ z ∈ S.inside k, S.val z = 1 := fun x hx hv => by
        have hxm : x ∈ S.inside k := by rcases hx with t | t; rw [t]; exact hmm.1; rw [t]; exact hmm.2.1
        have hxc := hw.inside_mem hxm
        rcases h.inv.ok k hkm ha x hx (fun e => e) hv (htold x hxc.1 hxc.2 hv) with ⟨z, q1, q2, _⟩ | ⟨j, q1, q2, _⟩ | ⟨q1, _⟩
        · exact ⟨z, q1, q2⟩
        · omega
        · exact absurd hc q1
      by_cases va : S.val (S.clause k).a = -1
      · exact Or.inl (hok _ (Or.inl rfl) va)
      · by_cases vb : S.val (S.clause k).b = -1
        · exact Or.inl (hok _ (Or.inr rfl) vb)
        · exact Or.inr ⟨_, _, hmm.1, hmm.2.1, hmm.2.2, va, vb⟩
  refine ⟨fun c hcm hf => ?_, fun c hcm l hu => ?_⟩
  · obtain ⟨k, hk, rfl⟩ := mem_allI.1 hcm
    have hall : ∀ z ∈ S.inside k, S.val z = -1 := fun z hz => by
      have hz2 := hw.inside_mem hz
      exact (mem_tl_neg hw hz2.1 hz2.2).1 (hf _ (List.mem_map.2 ⟨z, hz, rfl⟩))
    rcases key k hk with ⟨z, hz, hv⟩ | ⟨a, b, ha, hb, _, va, _⟩
    · rw [hall z hz] at hv; exact absurd hv (by decide)
    · exact va (hall a ha)
  · obtain ⟨k, hk, rfl⟩ := mem_allI.1 hcm
    obtain ⟨u1, u2, u3, u4⟩ := hu
    obtain ⟨x, hx, rfl⟩ := List.mem_map.1 u3
    have hx2 := hw.inside_mem hx
    have hvx : S.val x ≠ 1 := fun e => u1 ((mem_tl hw hx2.1 hx2.2).2 e)
    have hall : ∀ z ∈ S.inside k, z = x ∨ S.val z = -1 := fun z hz => by
      have hz2 := hw.inside_mem hz
      rcases u4 _ (List.mem_map.2 ⟨z, hz, rfl⟩) with e | e
      · left
        have := congrArg codeN e
        rw [code_litI hz2.1, code_litI hx2.1] at this
        exact this
      · exact Or.inr ((mem_tl_neg hw hz2.1 hz2.2).1 e)
    rcases key k hk with ⟨z, hz, hv⟩ | ⟨a, b, ha, hb, hne, va, vb⟩
    · rcases hall z hz with e | e
      · exact hvx (by rw [← e]; exact hv)
      · rw [e] at hv; exact absurd hv (by decide)
    · have e1 := (hall a ha).resolve_right va
      have e2 := (hall b hb).resolve_right vb
      exact hne (by rw [e1, e2])
theorem allI_grow {S T : ES} (g : Grow S T) : allI T = allI S := by
  unfold allI
  rw [g.len]
  refine List.map_congr_left fun k _ => ?_
  rw [g.ins]
/-- what is behind a place of the trail follows from what is ahead of it, where no decision stands behind it -/
theorem FULL.der {S : ES} (h : FULL S) {p : Nat} (hm : ∀ mk ∈ S.marks, mk < p) : ∀ d, p + d ≤ S.trail.length → Der (allI S) (((S.trail.take p).map litI).reverse) (((S.trail.take (p + d)).map litI).reverse) := by
  have hw := h.inv.wf
  intro d
  induction d with
  | zero => exact fun _ => Der.base
  | succ d ih =>
    intro hq
    obtain ⟨q, hqe⟩ : ∃ q, p + d = q := ⟨_, rfl⟩
    rw [← Nat.add_assoc, hqe]
    rw [hqe] at ih
    have hql : q < S.trail.length := by omega
    have ht := List.take_succ_eq_append_getElem hql
    rw [ht, List.map_append, List.map_singleton, List.reverse_append, List.reverse_singleton, List.singleton_append]
    have e0 : S.trail.getD q 0 = S.trail[q] := getD_of _ _ _ hql
    have hxt : S.trail[q] ∈ S.trail := List.getElem_mem _
    have hx := hw.tr _ hxt
    have hdec := h.snd.dec q hql
    have hrs := h.snd.rsn q hql
    rw [e0] at hdec hrs
    cases hg : (S.giv.getD (S.trail[q] / 2) (0, none)).2 with
    | none =>
      rw [hg] at hdec
      have := hm q (hdec.1 rfl)
      omega
    | some k =>
      obtain ⟨r1, r2, r3⟩ := hrs k hg
      have hnd := hw.trd
      have hnot : ∀ c ∈ S.trail.take q, c / 2 ≠ S.trail[q] / 2 := fun c hc => nodup_parts hnd hc (by rw [List.drop_eq_getElem_cons hql]; exact List.mem_cons_self)
      have hge : ∀ c ∈ S.trail.take q, 2 ≤ c := fun c hc => (hw.tr c (List.mem_of_mem_take hc)).1
      have ho := opp_lt hx.1 hx.2.1
      refine Der.step (ih (by omega)) (mem_allI.2 ⟨k, r1, rfl⟩) ⟨?_, ?_, List.mem_map.2 ⟨_, r2, rfl⟩, fun m hmm => ?_⟩
      · rw [List.mem_reverse, mem_lits hge hx.1]
        exact fun hc => hnot _ hc rfl
      · rw [List.mem_reverse, ← litI_opp hx.1, mem_lits hge ho.1]
        exact fun hc => hnot _ hc ho.2.2.2.2
      · obtain ⟨z, hz, rfl⟩ := List.mem_map.1 hmm
        by_cases e : z = S.trail[q]
        · exact Or.inl (by rw [e])
        · right
          have hz2 := hw.inside_mem hz
          have hoz := opp_lt hz2.1 hz2.2
          rw [List.mem_reverse, ← litI_opp hz2.1, mem_lits hge hoz.1]
          exact r3 z hz e
theorem Runs.der {S T : ES} (r : Runs S T) (h : FULL S) : Der (allI S) (tl S) (tl T) := by
  have g := r.grow h
  have hT := r.full h
  obtain ⟨u, hu⟩ := g.tr
  have hle : S.trail.length ≤ T.trail.length := g.tr.length_le
  have := hT.der (p := S.trail.length) (fun mk hmk => h.inv.wf.mks mk (by rw [← g.marks]; exact hmk)) (T.trail.length - S.trail.length) (by omega)
  rw [show S.trail.length + (T.trail.length - S.trail.length) = T.trail.length by omega, List.take_length, allI_grow g] at this
  have e : T.trail.take S.trail.length = S.trail := by rw [← hu, List.take_left']; rfl
  rw [e] at this
  exact this
end Go.Pr
