import Derived.Test.YtfpmacnbfbcjgaaPV
namespace Go.Pr

/-- the two literals of a clause that became false last of all -/
structure J2 (S : ES) (P : List Nat) (f s : Nat) : Prop where
  mf : f = 0 ∨ f ∈ P
  ms : s = 0 ∨ s ∈ P
  ne : s ≠ 0 → f ≠ s ∧ f ≠ 0
  le : S.fs s ≤ S.fs f
  all : ∀ z ∈ P, z ≠ f → z = s ∨ S.fs z ≤ S.fs s
theorem last2_spec {S : ES} (h0 : S.fs 0 = 0) : ∀ (ls P : List Nat) (f s : Nat), J2 S P f s → (∀ z ∈ ls, 2 ≤ z ∧ S.fs z ≤ never) → J2 S (P ++ ls) (S.last2 ls f s).1 (S.last2 ls f s).2
  | [], P, f, s, h, _ => by rw [List.append_nil]; exact h
  | l :: r, P, f, s, h, hls => by
    have hl := hls l List.mem_cons_self
    have hr : ∀ z ∈ r, 2 ≤ z ∧ S.fs z ≤ never := fun z hz => hls z (List.mem_cons_of_mem _ hz)
    have hin : ∀ {x}, (x = 0 ∨ x ∈ P) → x = 0 ∨ x ∈ P ++ [l] := fun hx => hx.imp id (fun h => List.mem_append.2 (Or.inl h))
    have hll : l ∈ P ++ [l] := List.mem_append.2 (Or.inr (List.mem_singleton.2 rfl))
    have hmem : ∀ {z}, z ∈ P ++ [l] → z ∈ P ∨ z = l := fun hz => (List.mem_append.1 hz).imp id (fun h => List.mem_singleton.1 h)
    have hass : P ++ l :: r = (P ++ [l]) ++ r := by simp
    rw [hass]
    unfold ES.last2
    split
    · next e =>
      refine last2_spec h0 r (P ++ [l]) f s ⟨hin h.mf, hin h.ms, h.ne, h.le, fun z hz hne => ?_⟩ hr
      rcases hmem hz with hz | hz
      · exact h.all z hz hne
      · exact absurd (by rw [hz, e]) hne
    · next e =>
      split
      · next h1 =>
        refine last2_spec h0 r (P ++ [l]) l f ⟨Or.inr hll, hin h.mf, fun _ => ⟨e, by omega⟩, by omega, fun z hz hne => ?_⟩ hr
        rcases hmem hz with hz | hz
        · by_cases ez : z = f
          · exact Or.inl ez
          · right
            rcases h.all z hz ez with e2 | e2
            · rw [e2]; exact h.le
            · exact Nat.le_trans e2 h.le
        · exact absurd hz hne
      · next h1 =>
        split
        · next h2 =>
          have hf0 : f ≠ 0 := fun e0 => by rw [e0, h0] at h1; omega
          refine last2_spec h0 r (P ++ [l]) f l ⟨hin h.mf, Or.inr hll, fun _ => ⟨fun e2 => e e2.symm, hf0⟩, by omega, fun z hz hne => ?_⟩ hr
          rcases hmem hz with hz | hz
          · right
            rcases h.all z hz hne with e2 | e2
            · rw [e2]; omega
            · omega
          · exact Or.inl hz
        · next h2 =>
          split
          · next h3 =>
            refine ⟨(hin h.mf).imp id (fun h => List.mem_append.2 (Or.inl h)), (hin h.ms).imp id (fun h => List.mem_append.2 (Or.inl h)), h.ne, h.le, fun z hz hne => ?_⟩
            rcases List.mem_append.1 hz with hz | hz
            · rcases hmem hz with hz | hz
              · exact h.all z hz hne
              · right; show S.fs z ≤ S.fs s; rw [hz, h3]; exact hl.2
            · right; show S.fs z ≤ S.fs s; rw [h3]; exact (hr z hz).2
          · next h3 =>
            refine last2_spec h0 r (P ++ [l]) f s ⟨hin h.mf, hin h.ms, h.ne, h.le, fun z hz hne => ?_⟩ hr
            rcases hmem hz with hz | hz
            · exact h.all z hz hne
            · right; rw [hz]; omega
theorem INV.fs0 {E : Nat → Prop} {S : ES} (h : INV E S) : S.fs 0 = 0 := by
  unfold ES.fs
  rw [h.wf.val0, if_neg (by decide)]
  exact h.g0
theorem INV.fs_lt {E : Nat → Prop} {S : ES} (h : INV E S) {z : Nat} (hz : 2 ≤ z) (hv : S.val z = -1) : S.fs z = S.lvl z ∧ S.fs z < never := by
  have h1 := h.lvb z hz (by rw [hv]; decide)
  have h2 : S.level ≤ S.trail.length := by
    have := nat_nodup_len S.marks (List.range S.trail.length) (h.wf.mkd.imp fun h => Nat.ne_of_lt h) (fun x hx => List.mem_range.2 (h.wf.mks x hx))
    rw [List.length_range] at this
    exact this
  have h3 := h.wf.trail_len
  have h4 := h.wf.n
  have e : S.fs z = S.lvl z := by unfold ES.fs; rw [hv, if_neg (by decide)]
  refine ⟨e, ?_⟩
  rw [e]
  unfold never
  omega
theorem INV.fs_le {E : Nat → Prop} {S : ES} (h : INV E S) {z : Nat} (hz : 2 ≤ z) : S.fs z ≤ never := by
  rcases h.wf.val_of z with hv | hv | hv
  · exact Nat.le_of_lt (h.fs_lt hz hv).2
  · unfold ES.fs; rw [hv, if_pos (by decide)]; exact Nat.le_refl _
  · unfold ES.fs; rw [hv, if_pos (by decide)]; exact Nat.le_refl _
theorem INV.fs_false {E : Nat → Prop} {S : ES} (h : INV E S) {z m : Nat} (hm : m < never) (hf : S.fs z ≤ m) : S.val z = -1 ∧ S.lvl z ≤ m := by
  have hv := h.wf.val_of z
  unfold ES.fs at hf
  split at hf
  · omega
  · next h1 => exact ⟨by omega, hf⟩
theorem INV.last2 {S : ES} (h : INV Nix S) (k : Nat) : J2 S (S.inside k) (S.last2 (S.inside k) 0 0).1 (S.last2 (S.inside k) 0 0).2 := by
  have := last2_spec h.fs0 (S.inside k) [] 0 0 ⟨Or.inl rfl, Or.inl rfl, fun e => absurd rfl e, Nat.le_refl _, fun z hz => by cases hz⟩ (fun z hz => by
    have := h.wf.inside_mem hz
    exact ⟨this.1, h.fs_le this.1⟩)
  rw [List.nil_append] at this
  exact this
theorem meet1_facts {S : ES} {k f s : Nat} (hw : WF S) (hk : k < S.cls.length) (hf : f < 2 * S.n + 2) (hs : s < 2 * S.n + 2) (hne : s ≠ 0 → f ≠ s) :
    Ext S (S.meet1 k f s) ∧ (S.meet1 k f s).met = S.met ∧ (S.meet1 k f s).cls.length = S.cls.length ∧ (S.meet1 k f s).trail = S.trail ∧ (S.meet1 k f s).giv = S.giv ∧ (S.meet1 k f s).vals = S.vals ∧ (S.meet1 k f s).marks = S.marks ∧ (S.meet1 k f s).clash = S.clash ∧ (S.meet1 k f s).head = S.head ∧ (∀ j, j ≠ k → (S.meet1 k f s).clause j = S.clause j) ∧ (s ≠ 0 → ((S.meet1 k f s).clause k).a = f ∧ ((S.meet1 k f s).clause k).b = s) ∧ (s = 0 → (S.meet1 k f s) = S) ∧
    (s ≠ 0 → ∀ x, (S.meet1 k f s).watch x = S.watch x ++ (if x = f then [(k, s)] else if x = s then [(k, f)] else [])) := by
  by_cases h0 : s = 0
  · have e : S.meet1 k f s = S := by unfold ES.meet1; rw [if_neg (fun h => h h0)]
    rw [e]
    exact ⟨Ext.refl S, rfl, rfl, rfl, rfl, rfl, rfl, rfl, rfl, fun _ _ => rfl, fun h => absurd h0 h, fun _ => rfl, fun h => absurd h0 h⟩
  · have e : S.meet1 k f s = ((S.setC k { S.clause k with a := f, b := s }).addW f k s).addW s k f := by unfold ES.meet1; rw [if_pos h0]
    have x1 := setC_ext (S := S) (c := { S.clause k with a := f, b := s }) hk rfl rfl
    have hck : (S.setC k { S.clause k with a := f, b := s }).clause k = { S.clause k with a := f, b := s } := clause_setC hk
    have hfs := hne h0
    rw [e]
    refine ⟨x1.trans ((addW_ext _ f k s).trans (addW_ext _ s k f)), rfl, by show (S.cls.set _ _).length = _; simp, rfl, rfl, rfl, rfl, rfl, rfl, fun j hj => clause_setC_ne hj, fun _ => ?_, fun h => absurd h h0, fun _ x => ?_⟩
    · show ((S.setC k _).clause k).a = f ∧ ((S.setC k _).clause k).b = s
      rw [hck]
      exact ⟨rfl, rfl⟩
    · have hwl : (S.setC k { S.clause k with a := f, b := s }).wat.length = 2 * S.n + 2 := hw.wtl
      have hwl2 : ((S.setC k { S.clause k with a := f, b := s }).addW f k s).wat.length = 2 * S.n + 2 := by show (S.wat.set _ _).length = _; rw [List.length_set]; exact hw.wtl
      have hwS : ∀ y, (S.setC k { S.clause k with a := f, b := s }).watch y = S.watch y := fun y => rfl
      rw [watch_addW (by rw [hwl2]; exact hs), watch_addW (by rw [hwl]; exact hf), watch_addW (by rw [hwl]; exact hf)]
      by_cases e1 : x = s
      · subst e1
        rw [if_pos rfl, if_neg (fun e2 => hfs e2.symm), if_neg (fun e2 => hfs e2.symm), if_pos rfl]
        rfl
      · by_cases e2 : x = f
        · subst e2
          rw [if_neg e1, if_pos rfl, if_pos rfl]
          rfl
        · rw [if_neg e1, if_neg e2, if_neg e2, if_neg e1, List.append_nil]
          rfl
end Go.Pr
