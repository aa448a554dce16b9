import Derived.Test.YtekdmdnnpcjaoaaAgQa
namespace Go.Proofs.Ytekdmdnnpcjaoaa
open Go.ChangeShapes Go.WideShapes Go.ChangeAt Go.RowKit Go.Lib Go.Ag Go.WideMaps Go.Maps Go.ChangeMaps Go.Cn

theorem ANS.le {inp : Nat → Bool} {ns ns' : Nds} (h : ANS inp ns ns') : ns.length ≤ ns'.length := by
  obtain ⟨t, rfl⟩ := h.ext
  rw [List.length_append]
  omega
theorem orN_sem {inp : Nat → Bool} {ns ns' : Nds} (hs : GS ns) {a b l : Nat} (h : orN ns a b = some (l, ns')) (ha : a / 2 ≤ ns.length) (hb : b / 2 ≤ ns.length) : ANS inp ns ns' ∧ litV (evs inp ns') l = (litV (evs inp ns) a || litV (evs inp ns) b) := by
  unfold orN at h
  cases h2 : andN ns (notN a) (notN b) with
  | none => rw [h2] at h; cases h
  | some x =>
    rw [h2] at h
    have h4 : some (notN x.1, x.2) = some (l, ns') := h
    cases h4
    have h5 := andN_sem (inp := inp) hs (l := x.1) (ns' := x.2) h2 (by rw [not_half]; exact ha) (by rw [not_half]; exact hb)
    refine ⟨h5.1, ?_⟩
    rw [litV_not, h5.2, litV_not, litV_not]
    cases litV (evs inp ns) a <;> cases litV (evs inp ns) b <;> rfl
theorem xorN_sem {inp : Nat → Bool} {ns ns' : Nds} (hs : GS ns) {a b l : Nat} (h : xorN ns a b = some (l, ns')) (ha : a / 2 ≤ ns.length) (hb : b / 2 ≤ ns.length) : ANS inp ns ns' ∧ litV (evs inp ns') l = (litV (evs inp ns) a != litV (evs inp ns) b) := by
  unfold xorN at h
  obtain ⟨⟨p, n1⟩, h1, h2⟩ := bind_some h
  obtain ⟨⟨q, n2⟩, h3, h4⟩ := bind_some h2
  change andN n1 (notN a) (notN b) = some (q, n2) at h3
  change andN n2 (notN p) (notN q) = some (l, ns') at h4
  have s1 := andN_sem (inp := inp) hs h1 ha hb
  have l1 := andN_le h1 ha hb
  have s2 := andN_sem (inp := inp) s1.1.gs h3 (by rw [not_half]; have := s1.1.le; omega) (by rw [not_half]; have := s1.1.le; omega)
  have l2 := andN_le h3 (by rw [not_half]; have := s1.1.le; omega) (by rw [not_half]; have := s1.1.le; omega)
  have s3 := andN_sem (inp := inp) s2.1.gs h4 (by rw [not_half]; have := l1.1; have := s2.1.le; omega) (by rw [not_half]; exact l2.1)
  refine ⟨s1.1.trans (s2.1.trans s3.1), ?_⟩
  rw [s3.2, litV_not, litV_not, s2.2, s2.1.lit l1.1, s1.2, litV_not, litV_not, s1.1.lit ha, s1.1.lit hb]
  cases litV (evs inp ns) a <;> cases litV (evs inp ns) b <;> rfl
theorem muxN_sem {inp : Nat → Bool} {ns ns' : Nds} (hs : GS ns) {c a b l : Nat} (h : muxN ns c a b = some (l, ns')) (hc : c / 2 ≤ ns.length) (ha : a / 2 ≤ ns.length) (hb : b / 2 ≤ ns.length) : ANS inp ns ns' ∧ litV (evs inp ns') l = (if litV (evs inp ns) c = true then litV (evs inp ns) a else litV (evs inp ns) b) := by
  unfold muxN at h
  split at h
  · rename_i e
    cases h
    refine ⟨ANS.refl hs, ?_⟩
    rw [e]
    split <;> rfl
  · obtain ⟨⟨p, n1⟩, h1, h2⟩ := bind_some h
    obtain ⟨⟨q, n2⟩, h3, h4⟩ := bind_some h2
    change andN n1 (notN c) b = some (q, n2) at h3
    change orN n2 p q = some (l, ns') at h4
    have s1 := andN_sem (inp := inp) hs h1 hc ha
    have l1 := andN_le h1 hc ha
    have s2 := andN_sem (inp := inp) s1.1.gs h3 (by rw [not_half]; have := s1.1.le; omega) (by have := s1.1.le; omega)
    have l2 := andN_le h3 (by rw [not_half]; have := s1.1.le; omega) (by have := s1.1.le; omega)
    have s3 := orN_sem (inp := inp) s2.1.gs h4 (by have := l1.1; have := s2.1.le; show p / 2 ≤ _; omega) l2.1
    refine ⟨s1.1.trans (s2.1.trans s3.1), ?_⟩
    rw [s3.2]
    show (litV (evs inp n2) p || litV (evs inp n2) q) = _
    rw [s2.2, s2.1.lit l1.1, s1.2, litV_not, s1.1.lit hc, s1.1.lit hb]
    cases litV (evs inp ns) a <;> cases litV (evs inp ns) b <;> cases litV (evs inp ns) c <;> rfl
theorem all3_sem {inp : Nat → Bool} {ns ns' : Nds} (hs : GS ns) {c a b l : Nat} (h : allN ns 1 [a, b, c] = some (l, ns')) (ha : a / 2 ≤ ns.length) (hb : b / 2 ≤ ns.length) (hc : c / 2 ≤ ns.length) : ANS inp ns ns' ∧ litV (evs inp ns') l = (litV (evs inp ns) a && litV (evs inp ns) b && litV (evs inp ns) c) := by
  obtain ⟨⟨p, n1⟩, h1, h2⟩ := bind_some (o := andN ns 1 a) h
  obtain ⟨⟨q, n2⟩, h3, h4⟩ := bind_some (o := andN n1 p b) h2
  obtain ⟨⟨r, n3⟩, h5, h6⟩ := bind_some (o := andN n2 q c) h4
  cases h6
  have s1 := andN_sem (inp := inp) hs h1 (by omega) ha
  have l1 := andN_le h1 (by omega) ha
  have s2 := andN_sem (inp := inp) s1.1.gs h3 l1.1 (by have := s1.1.le; omega)
  have l2 := andN_le h3 l1.1 (by have := s1.1.le; omega)
  have s3 := andN_sem (inp := inp) s2.1.gs h5 l2.1 (by have := s1.1.le; have := s2.1.le; omega)
  refine ⟨s1.1.trans (s2.1.trans s3.1), ?_⟩
  rw [s3.2, s2.2, s1.2, (s1.1.trans s2.1).lit hc, s1.1.lit hb, (litV_zero inp ns).2]
  rfl
/-- what a making comes to -/
def opV (kd : Int) (x y z i : Bool) : Bool := if kd = 2 then x && y else if kd = 3 then x || y else if kd = 4 then x != y else if kd = 5 then (if z = true then x else y) else if kd = 6 then x && y && z else i
def gateK (kd : Int) : Bool := decide (kd = 2 ∨ kd = 3 ∨ kd = 4 ∨ kd = 5 ∨ kd = 6)
theorem opN_sem {inp : Nat → Bool} {ns ns' : Nds} (hs : GS ns) {kd : Int} {c a b l : Nat} (h : opN ns kd a b c = some (l, ns')) (ha : a / 2 ≤ ns.length) (hb : b / 2 ≤ ns.length) (hc : c / 2 ≤ ns.length) : ANS inp ns ns' ∧ litV (evs inp ns') l = opV kd (litV (evs inp ns) a) (litV (evs inp ns) b) (litV (evs inp ns) c) (inp (inN ns)) ∧ inN ns' = (if gateK kd = true then inN ns else inN ns + 1) ∧ l / 2 ≤ ns'.length := by
  unfold opN at h
  unfold opV gateK
  by_cases e2 : kd = 2
  · rw [if_pos e2] at h
    rw [if_pos e2]
    have h5 := andN_sem (inp := inp) hs h ha hb
    exact ⟨h5.1, h5.2, by rw [andN_in h]; simp [e2], (andN_le h ha hb).1⟩
  · rw [if_neg e2] at h
    rw [if_neg e2]
    by_cases e3 : kd = 3
    · rw [if_pos e3] at h
      rw [if_pos e3]
      have h5 := orN_sem (inp := inp) hs h ha hb
      exact ⟨h5.1, h5.2, by rw [orN_in h]; simp [e3], (orN_le h ha hb).1⟩
    · rw [if_neg e3] at h
      rw [if_neg e3]
      by_cases e4 : kd = 4
      · rw [if_pos e4] at h
        rw [if_pos e4]
        have h5 := xorN_sem (inp := inp) hs h ha hb
        refine ⟨h5.1, h5.2, ?_, ?_⟩
        · unfold xorN at h
          obtain ⟨⟨p, n1⟩, h1, h2⟩ := bind_some h
          obtain ⟨⟨q, n2⟩, h3, h4⟩ := bind_some h2
          change andN n1 (notN a) (notN b) = some (q, n2) at h3
          change andN n2 (notN p) (notN q) = some (l, ns') at h4
          rw [andN_in h4, andN_in h3, andN_in h1]
          simp [e4]
        · unfold xorN at h
          obtain ⟨⟨p, n1⟩, h1, h2⟩ := bind_some h
          obtain ⟨⟨q, n2⟩, h3, h4⟩ := bind_some h2
          change andN n1 (notN a) (notN b) = some (q, n2) at h3
          change andN n2 (notN p) (notN q) = some (l, ns') at h4
          have l1 := andN_le h1 ha hb
          have l2 := andN_le h3 (by rw [not_half]; omega) (by rw [not_half]; omega)
          exact (andN_le h4 (by rw [not_half]; show p / 2 ≤ n2.length; omega) (by rw [not_half]; exact l2.1)).1
      · rw [if_neg e4] at h
        rw [if_neg e4]
        by_cases e5 : kd = 5
        · rw [if_pos e5] at h
          rw [if_pos e5]
          have h5 := muxN_sem (inp := inp) hs h hc ha hb
          refine ⟨h5.1, h5.2, by rw [muxN_in h]; simp [e5], ?_⟩
          unfold muxN at h
          split at h
          · cases h; exact ha
          · obtain ⟨⟨p, n1⟩, h1, h2⟩ := bind_some h
            obtain ⟨⟨q, n2⟩, h3, h4⟩ := bind_some h2
            change andN n1 (notN c) b = some (q, n2) at h3
            change orN n2 p q = some (l, ns') at h4
            have l1 := andN_le h1 hc ha
            have l2 := andN_le h3 (by rw [not_half]; omega) (by omega)
            exact (orN_le h4 (by show p / 2 ≤ n2.length; omega) l2.1).1
        · rw [if_neg e5] at h
          rw [if_neg e5]
          by_cases e6 : kd = 6
          · rw [if_pos e6] at h
            rw [if_pos e6]
            have h5 := all3_sem (inp := inp) hs h ha hb hc
            refine ⟨h5.1, h5.2, by rw [allN_in _ h]; simp [e6], ?_⟩
            obtain ⟨⟨p, n1⟩, h1, h2⟩ := bind_some (o := andN ns 1 a) h
            obtain ⟨⟨q, n2⟩, h3, h4⟩ := bind_some (o := andN n1 p b) h2
            obtain ⟨⟨r, n3⟩, h6, h7⟩ := bind_some (o := andN n2 q c) h4
            cases h7
            have l1 := andN_le h1 (by omega) ha
            have l2 := andN_le h3 l1.1 (by omega)
            exact (andN_le h6 l2.1 (by omega)).1
          · rw [if_neg e6] at h
            rw [if_neg e6]
            cases h
            refine ⟨⟨⟨_, rfl⟩, hs.input⟩, ?_, by rw [inN_in]; simp [e2, e3, e4, e5, e6], by rw [List.length_append]; simp⟩
            have h7 := evs_last inp ns _ _ (evs_in inp ns)
            unfold litV
            rw [show 2 * (ns.length + 1) / 2 = ns.length + 1 by omega, show (2 * (ns.length + 1) % 2 == 1) = false by rw [show 2 * (ns.length + 1) % 2 = 0 by omega]; rfl, h7]
            simp
def valueN (v : List Bool) (i : Int) : Bool := if i < 0 then !(v.getD ((-(i + 1)).toNat % v.length) false) else v.getD (i.toNat % v.length) false
theorem value_pick (inp : Nat → Bool) (ns : Nds) (L : List Nat) (i : Int) (h0 : 0 < L.length) : valueN (L.map (litV (evs inp ns))) i = litV (evs inp ns) (pickN L i) := by
  have key : ∀ j, (L.map (litV (evs inp ns))).getD (j % L.length) false = litV (evs inp ns) (L.getD (j % L.length) 0) := fun j => by
    have hj : j % L.length < L.length := Nat.mod_lt _ h0
    rw [List.getD_eq_getElem?_getD, List.getElem?_map, List.getElem?_eq_getElem hj, List.getD_eq_getElem?_getD, List.getElem?_eq_getElem hj]
    rfl
  unfold valueN pickN
  rw [List.length_map]
  split
  · rw [key, litV_not]
  · rw [key]
def wantF (inp : Nat → Bool) (s : List Bool × Nat) (m : Int × Int × Int × Int) : List Bool × Nat := (s.1 ++ [opV m.1 (valueN s.1 m.2.1) (valueN s.1 m.2.2.1) (valueN s.1 m.2.2.2) (inp s.2)], if gateK m.1 = true then s.2 else s.2 + 1)
/-- the values that a list of makings has -/
def wantS (inp : Nat → Bool) (sc : List (Int × Int × Int × Int)) : List Bool × Nat := sc.foldl (wantF inp) ([false], 0)
theorem made_sem (inp : Nat → Bool) (sc : List (Int × Int × Int × Int)) : ∀ ns L, madeN [] [0] sc = some (ns, L) → GS ns ∧ (∀ l ∈ L, l / 2 ≤ ns.length) ∧ 0 < L.length ∧ wantS inp sc = (L.map (litV (evs inp ns)), inN ns) := by
  refine snoc_ind (P := fun sc => ∀ ns L, madeN [] [0] sc = some (ns, L) → GS ns ∧ (∀ l ∈ L, l / 2 ≤ ns.length) ∧ 0 < L.length ∧ wantS inp sc = (L.map (litV (evs inp ns)), inN ns)) ?_ ?_ sc
  · intro ns L h
    cases h
    refine ⟨⟨fun p g h => by simp at h, fun p p' g h => by simp at h⟩, by intro l hl; simp at hl; subst hl; decide, by decide, ?_⟩
    rfl
  · intro sc s ih ns L h
    rw [madeN_snoc] at h
    obtain ⟨⟨n1, L1⟩, h1, h2⟩ := bind_some h
    obtain ⟨⟨l, n2⟩, h3, h4⟩ := bind_some h2
    change opN n1 s.1 (pickN L1 s.2.1) (pickN L1 s.2.2.1) (pickN L1 s.2.2.2) = some (l, n2) at h3
    change some (n2, L1 ++ [l]) = some (ns, L) at h4
    cases h4
    obtain ⟨g1, g2, g3, g4⟩ := ih n1 L1 h1
    have hp := fun i => pickN_le (i := i) g2 g3
    obtain ⟨s1, s2, s3, s4⟩ := opN_sem (inp := inp) g1 h3 (hp _) (hp _) (hp _)
    refine ⟨s1.gs, fun x hx => ?_, by simp, ?_⟩
    · rcases List.mem_append.1 hx with hx | hx
      · have h5 := g2 x hx; have h6 := s1.le; omega
      · rw [List.mem_singleton] at hx; rw [hx]; exact s4
    · unfold wantS at g4 ⊢
      rw [List.foldl_append, g4]
      show wantF inp (L1.map (litV (evs inp n1)), inN n1) s = _
      unfold wantF
      rw [value_pick inp n1 L1 _ g3, value_pick inp n1 L1 _ g3, value_pick inp n1 L1 _ g3, List.map_append]
      show (_, _) = (_, _)
      congr 1
      · congr 1
        · apply List.map_congr_left
          intro x hx
          exact (s1.lit (g2 x hx)).symm
        · show [_] = [_]
          rw [s2]
      · exact s3.symm
end Go.Proofs.Ytekdmdnnpcjaoaa
