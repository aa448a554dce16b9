import Derived.Test.YtopdbhkkmolllaaGreatDoorKoL
import Derived.Deep.Cut
import Derived.Deep.DeepCutAuto
namespace Go.Proofs.YtopdbhkkmolllaaGreatDoor
open Go.ChangeShapes Go.WideShapes Go.ChangeAt Go.RowKit Go.Lib Go.Kn

theorem settled_is (f : Fc) : ∃ v b, (b = true → SD v) ∧ ∀ W, Calls Tryz.prog 5 #[fV f] W fun e w' => e = .returned (.tuple #[fV v, .bool b]) ∧ Below W.heap.size W w' := by
  by_cases hm : f.may
  · obtain ⟨r, hr⟩ := st_is f hm
    refine ⟨r.getD zF, r.isSome, fun h => ?_, fun W => (settled_any f W).mono (by
      rintro e w' ⟨v, c, hv, rfl, hb⟩
      obtain ⟨rfl, rfl⟩ := SA.same hv (Or.inr ⟨hm, r, hr, rfl, rfl⟩)
      cases r <;> exact ⟨rfl, hb⟩)⟩
    cases r with
    | none => simp at h
    | some v => exact sd_of hm hr
  · exact ⟨zF, false, fun h => by simp at h, fun W => (settled_any f W).mono (by
      rintro e w' ⟨v, c, hv, rfl, hb⟩
      obtain ⟨rfl, rfl⟩ := SA.same hv (Or.inl ⟨hm, rfl, rfl⟩)
      exact ⟨rfl, hb⟩)⟩
theorem has_kb (f : Fc) (h : F64 f) (x : Nat) (hx : x < 18446744073709551616) : ∃ b : Bool, (b = true ↔ f.may ∧ f.word x) ∧ ∀ W, Calls Tryz.prog 8 #[fV f, uV x] W fun e w' => e = .returned (.bool b) ∧ Below W.heap.size W w' := by
  obtain ⟨b, hb⟩ : ∃ b : Bool, (b = true ↔ f.may ∧ f.word x) := ⟨@decide _ (Classical.propDecidable (f.may ∧ f.word x)), by simp⟩
  exact ⟨b, hb, fun W => (has_any f x W h hx).mono (by rintro e w' ⟨b', h', rfl, hbl⟩; obtain rfl := bool_of_iff (h'.trans hb.symm); exact ⟨rfl, hbl⟩)⟩
theorem zF64 : F64 zF := by constructor <;> decide
theorem lat_end {a b c p s t u : Fc} {r1 r2 : Option Fc} {q q2 e2 e3 : Nat} (ha : SD a) (hb : SD b) (hc : SD c) (hw : a.w = b.w) (hw2 : b.w = c.w) (h1 : ST (ov a b) r1) (h2 : ST (ov b c) r2) (hp : r1.getD zF = p) (hq : (if r1.isSome then 0 else 1) = q) (hs : r2.getD zF = s) (hq2 : (if r2.isSome then 0 else 1) = q2) (m1 : MA p c t e2) (m2 : MA a s u e3) : (q = 0 ∧ q2 = 0 ∧ e2 = 0 ∧ e3 = 0 ∧ t = u) ∨ (q = 0 ∧ q2 = 0 ∧ e2 = 1 ∧ e3 = 1) ∨ (q = 0 ∧ q2 = 1 ∧ e2 = 1) ∨ (q = 1 ∧ q2 = 0 ∧ e3 = 1) ∨ (q = 1 ∧ q2 = 1) := by
  have hovab := ov_may hw ha.may hb.may
  have hovbc := ov_may hw2 hb.may hc.may
  have goP : ∀ v, ST (ov a b) (some v) → v.may ∧ v.w = c.w := fun v h => ⟨SET.may (show SET (ov a b) v from h) hovab, (show v.w = a.w from (show SET (ov a b) v from h).w).trans (hw.trans hw2)⟩
  have goS : ∀ v, ST (ov b c) (some v) → v.may ∧ a.w = v.w := fun v h => ⟨SET.may (show SET (ov b c) v from h) hovbc, hw.trans (show v.w = b.w from (show SET (ov b c) v from h).w).symm⟩
  cases r1 with
  | none =>
    have hq' : q = 1 := by simpa using hq.symm
    cases r2 with
    | none =>
      have hq2' : q2 = 1 := by simpa using hq2.symm
      exact Or.inr (Or.inr (Or.inr (Or.inr ⟨hq', hq2'⟩)))
    | some s' =>
      have hq2' : q2 = 0 := by simpa using hq2.symm
      have hs' : s' = s := by simpa using hs
      subst hs'
      obtain ⟨sm, sw⟩ := goS _ h2
      rcases m2 with ⟨hn, _⟩ | ⟨_, r4, k2, hu, he⟩
      · exact absurd ⟨ha.may, sm, sw⟩ hn
      · have e4 := st_no2 hw hw2 hb.may hc.may h1 h2 k2
        subst e4
        exact Or.inr (Or.inr (Or.inr (Or.inl ⟨hq', hq2', by simpa using he⟩)))
  | some p' =>
    have hq' : q = 0 := by simpa using hq.symm
    have hp' : p' = p := by simpa using hp
    subst hp'
    obtain ⟨pm, pw⟩ := goP _ h1
    rcases m1 with ⟨hn, _⟩ | ⟨_, r3, k1, ht, he⟩
    · exact absurd ⟨pm, hc.may, pw⟩ hn
    · cases r2 with
      | none =>
        have hq2' : q2 = 1 := by simpa using hq2.symm
        have e4 := st_no1 hw hw2 ha.may hb.may h1 h2 k1
        subst e4
        exact Or.inr (Or.inr (Or.inl ⟨hq', hq2', by simpa using he⟩))
      | some s' =>
        have hq2' : q2 = 0 := by simpa using hq2.symm
        have hs' : s' = s := by simpa using hs
        subst hs'
        obtain ⟨sm, sw⟩ := goS _ h2
        rcases m2 with ⟨hn, _⟩ | ⟨_, r4, k2, hu, he'⟩
        · exact absurd ⟨ha.may, sm, sw⟩ hn
        · have e4 := st_three hw hw2 ha.may hb.may hc.may h1 h2 k1 k2
          subst e4
          cases r3 with
          | none => exact Or.inr (Or.inl ⟨hq', hq2', by simpa using he, by simpa using he'⟩)
          | some v => exact Or.inl ⟨hq', hq2', by simpa using he, by simpa using he', by rw [ht, hu]⟩
set_option maxHeartbeats 8000000 in
set_option maxRecDepth 100000 in
theorem lattice_walk (f g h : Fc) (x : Nat) (w : World) (_hf : F64 f) (_hg : F64 g) (_hh : F64 h) (hx : x < 18446744073709551616) : Calls Tryz.prog 3 #[fV f, fV g, fV h, uV x] w fun e w' => e = .returned (.bool true) ∧ Below w.heap.size w w' := by
  have HN : Hid (∀ W y, Calls Tryz.prog 7 #[.int .i64 y] W fun e w' => e = .returned (.int .i64 y) ∧ w' = W) := fun W y => no_any y W
  have HLv : Hid (∀ W, Calls Tryz.prog 4 #[] W fun e w' => e = .returned (.bool true) ∧ Below W.heap.size W w') := fun W => live_any W
  obtain ⟨a, ba, hsa, hca⟩ := settled_is f
  obtain ⟨b, bb, hsb, hcb⟩ := settled_is g
  obtain ⟨c, bc, hsc, hcc⟩ := settled_is h
  have HCa : Hid (∀ W, Calls Tryz.prog 5 #[fV f] W fun e w' => e = .returned (.tuple #[fV a, .bool ba]) ∧ Below W.heap.size W w') := hca
  have HCb : Hid (∀ W, Calls Tryz.prog 5 #[fV g] W fun e w' => e = .returned (.tuple #[fV b, .bool bb]) ∧ Below W.heap.size W w') := hcb
  have HCc : Hid (∀ W, Calls Tryz.prog 5 #[fV h] W fun e w' => e = .returned (.tuple #[fV c, .bool bc]) ∧ Below W.heap.size W w') := hcc
  have HSa : Hid ((ba = true → SD a) ∧ (bb = true → SD b) ∧ (bc = true → SD c)) := ⟨hsa, hsb, hsc⟩
  clear hca hcb hcc hsa hsb hsc _hf _hg _hh
  obtain ⟨w1, hw1⟩ : ∃ w1, ((w.alloc (.cells #[.int .i64 f.w, uV f.one, uV f.zero, uV f.least, uV f.top] 24)).alloc (.cells #[.int .i64 g.w, uV g.one, uV g.zero, uV g.least, uV g.top] 24)).alloc (.cells #[.int .i64 h.w, uV h.one, uV h.zero, uV h.least, uV h.top] 24) = w1 := ⟨_, rfl⟩
  have K1 : Hid (KL w [(w.heap.size, f), (w.heap.size + 1, g), (w.heap.size + 1 + 1, h)] w1) := by
    rw [← hw1]
    have hb := boxes3 w f g h
    refine ⟨fun p hp => ?_, hb.2.2.2⟩
    simp at hp
    rcases hp with rfl | rfl | rfl
    · exact hb.1
    · exact hb.2.1
    · exact hb.2.2.1
  go_enter Tryz.func3, Tryz.ntmps3
  go_wp2_with fail
  try rw [hw1]
  refine (HLv.out _).mono ?_
  rintro e w2 ⟨rfl, hb⟩
  have K2 : Hid (KL w [(w.heap.size, f), (w.heap.size + 1, g), (w.heap.size + 1 + 1, h)] w2) := K1.out.next hb
  clear hb K1 hw1
  have cf := (K2.out.at (w.heap.size, f) (by simp)).c
  go_wp2_with fail
  refine (HCa.out _).mono ?_
  rintro e wca ⟨rfl, hb⟩
  have Ka0 : Hid (KL w [(w.heap.size, f), (w.heap.size + 1, g), (w.heap.size + 1 + 1, h)] wca) := K2.out.next hb
  obtain ⟨ga, hga⟩ : ∃ ga, wca.heap.size = ga := ⟨_, rfl⟩
  obtain ⟨wda, hwda⟩ : ∃ wda, wca.alloc (.cells #[.int .i64 a.w, .int .u64 (a.one : Int), .int .u64 (a.zero : Int), .int .u64 (a.least : Int), .int .u64 (a.top : Int)] 24) = wda := ⟨_, rfl⟩
  have Ka : Hid (KL w [(ga, a), (w.heap.size, f), (w.heap.size + 1, g), (w.heap.size + 1 + 1, h)] wda) := by rw [← hwda]; exact Ka0.out.new a hga
  have la : w.heap.size + 1 + 1 < ga := by rw [← hga]; exact Ka0.out.lt (w.heap.size + 1 + 1, h) (by simp)
  clear hb cf
  have cg := (Ka.out.at (w.heap.size + 1, g) (by simp)).c
  go_wp2_with fail
  refine (HCb.out _).mono ?_
  rintro e wcb ⟨rfl, hb⟩
  have Kb0 : Hid (KL w [(ga, a), (w.heap.size, f), (w.heap.size + 1, g), (w.heap.size + 1 + 1, h)] wcb) := Ka.out.next hb
  obtain ⟨gb, hgb⟩ : ∃ gb, wcb.heap.size = gb := ⟨_, rfl⟩
  obtain ⟨wdb, hwdb⟩ : ∃ wdb, wcb.alloc (.cells #[.int .i64 b.w, .int .u64 (b.one : Int), .int .u64 (b.zero : Int), .int .u64 (b.least : Int), .int .u64 (b.top : Int)] 24) = wdb := ⟨_, rfl⟩
  have Kb : Hid (KL w [(gb, b), (ga, a), (w.heap.size, f), (w.heap.size + 1, g), (w.heap.size + 1 + 1, h)] wdb) := by rw [← hwdb]; exact Kb0.out.new b hgb
  have lb : w.heap.size + 1 + 1 < gb := by rw [← hgb]; exact Kb0.out.lt (w.heap.size + 1 + 1, h) (by simp)
  clear hb cg
  have ch := (Kb.out.at (w.heap.size + 1 + 1, h) (by simp)).c
  go_wp2_with fail
  refine (HCc.out _).mono ?_
  rintro e wcc ⟨rfl, hb⟩
  have Kc0 : Hid (KL w [(gb, b), (ga, a), (w.heap.size, f), (w.heap.size + 1, g), (w.heap.size + 1 + 1, h)] wcc) := Kb.out.next hb
  obtain ⟨gc, hgc⟩ : ∃ gc, wcc.heap.size = gc := ⟨_, rfl⟩
  obtain ⟨wdc, hwdc⟩ : ∃ wdc, wcc.alloc (.cells #[.int .i64 c.w, .int .u64 (c.one : Int), .int .u64 (c.zero : Int), .int .u64 (c.least : Int), .int .u64 (c.top : Int)] 24) = wdc := ⟨_, rfl⟩
  have Kc : Hid (KL w [(gc, c), (gb, b), (ga, a), (w.heap.size, f), (w.heap.size + 1, g), (w.heap.size + 1 + 1, h)] wdc) := by rw [← hwdc]; exact Kc0.out.new c hgc
  have lc : w.heap.size + 1 + 1 < gc := by rw [← hgc]; exact Kc0.out.lt (w.heap.size + 1 + 1, h) (by simp)
  clear hb ch
  have cA := (Kc.out.at (ga, a) (by simp)).c
  have cB := (Kc.out.at (gb, b) (by simp)).c
  have cC := (Kc.out.at (gc, c) (by simp)).c
  have KC : Hid (KL w [(gc, c), (gb, b), (ga, a), (w.heap.size, f), (w.heap.size + 1, g), (w.heap.size + 1 + 1, h)] wdc) := Kc.out
  have hab : ga < gb := by rw [← hgb]; exact Kb0.out.lt (ga, a) (by simp)
  have hbc : gb < gc := by rw [← hgc]; exact Kc0.out.lt (gb, b) (by simp)
  clear Ka0 Kb0 Kc0 Ka Kb K2 hwda hwdb hga hgb
  cases ba with
  | false =>
    go_wp2_with fail
    go_ret
    exact ⟨rfl, Kc.out.out.2⟩
  | true =>
  cases bb with
  | false =>
    go_wp2_with fail
    go_ret
    exact ⟨rfl, Kc.out.out.2⟩
  | true =>
  cases bc with
  | false =>
    go_wp2_with fail
    go_ret
    exact ⟨rfl, Kc.out.out.2⟩
  | true =>
  by_cases e1 : a.w = b.w
  case neg =>
    have q1 : (a.w != b.w) = true := by simp [e1]
    go_wp2_with fail
    go_ret
    exact ⟨rfl, Kc.out.out.2⟩
  by_cases e2 : b.w = c.w
  case neg =>
    have q1 : (a.w != b.w) = false := by simp [e1]
    have q2 : (b.w != c.w) = true := by simp [e2]
    have E1 : Hid (a.w = b.w) := e1
    clear e1
    go_wp2_with fail
    go_ret
    exact ⟨rfl, Kc.out.out.2⟩
  have q1 : (a.w != b.w) = false := by simp [e1]
  have q2 : (b.w != c.w) = false := by simp [e2]
  have HE : Hid (a.w = b.w ∧ b.w = c.w) := ⟨e1, e2⟩
  have HD : Hid (SD a ∧ SD b ∧ SD c) := ⟨HSa.out.1 rfl, HSa.out.2.1 rfl, HSa.out.2.2 rfl⟩
  clear e1 e2 HSa
  obtain ⟨j, hj⟩ : ∃ j, jn a b = j := ⟨_, rfl⟩
  have HJ : Hid (jn a b = j) := hj
  have HJ1 : Hid (∀ W, Calls Tryz.prog 6 #[fV a, fV b] W fun e w' => e = .returned (.tuple #[fV j, .int .i64 0]) ∧ Below W.heap.size W w') := fun W => by rw [← hj]; exact join_sd a b W HD.out.1 HD.out.2.1 HE.out.1
  have HJ2 : Hid (∀ W, Calls Tryz.prog 6 #[fV b, fV a] W fun e w' => e = .returned (.tuple #[fV j, .int .i64 0]) ∧ Below W.heap.size W w') := fun W => by rw [← hj, jn_comm HE.out.1]; exact join_sd b a W HD.out.2.1 HD.out.1 HE.out.1.symm
  have HJ3 : Hid (∀ W, Calls Tryz.prog 6 #[fV a, fV a] W fun e w' => e = .returned (.tuple #[fV a, .int .i64 0]) ∧ Below W.heap.size W w') := fun W => by have h := join_sd a a W HD.out.1 HD.out.1 rfl; rw [jn_self] at h; exact h
  clear hj
  go_wp2_with fail
  refine (HJ1.out _).mono ?_
  rintro e wcj ⟨rfl, hb⟩
  have Kj0 : Hid (KL w [(gc, c), (gb, b), (ga, a), (w.heap.size, f), (w.heap.size + 1, g), (w.heap.size + 1 + 1, h)] wcj) := KC.out.next hb
  clear hb KC cA cB cC
  obtain ⟨gj, hgj⟩ : ∃ gj, wcj.heap.size = gj := ⟨_, rfl⟩
  obtain ⟨wdj, hwdj⟩ : ∃ wdj, wcj.alloc (.cells #[.int .i64 j.w, .int .u64 (j.one : Int), .int .u64 (j.zero : Int), .int .u64 (j.least : Int), .int .u64 (j.top : Int)] 24) = wdj := ⟨_, rfl⟩
  have Kj : Hid (KL w [(gj, j), (gc, c), (gb, b), (ga, a), (w.heap.size, f), (w.heap.size + 1, g), (w.heap.size + 1 + 1, h)] wdj) := by rw [← hwdj]; exact Kj0.out.new j hgj
  have mj : gc < gj := by rw [← hgj]; exact Kj0.out.lt (gc, c) (by simp)
  clear Kj0
  have cA := (Kj.out.at (ga, a) (by simp)).c
  have cB := (Kj.out.at (gb, b) (by simp)).c
  have cC := (Kj.out.at (gc, c) (by simp)).c
  have cJx := (Kj.out.at (gj, j) (by simp)).c
  go_wp2_with fail
  refine (HJ2.out _).mono ?_
  rintro e wck ⟨rfl, hb⟩
  have Kk0 : Hid (KL w [(gj, j), (gc, c), (gb, b), (ga, a), (w.heap.size, f), (w.heap.size + 1, g), (w.heap.size + 1 + 1, h)] wck) := Kj.out.next hb
  clear hb Kj cA cB cC cJx
  obtain ⟨gk, hgk⟩ : ∃ gk, wck.heap.size = gk := ⟨_, rfl⟩
  obtain ⟨wdk, hwdk⟩ : ∃ wdk, wck.alloc (.cells #[.int .i64 j.w, .int .u64 (j.one : Int), .int .u64 (j.zero : Int), .int .u64 (j.least : Int), .int .u64 (j.top : Int)] 24) = wdk := ⟨_, rfl⟩
  have Kk : Hid (KL w [(gk, j), (gj, j), (gc, c), (gb, b), (ga, a), (w.heap.size, f), (w.heap.size + 1, g), (w.heap.size + 1 + 1, h)] wdk) := by rw [← hwdk]; exact Kk0.out.new j hgk
  have mk : gj < gk := by rw [← hgk]; exact Kk0.out.lt (gj, j) (by simp)
  clear Kk0
  have cA := (Kk.out.at (ga, a) (by simp)).c
  have cB := (Kk.out.at (gb, b) (by simp)).c
  have cC := (Kk.out.at (gc, c) (by simp)).c
  have cJx := (Kk.out.at (gj, j) (by simp)).c
  have cKx := (Kk.out.at (gk, j) (by simp)).c
  go_wp2_with fail
  refine (HJ3.out _).mono ?_
  rintro e wcs ⟨rfl, hb⟩
  have Ks0 : Hid (KL w [(gk, j), (gj, j), (gc, c), (gb, b), (ga, a), (w.heap.size, f), (w.heap.size + 1, g), (w.heap.size + 1 + 1, h)] wcs) := Kk.out.next hb
  clear hb Kk cA cB cC cJx cKx
  obtain ⟨gs, hgs⟩ : ∃ gs, wcs.heap.size = gs := ⟨_, rfl⟩
  obtain ⟨wds, hwds⟩ : ∃ wds, wcs.alloc (.cells #[.int .i64 a.w, .int .u64 (a.one : Int), .int .u64 (a.zero : Int), .int .u64 (a.least : Int), .int .u64 (a.top : Int)] 24) = wds := ⟨_, rfl⟩
  have Ks : Hid (KL w [(gs, a), (gk, j), (gj, j), (gc, c), (gb, b), (ga, a), (w.heap.size, f), (w.heap.size + 1, g), (w.heap.size + 1 + 1, h)] wds) := by rw [← hwds]; exact Ks0.out.new a hgs
  have ms : gk < gs := by rw [← hgs]; exact Ks0.out.lt (gk, j) (by simp)
  clear Ks0
  have cA := (Ks.out.at (ga, a) (by simp)).c
  have cB := (Ks.out.at (gb, b) (by simp)).c
  have cC := (Ks.out.at (gc, c) (by simp)).c
  have cJx := (Ks.out.at (gj, j) (by simp)).c
  have cKx := (Ks.out.at (gk, j) (by simp)).c
  have cSx := (Ks.out.at (gs, a) (by simp)).c
  have n1 := fun W => neq_f j W
  have n2 := fun W => neq_f a W
  have hj64 := may64 (show j.may from by rw [← HJ.out]; exact (HD.out.1.jn HD.out.2.1 HE.out.1).may)
  obtain ⟨xa, hxa, hka⟩ := has_kb a (may64 HD.out.1.may) x hx
  obtain ⟨xb, hxb, hkb⟩ := has_kb b (may64 HD.out.2.1.may) x hx
  obtain ⟨xj, hxj, hkj⟩ := has_kb j hj64 x hx
  have HHa : Hid (∀ W, Calls Tryz.prog 8 #[fV a, uV x] W fun e w' => e = .returned (.bool xa) ∧ Below W.heap.size W w') := hka
  have HHb : Hid (∀ W, Calls Tryz.prog 8 #[fV b, uV x] W fun e w' => e = .returned (.bool xb) ∧ Below W.heap.size W w') := hkb
  have HHj : Hid (∀ W, Calls Tryz.prog 8 #[fV j, uV x] W fun e w' => e = .returned (.bool xj) ∧ Below W.heap.size W w') := hkj
  have HXa : Hid ((xa = true ↔ a.may ∧ a.word x) ∧ (xb = true ↔ b.may ∧ b.word x)) := ⟨hxa, hxb⟩
  have HXJ : Hid ((xa = true → xj = true) ∧ (xb = true → xj = true)) := ⟨fun h => hxj.2 ⟨by rw [← HJ.out]; exact (HD.out.1.jn HD.out.2.1 HE.out.1).may, by rw [← HJ.out]; exact jn_word HE.out.1 x (Or.inl (hxa.1 h).2)⟩, fun h => hxj.2 ⟨by rw [← HJ.out]; exact (HD.out.1.jn HD.out.2.1 HE.out.1).may, by rw [← HJ.out]; exact jn_word HE.out.1 x (Or.inr (hxb.1 h).2)⟩⟩
  clear hxa hxb hxj hka hkb hkj hj64
  go_upto_region 11 with fail
  go_cut [128] (fun s128 wx => s128 = .bool false ∧ KL w [(gs, a), (gk, j), (gj, j), (gc, c), (gb, b), (ga, a), (w.heap.size, f), (w.heap.size + 1, g), (w.heap.size + 1 + 1, h)] wx)
  case first =>
    go_wp2_with (go_at_call 7; refine (HN.out _ _).mono ?_; rintro e w' ⟨rfl, hw⟩; obtain rfl := hw.symm)
    refine (HHa.out _).mono ?_
    rintro e wp1 ⟨rfl, hb⟩
    have Kp1 : Hid (KL w [(gs, a), (gk, j), (gj, j), (gc, c), (gb, b), (ga, a), (w.heap.size, f), (w.heap.size + 1, g), (w.heap.size + 1 + 1, h)] wp1) := Ks.out.next hb
    clear hb cA cB cC cJx cKx cSx
    have cA := (Kp1.out.at (ga, a) (by simp)).c
    have cB := (Kp1.out.at (gb, b) (by simp)).c
    have cC := (Kp1.out.at (gc, c) (by simp)).c
    have cJx := (Kp1.out.at (gj, j) (by simp)).c
    have cKx := (Kp1.out.at (gk, j) (by simp)).c
    have cSx := (Kp1.out.at (gs, a) (by simp)).c
    cases xa with
    | true =>
      have exj : xj = true := HXJ.out.1 rfl
      subst exj
      go_wp2_with fail
      refine (HHj.out _).mono ?_
      rintro e wp2 ⟨rfl, hb⟩
      have Kp2 : Hid (KL w [(gs, a), (gk, j), (gj, j), (gc, c), (gb, b), (ga, a), (w.heap.size, f), (w.heap.size + 1, g), (w.heap.size + 1 + 1, h)] wp2) := Kp1.out.next hb
      clear hb cA cB cC cJx cKx cSx
      have cA := (Kp2.out.at (ga, a) (by simp)).c
      have cB := (Kp2.out.at (gb, b) (by simp)).c
      have cC := (Kp2.out.at (gc, c) (by simp)).c
      have cJx := (Kp2.out.at (gj, j) (by simp)).c
      have cKx := (Kp2.out.at (gk, j) (by simp)).c
      have cSx := (Kp2.out.at (gs, a) (by simp)).c
      go_wp2_with fail
      go_meet
      exact ⟨rfl, Kp2.out⟩
    | false =>
      go_wp2_with fail
      refine (HHb.out _).mono ?_
      rintro e wp2 ⟨rfl, hb⟩
      have Kp2 : Hid (KL w [(gs, a), (gk, j), (gj, j), (gc, c), (gb, b), (ga, a), (w.heap.size, f), (w.heap.size + 1, g), (w.heap.size + 1 + 1, h)] wp2) := Kp1.out.next hb
      clear hb cA cB cC cJx cKx cSx
      have cA := (Kp2.out.at (ga, a) (by simp)).c
      have cB := (Kp2.out.at (gb, b) (by simp)).c
      have cC := (Kp2.out.at (gc, c) (by simp)).c
      have cJx := (Kp2.out.at (gj, j) (by simp)).c
      have cKx := (Kp2.out.at (gk, j) (by simp)).c
      have cSx := (Kp2.out.at (gs, a) (by simp)).c
      cases xb with
      | true =>
        have exj : xj = true := HXJ.out.2 rfl
        subst exj
        go_wp2_with fail
        refine (HHj.out _).mono ?_
        rintro e wp3 ⟨rfl, hb⟩
        have Kp3 : Hid (KL w [(gs, a), (gk, j), (gj, j), (gc, c), (gb, b), (ga, a), (w.heap.size, f), (w.heap.size + 1, g), (w.heap.size + 1 + 1, h)] wp3) := Kp2.out.next hb
        clear hb cA cB cC cJx cKx cSx
        have cA := (Kp3.out.at (ga, a) (by simp)).c
        have cB := (Kp3.out.at (gb, b) (by simp)).c
        have cC := (Kp3.out.at (gc, c) (by simp)).c
        have cJx := (Kp3.out.at (gj, j) (by simp)).c
        have cKx := (Kp3.out.at (gk, j) (by simp)).c
        have cSx := (Kp3.out.at (gs, a) (by simp)).c
        go_wp2_with fail
        go_meet
        exact ⟨rfl, Kp3.out⟩
      | false =>
        go_wp2_with fail
        go_meet
        exact ⟨rfl, Kp2.out⟩
  case rest =>
    obtain ⟨rfl, hkc⟩ := hcut
    have KR : Hid (KL w [(gs, a), (gk, j), (gj, j), (gc, c), (gb, b), (ga, a), (w.heap.size, f), (w.heap.size + 1, g), (w.heap.size + 1 + 1, h)] wc) := hkc
    clear hkc Ks cA cB cC cJx cKx cSx
    have cA := (KR.out.at (ga, a) (by simp)).c
    have cB := (KR.out.at (gb, b) (by simp)).c
    have cC := (KR.out.at (gc, c) (by simp)).c
    have cJx := (KR.out.at (gj, j) (by simp)).c
    have cKx := (KR.out.at (gk, j) (by simp)).c
    have cSx := (KR.out.at (gs, a) (by simp)).c
    obtain ⟨m0, hm0⟩ : ∃ m0, jn b c = m0 := ⟨_, rfl⟩
    obtain ⟨l0, hl0⟩ : ∃ l0, jn j c = l0 := ⟨_, rfl⟩
    have hjw : j.w = c.w := by rw [← HJ.out]; exact HE.out.1.trans HE.out.2
    have hmw : a.w = m0.w := by rw [← hm0]; exact HE.out.1
    have HJ4 : Hid (∀ W, Calls Tryz.prog 6 #[fV j, fV c] W fun e w' => e = .returned (.tuple #[fV l0, .int .i64 0]) ∧ Below W.heap.size W w') := fun W => by rw [← hl0]; exact join_sd j c W (by rw [← HJ.out]; exact HD.out.1.jn HD.out.2.1 HE.out.1) HD.out.2.2 hjw
    have HJ5 : Hid (∀ W, Calls Tryz.prog 6 #[fV b, fV c] W fun e w' => e = .returned (.tuple #[fV m0, .int .i64 0]) ∧ Below W.heap.size W w') := fun W => by rw [← hm0]; exact join_sd b c W HD.out.2.1 HD.out.2.2 HE.out.2
    have HJ6 : Hid (∀ W, Calls Tryz.prog 6 #[fV a, fV m0] W fun e w' => e = .returned (.tuple #[fV l0, .int .i64 0]) ∧ Below W.heap.size W w') := fun W => by
      have h9 := join_sd a m0 W HD.out.1 (by rw [← hm0]; exact HD.out.2.1.jn HD.out.2.2 HE.out.2) hmw
      have e9 : jn a m0 = l0 := by rw [← hl0, ← hm0, ← HJ.out, jn_assoc]
      rw [e9] at h9
      exact h9
    clear hm0 hl0 hjw hmw
    go_wp2_with fail
    refine (HJ4.out _).mono ?_
    rintro e wcl ⟨rfl, hb⟩
    have Kl0 : Hid (KL w [(gs, a), (gk, j), (gj, j), (gc, c), (gb, b), (ga, a), (w.heap.size, f), (w.heap.size + 1, g), (w.heap.size + 1 + 1, h)] wcl) := KR.out.next hb
    clear hb KR cA cB cC cJx cKx cSx
    obtain ⟨gl, hgl⟩ : ∃ gl, wcl.heap.size = gl := ⟨_, rfl⟩
    obtain ⟨wdl, hwdl⟩ : ∃ wdl, wcl.alloc (.cells #[.int .i64 l0.w, .int .u64 (l0.one : Int), .int .u64 (l0.zero : Int), .int .u64 (l0.least : Int), .int .u64 (l0.top : Int)] 24) = wdl := ⟨_, rfl⟩
    have Kl : Hid (KL w [(gl, l0), (gs, a), (gk, j), (gj, j), (gc, c), (gb, b), (ga, a), (w.heap.size, f), (w.heap.size + 1, g), (w.heap.size + 1 + 1, h)] wdl) := by rw [← hwdl]; exact Kl0.out.new l0 hgl
    have ml : gs < gl := by rw [← hgl]; exact Kl0.out.lt (gs, a) (by simp)
    clear Kl0
    have cA := (Kl.out.at (ga, a) (by simp)).c
    have cB := (Kl.out.at (gb, b) (by simp)).c
    have cC := (Kl.out.at (gc, c) (by simp)).c
    have cJx := (Kl.out.at (gj, j) (by simp)).c
    have cKx := (Kl.out.at (gk, j) (by simp)).c
    have cSx := (Kl.out.at (gs, a) (by simp)).c
    have cLx := (Kl.out.at (gl, l0) (by simp)).c
    go_wp2_with fail
    refine (HJ5.out _).mono ?_
    rintro e wcm ⟨rfl, hb⟩
    have Km0 : Hid (KL w [(gl, l0), (gs, a), (gk, j), (gj, j), (gc, c), (gb, b), (ga, a), (w.heap.size, f), (w.heap.size + 1, g), (w.heap.size + 1 + 1, h)] wcm) := Kl.out.next hb
    clear hb Kl cA cB cC cJx cKx cSx cLx
    obtain ⟨gm, hgm⟩ : ∃ gm, wcm.heap.size = gm := ⟨_, rfl⟩
    obtain ⟨wdm, hwdm⟩ : ∃ wdm, wcm.alloc (.cells #[.int .i64 m0.w, .int .u64 (m0.one : Int), .int .u64 (m0.zero : Int), .int .u64 (m0.least : Int), .int .u64 (m0.top : Int)] 24) = wdm := ⟨_, rfl⟩
    have Km : Hid (KL w [(gm, m0), (gl, l0), (gs, a), (gk, j), (gj, j), (gc, c), (gb, b), (ga, a), (w.heap.size, f), (w.heap.size + 1, g), (w.heap.size + 1 + 1, h)] wdm) := by rw [← hwdm]; exact Km0.out.new m0 hgm
    have mm : gl < gm := by rw [← hgm]; exact Km0.out.lt (gl, l0) (by simp)
    clear Km0
    have cA := (Km.out.at (ga, a) (by simp)).c
    have cB := (Km.out.at (gb, b) (by simp)).c
    have cC := (Km.out.at (gc, c) (by simp)).c
    have cJx := (Km.out.at (gj, j) (by simp)).c
    have cKx := (Km.out.at (gk, j) (by simp)).c
    have cSx := (Km.out.at (gs, a) (by simp)).c
    have cLx := (Km.out.at (gl, l0) (by simp)).c
    have cMx := (Km.out.at (gm, m0) (by simp)).c
    go_wp2_with fail
    refine (HJ6.out _).mono ?_
    rintro e wco ⟨rfl, hb⟩
    have Ko0 : Hid (KL w [(gm, m0), (gl, l0), (gs, a), (gk, j), (gj, j), (gc, c), (gb, b), (ga, a), (w.heap.size, f), (w.heap.size + 1, g), (w.heap.size + 1 + 1, h)] wco) := Km.out.next hb
    clear hb Km cA cB cC cJx cKx cSx cLx cMx
    obtain ⟨go, hgo⟩ : ∃ go, wco.heap.size = go := ⟨_, rfl⟩
    obtain ⟨wdo, hwdo⟩ : ∃ wdo, wco.alloc (.cells #[.int .i64 l0.w, .int .u64 (l0.one : Int), .int .u64 (l0.zero : Int), .int .u64 (l0.least : Int), .int .u64 (l0.top : Int)] 24) = wdo := ⟨_, rfl⟩
    have Ko : Hid (KL w [(go, l0), (gm, m0), (gl, l0), (gs, a), (gk, j), (gj, j), (gc, c), (gb, b), (ga, a), (w.heap.size, f), (w.heap.size + 1, g), (w.heap.size + 1 + 1, h)] wdo) := by rw [← hwdo]; exact Ko0.out.new l0 hgo
    have mo : gm < go := by rw [← hgo]; exact Ko0.out.lt (gm, m0) (by simp)
    clear Ko0
    have cA := (Ko.out.at (ga, a) (by simp)).c
    have cB := (Ko.out.at (gb, b) (by simp)).c
    have cC := (Ko.out.at (gc, c) (by simp)).c
    have cJx := (Ko.out.at (gj, j) (by simp)).c
    have cKx := (Ko.out.at (gk, j) (by simp)).c
    have cSx := (Ko.out.at (gs, a) (by simp)).c
    have cLx := (Ko.out.at (gl, l0) (by simp)).c
    have cMx := (Ko.out.at (gm, m0) (by simp)).c
    have cOx := (Ko.out.at (go, l0) (by simp)).c
    have n3 := fun W => neq_f l0 W
    obtain ⟨r1, hr1⟩ := st_is (ov a b) (ov_may HE.out.1 HD.out.1.may HD.out.2.1.may)
    obtain ⟨r2, hr2⟩ := st_is (ov b c) (ov_may HE.out.2 HD.out.2.1.may HD.out.2.2.may)
    obtain ⟨p, hp⟩ : ∃ p, r1.getD zF = p := ⟨_, rfl⟩
    obtain ⟨q, hq⟩ : ∃ q : Nat, (if r1.isSome then 0 else 1) = q := ⟨_, rfl⟩
    have HR1 : Hid (ST (ov a b) r1 ∧ ST (ov b c) r2 ∧ r1.getD zF = p ∧ (if r1.isSome then 0 else 1) = q) := ⟨hr1, hr2, hp, hq⟩
    have HM1 : Hid (∀ W, Calls Tryz.prog 9 #[fV a, fV b] W fun e w' => e = .returned (.tuple #[fV p, .int .i64 (q : Int)]) ∧ Below W.heap.size W w') := fun W => by rw [← hp, ← hq]; exact meet_sd a b W HD.out.1.may HD.out.2.1.may HE.out.1 hr1
    have HM2 : Hid (∀ W, Calls Tryz.prog 9 #[fV b, fV a] W fun e w' => e = .returned (.tuple #[fV p, .int .i64 (q : Int)]) ∧ Below W.heap.size W w') := fun W => by rw [← hp, ← hq]; exact meet_sd b a W HD.out.2.1.may HD.out.1.may HE.out.1.symm (st_ov_comm HE.out.1 hr1)
    have HM3 : Hid (∀ W, Calls Tryz.prog 9 #[fV a, fV a] W fun e w' => e = .returned (.tuple #[fV a, .int .i64 0]) ∧ Below W.heap.size W w') := fun W => meet_sd a a W HD.out.1.may HD.out.1.may rfl (st_ov_self HD.out.1)
    clear hr1 hr2 hp hq
    go_wp2_with (go_at_call 7; refine (HN.out _ _).mono ?_; rintro e w' ⟨rfl, hw⟩; obtain rfl := hw.symm)
    refine (HM1.out _).mono ?_
    rintro e wcp ⟨rfl, hb⟩
    have Kp0 : Hid (KL w [(go, l0), (gm, m0), (gl, l0), (gs, a), (gk, j), (gj, j), (gc, c), (gb, b), (ga, a), (w.heap.size, f), (w.heap.size + 1, g), (w.heap.size + 1 + 1, h)] wcp) := Ko.out.next hb
    clear hb Ko cA cB cC cJx cKx cSx cLx cMx cOx
    obtain ⟨gp, hgp⟩ : ∃ gp, wcp.heap.size = gp := ⟨_, rfl⟩
    obtain ⟨wdp, hwdp⟩ : ∃ wdp, wcp.alloc (.cells #[.int .i64 p.w, .int .u64 (p.one : Int), .int .u64 (p.zero : Int), .int .u64 (p.least : Int), .int .u64 (p.top : Int)] 24) = wdp := ⟨_, rfl⟩
    have Kp : Hid (KL w [(gp, p), (go, l0), (gm, m0), (gl, l0), (gs, a), (gk, j), (gj, j), (gc, c), (gb, b), (ga, a), (w.heap.size, f), (w.heap.size + 1, g), (w.heap.size + 1 + 1, h)] wdp) := by rw [← hwdp]; exact Kp0.out.new p hgp
    have mp : go < gp := by rw [← hgp]; exact Kp0.out.lt (go, l0) (by simp)
    clear Kp0
    have cA := (Kp.out.at (ga, a) (by simp)).c
    have cB := (Kp.out.at (gb, b) (by simp)).c
    have cC := (Kp.out.at (gc, c) (by simp)).c
    have cJx := (Kp.out.at (gj, j) (by simp)).c
    have cKx := (Kp.out.at (gk, j) (by simp)).c
    have cSx := (Kp.out.at (gs, a) (by simp)).c
    have cLx := (Kp.out.at (gl, l0) (by simp)).c
    have cMx := (Kp.out.at (gm, m0) (by simp)).c
    have cOx := (Kp.out.at (go, l0) (by simp)).c
    have cPx := (Kp.out.at (gp, p) (by simp)).c
    go_wp2_with fail
    refine (HM2.out _).mono ?_
    rintro e wcq ⟨rfl, hb⟩
    have Kq0 : Hid (KL w [(gp, p), (go, l0), (gm, m0), (gl, l0), (gs, a), (gk, j), (gj, j), (gc, c), (gb, b), (ga, a), (w.heap.size, f), (w.heap.size + 1, g), (w.heap.size + 1 + 1, h)] wcq) := Kp.out.next hb
    clear hb Kp cA cB cC cJx cKx cSx cLx cMx cOx cPx
    obtain ⟨gq, hgq⟩ : ∃ gq, wcq.heap.size = gq := ⟨_, rfl⟩
    obtain ⟨wdq, hwdq⟩ : ∃ wdq, wcq.alloc (.cells #[.int .i64 p.w, .int .u64 (p.one : Int), .int .u64 (p.zero : Int), .int .u64 (p.least : Int), .int .u64 (p.top : Int)] 24) = wdq := ⟨_, rfl⟩
    have Kq : Hid (KL w [(gq, p), (gp, p), (go, l0), (gm, m0), (gl, l0), (gs, a), (gk, j), (gj, j), (gc, c), (gb, b), (ga, a), (w.heap.size, f), (w.heap.size + 1, g), (w.heap.size + 1 + 1, h)] wdq) := by rw [← hwdq]; exact Kq0.out.new p hgq
    have mq : gp < gq := by rw [← hgq]; exact Kq0.out.lt (gp, p) (by simp)
    clear Kq0
    have cA := (Kq.out.at (ga, a) (by simp)).c
    have cB := (Kq.out.at (gb, b) (by simp)).c
    have cC := (Kq.out.at (gc, c) (by simp)).c
    have cJx := (Kq.out.at (gj, j) (by simp)).c
    have cKx := (Kq.out.at (gk, j) (by simp)).c
    have cSx := (Kq.out.at (gs, a) (by simp)).c
    have cLx := (Kq.out.at (gl, l0) (by simp)).c
    have cMx := (Kq.out.at (gm, m0) (by simp)).c
    have cOx := (Kq.out.at (go, l0) (by simp)).c
    have cPx := (Kq.out.at (gp, p) (by simp)).c
    have cQx := (Kq.out.at (gq, p) (by simp)).c
    go_upto_region 20 with fail
    go_cut [214] (fun s214 wx => s214 = .bool false ∧ KL w [(gq, p), (gp, p), (go, l0), (gm, m0), (gl, l0), (gs, a), (gk, j), (gj, j), (gc, c), (gb, b), (ga, a), (w.heap.size, f), (w.heap.size + 1, g), (w.heap.size + 1 + 1, h)] wx)
    case first =>
      obtain ⟨hv, hvE, hvC⟩ : ∃ hv : Fc → Bool, (∀ y, hv y = true ↔ y.may ∧ y.word x) ∧ ∀ y W, F64 y → KL w [(gq, p), (gp, p), (go, l0), (gm, m0), (gl, l0), (gs, a), (gk, j), (gj, j), (gc, c), (gb, b), (ga, a), (w.heap.size, f), (w.heap.size + 1, g), (w.heap.size + 1 + 1, h)] W → Calls Tryz.prog 8 #[fV y, uV x] W fun e w' => e = .returned (.bool (hv y)) ∧ KL w [(gq, p), (gp, p), (go, l0), (gm, m0), (gl, l0), (gs, a), (gk, j), (gj, j), (gc, c), (gb, b), (ga, a), (w.heap.size, f), (w.heap.size + 1, g), (w.heap.size + 1 + 1, h)] w' := ⟨fun y => @decide _ (Classical.propDecidable (y.may ∧ y.word x)), fun y => by simp, fun y W h64 hk => (has_any y x W h64 hx).mono (by
        rintro e w' ⟨b, h, rfl, hbl⟩
        have hd : b = @decide _ (Classical.propDecidable (y.may ∧ y.word x)) := bool_of_iff (h.trans (by simp))
        subst hd
        exact ⟨rfl, hk.next hbl⟩)⟩
      have HHg : Hid (∀ y W, F64 y → KL w [(gq, p), (gp, p), (go, l0), (gm, m0), (gl, l0), (gs, a), (gk, j), (gj, j), (gc, c), (gb, b), (ga, a), (w.heap.size, f), (w.heap.size + 1, g), (w.heap.size + 1 + 1, h)] W → Calls Tryz.prog 8 #[fV y, uV x] W fun e w' => e = .returned (.bool (hv y)) ∧ KL w [(gq, p), (gp, p), (go, l0), (gm, m0), (gl, l0), (gs, a), (gk, j), (gj, j), (gc, c), (gb, b), (ga, a), (w.heap.size, f), (w.heap.size + 1, g), (w.heap.size + 1 + 1, h)] w') := hvC
      have a64 : F64 a := may64 HD.out.1.may
      have b64 : F64 b := may64 HD.out.2.1.may
      have hcomb : (q = 0 ∧ hv p = (hv a && hv b)) ∨ (q = 1 ∧ (hv a && hv b) = false) := by
        obtain ⟨k1, _, kp, kq⟩ := HR1.out
        have hom := ov_may HE.out.1 HD.out.1.may HD.out.2.1.may
        cases r1 with
        | some v =>
          refine Or.inl ⟨by simpa using kq.symm, ?_⟩
          have e9 : v = p := by simpa using kp
          subst e9
          have k1 : SET (ov a b) v := k1
          refine bool_of_iff ?_
          rw [Bool.and_eq_true, hvE, hvE, hvE, k1.word hom, ov_word HE.out.1]
          exact ⟨fun h => ⟨⟨HD.out.1.may, h.2.1⟩, ⟨HD.out.2.1.may, h.2.2⟩⟩, fun h => ⟨k1.may hom, h.1.2, h.2.2⟩⟩
        | none =>
          refine Or.inr ⟨by simpa using kq.symm, ?_⟩
          cases h9 : (hv a && hv b) with
          | false => rfl
          | true =>
            rw [Bool.and_eq_true, hvE, hvE] at h9
            exact absurd ((ov_word HE.out.1 x).2 ⟨h9.1.2, h9.2.2⟩) (k1 x)
      have p64 : F64 p := by
        obtain ⟨k1, _, kp, _⟩ := HR1.out
        have hom := ov_may HE.out.1 HD.out.1.may HD.out.2.1.may
        cases r1 with
        | some v => rw [← kp]; exact may64 (SET.may (show SET (ov a b) v from k1) hom)
        | none => rw [← kp]; exact zF64
      have nP := fun W => neq_f p W
      have K0 : KL w [(gq, p), (gp, p), (go, l0), (gm, m0), (gl, l0), (gs, a), (gk, j), (gj, j), (gc, c), (gb, b), (ga, a), (w.heap.size, f), (w.heap.size + 1, g), (w.heap.size + 1 + 1, h)] wdq := Kq.out
      have K1 : KL w [(gq, p), (gp, p), (go, l0), (gm, m0), (gl, l0), (gs, a), (gk, j), (gj, j), (gc, c), (gb, b), (ga, a), (w.heap.size, f), (w.heap.size + 1, g), (w.heap.size + 1 + 1, h)] wdq.drew := K0.drew
      clear hvE hvC HR1 HM1 HM2 HM3 cC cJx cKx cSx cLx cMx cOx
      clear Kq
      rcases hcomb with ⟨rfl, hq9⟩ | ⟨rfl, hq9⟩
      · cases hA : hv a
        · have hP : hv p = false := by rw [hq9, hA]; rfl
          clear hq9
          as_aux_lemma =>
            try go_wp2_with fail
            refine wp_region_held_drew (S := (fun W => KL w [(gq, p), (gp, p), (go, l0), (gm, m0), (gl, l0), (gs, a), (gk, j), (gj, j), (gc, c), (gb, b), (ga, a), (w.heap.size, f), (w.heap.size + 1, g), (w.heap.size + 1 + 1, h)] W ∧ W.cell? ⟨gp, 0, none⟩ = some (.int .i64 p.w) ∧ W.cell? ⟨gp, 1, none⟩ = some (uV p.one) ∧ W.cell? ⟨gp, 2, none⟩ = some (uV p.zero) ∧ W.cell? ⟨gp, 3, none⟩ = some (uV p.least) ∧ W.cell? ⟨gp, 4, none⟩ = some (uV p.top) ∧ W.cell? ⟨gq, 0, none⟩ = some (.int .i64 p.w) ∧ W.cell? ⟨gq, 1, none⟩ = some (uV p.one) ∧ W.cell? ⟨gq, 2, none⟩ = some (uV p.zero) ∧ W.cell? ⟨gq, 3, none⟩ = some (uV p.least) ∧ W.cell? ⟨gq, 4, none⟩ = some (uV p.top) ∧ W.cell? ⟨ga, 0, none⟩ = some (.int .i64 a.w) ∧ W.cell? ⟨ga, 1, none⟩ = some (uV a.one) ∧ W.cell? ⟨ga, 2, none⟩ = some (uV a.zero) ∧ W.cell? ⟨ga, 3, none⟩ = some (uV a.least) ∧ W.cell? ⟨ga, 4, none⟩ = some (uV a.top) ∧ W.cell? ⟨gb, 0, none⟩ = some (.int .i64 b.w) ∧ W.cell? ⟨gb, 1, none⟩ = some (uV b.one) ∧ W.cell? ⟨gb, 2, none⟩ = some (uV b.zero) ∧ W.cell? ⟨gb, 3, none⟩ = some (uV b.least) ∧ W.cell? ⟨gb, 4, none⟩ = some (uV b.top))) (by kernel_rfl) ?_ (fun hHeld => ?_)
            · refine ⟨K1, ?_, ?_, ?_, ?_, ?_, ?_, ?_, ?_, ?_, ?_, ?_, ?_, ?_, ?_, ?_, ?_, ?_, ?_, ?_, ?_⟩ <;> go_keep
            clear K0 K1
            refine wpAnyH_take (i := 0) (oi := { dst := some 173, op := Op.move (Operand.tmp 16), type := 28, pos := "outright.go:82", after := #[], guard := none }) (v := ?vc1x0) rfl (by kernel_rfl) (by kernel_rfl) (by kernel_rfl) (fun _ _ _ h => h) (Or.inl ⟨by kernel_rfl, ?hc1x0⟩) (by assumption) ?rc1x0
            case hc1x0 => (intro w hSw; (try dsimp only at hSw); go_simp <;> with_reducible rfl)
            try simp only [Act.put, List.setIfInBounds_toArray, List.set_cons_zero, List.set_cons_succ]
            refine wpAnyH_take (i := 1) (oi := { dst := some 174, op := Op.move (Operand.tmp 18), type := 28, pos := "outright.go:82", after := #[], guard := none }) (v := ?vc1x1) rfl (by kernel_rfl) (by kernel_rfl) (by kernel_rfl) (fun _ _ _ h => h) (Or.inl ⟨by kernel_rfl, ?hc1x1⟩) (by assumption) ?rc1x1
            case hc1x1 => (intro w hSw; (try dsimp only at hSw); go_simp <;> with_reducible rfl)
            try simp only [Act.put, List.setIfInBounds_toArray, List.set_cons_zero, List.set_cons_succ]
            refine wpAnyH_take (i := 2) (oi := { dst := some 175, op := Op.binOp BinOp.neq 28 (Operand.tmp 173) (Operand.tmp 174) 28, type := 4, pos := "outright.go:82", after := #[{ on := 0, ground := Ground.data }, { on := 1, ground := Ground.data }], guard := none }) (v := ?vc1x2) rfl (by kernel_rfl) (by kernel_rfl) (by kernel_rfl) (fun _ _ _ h => h) (Or.inl ⟨by kernel_rfl, ?hc1x2⟩) (by assumption) ?rc1x2
            case hc1x2 => (intro w hSw; (try dsimp only at hSw); go_simp <;> with_reducible rfl)
            try simp only [Act.put, List.setIfInBounds_toArray, List.set_cons_zero, List.set_cons_succ]
            refine wpAnyH_take (i := 3) (oi := { dst := some 176, op := Op.move (Operand.tmp 175), type := 4, pos := "outright.go:82", after := #[{ on := 2, ground := Ground.data }], guard := none }) (v := ?vc1x3) rfl (by kernel_rfl) (by kernel_rfl) (by kernel_rfl) (fun _ _ _ h => h) (Or.inl ⟨by kernel_rfl, ?hc1x3⟩) (by assumption) ?rc1x3
            case hc1x3 => (intro w hSw; (try dsimp only at hSw); go_simp <;> with_reducible rfl)
            try simp only [Act.put, List.setIfInBounds_toArray, List.set_cons_zero, List.set_cons_succ]
            refine wpAnyH_take (i := 4) (oi := { dst := some 177, op := Op.load 24 (Operand.tmp 24), type := 24, pos := "outright.go:82", after := #[{ on := 3, ground := Ground.guard }], guard := some (3, false) }) (v := ?vc1x4) rfl (by kernel_rfl) (by kernel_rfl) (by kernel_rfl) (fun _ _ _ h => h) (Or.inl ⟨by kernel_rfl, ?hc1x4⟩) (by assumption) ?rc1x4
            case hc1x4 => (intro w hSw; (try dsimp only at hSw); go_simp <;> with_reducible rfl)
            try simp only [Act.put, List.setIfInBounds_toArray, List.set_cons_zero, List.set_cons_succ]
            refine wpAnyH_take (i := 5) (oi := { dst := some 178, op := Op.load 24 (Operand.tmp 25), type := 24, pos := "outright.go:82", after := #[{ on := 3, ground := Ground.guard }], guard := some (3, false) }) (v := ?vc1x5) rfl (by kernel_rfl) (by kernel_rfl) (by kernel_rfl) (fun _ _ _ h => h) (Or.inl ⟨by kernel_rfl, ?hc1x5⟩) (by assumption) ?rc1x5
            case hc1x5 => (intro w hSw; (try dsimp only at hSw); go_simp <;> with_reducible rfl)
            try simp only [Act.put, List.setIfInBounds_toArray, List.set_cons_zero, List.set_cons_succ]
            refine wpAnyH_take (i := 6) (oi := { dst := some 179, op := Op.binOp BinOp.neq 24 (Operand.tmp 177) (Operand.tmp 178) 24, type := 4, pos := "outright.go:82", after := #[{ on := 4, ground := Ground.data }, { on := 5, ground := Ground.data }, { on := 3, ground := Ground.guard }], guard := some (3, false) }) (v := ?vc1x6) rfl (by kernel_rfl) (by kernel_rfl) (by kernel_rfl) (fun _ _ _ h => h) (Or.inl ⟨by kernel_rfl, ?hc1x6⟩) (by assumption) ?rc1x6
            case hc1x6 => (intro w hSw; (try dsimp only at hSw); go_simp <;> with_reducible rfl)
            try simp only [Act.put, List.setIfInBounds_toArray, List.set_cons_zero, List.set_cons_succ]
            refine wpAnyH_take (i := 7) (oi := { dst := some 180, op := Op.pick (Operand.tmp 176) (Operand.const (Value.bool true)) (Operand.tmp 179), type := 4, pos := "outright.go:82", after := #[{ on := 3, ground := Ground.data }, { on := 6, ground := Ground.data }], guard := none }) (v := ?vc1x7) rfl (by kernel_rfl) (by kernel_rfl) (by kernel_rfl) (fun _ _ _ h => h) (Or.inl ⟨by kernel_rfl, ?hc1x7⟩) (by assumption) ?rc1x7
            case hc1x7 => (intro w hSw; (try dsimp only at hSw); go_simp <;> with_reducible rfl)
            try simp only [Act.put, List.setIfInBounds_toArray, List.set_cons_zero, List.set_cons_succ]
            refine wpAnyH_take (i := 8) (oi := { dst := some 181, op := Op.move (Operand.tmp 180), type := 4, pos := "outright.go:82", after := #[{ on := 7, ground := Ground.data }, { on := 3, ground := Ground.chain }], guard := none }) (v := ?vc1x8) rfl (by kernel_rfl) (by kernel_rfl) (by kernel_rfl) (fun _ _ _ h => h) (Or.inl ⟨by kernel_rfl, ?hc1x8⟩) (by assumption) ?rc1x8
            case hc1x8 => (intro w hSw; (try dsimp only at hSw); go_simp <;> with_reducible rfl)
            try simp only [Act.put, List.setIfInBounds_toArray, List.set_cons_zero, List.set_cons_succ]
            refine wpAnyH_take (i := 9) (oi := { dst := some 182, op := Op.load 24 (Operand.tmp 24), type := 24, pos := "outright.go:82", after := #[{ on := 8, ground := Ground.guard }], guard := some (8, false) }) (v := ?vc1x9) rfl (by kernel_rfl) (by kernel_rfl) (by kernel_rfl) (fun _ _ _ h => h) (Or.inl ⟨by kernel_rfl, ?hc1x9⟩) (by assumption) ?rc1x9
            case hc1x9 => (intro w hSw; (try dsimp only at hSw); go_simp <;> with_reducible rfl)
            try simp only [Act.put, List.setIfInBounds_toArray, List.set_cons_zero, List.set_cons_succ]
            refine wpAnyH_take (i := 10) (oi := { dst := some 183, op := Op.move (Operand.tmp 3), type := 22, pos := "outright.go:82", after := #[{ on := 8, ground := Ground.guard }], guard := some (8, false) }) (v := ?vc1x10) rfl (by kernel_rfl) (by kernel_rfl) (by kernel_rfl) (fun _ _ _ h => h) (Or.inl ⟨by kernel_rfl, ?hc1x10⟩) (by assumption) ?rc1x10
            case hc1x10 => (intro w hSw; (try dsimp only at hSw); go_simp <;> with_reducible rfl)
            try simp only [Act.put, List.setIfInBounds_toArray, List.set_cons_zero, List.set_cons_succ]
            refine wpAnyH_take (i := 12) (oi := { dst := some 185, op := Op.load 24 (Operand.tmp 9), type := 24, pos := "outright.go:82", after := #[{ on := 8, ground := Ground.guard }], guard := some (8, false) }) (v := ?vc1x12) rfl (by kernel_rfl) (by kernel_rfl) (by kernel_rfl) (fun _ _ _ h => h) (Or.inl ⟨by kernel_rfl, ?hc1x12⟩) (by assumption) ?rc1x12
            case hc1x12 => (intro w hSw; (try dsimp only at hSw); go_simp <;> with_reducible rfl)
            try simp only [Act.put, List.setIfInBounds_toArray, List.set_cons_zero, List.set_cons_succ]
            refine wpAnyH_take (i := 13) (oi := { dst := some 186, op := Op.move (Operand.tmp 3), type := 22, pos := "outright.go:82", after := #[{ on := 8, ground := Ground.guard }], guard := some (8, false) }) (v := ?vc1x13) rfl (by kernel_rfl) (by kernel_rfl) (by kernel_rfl) (fun _ _ _ h => h) (Or.inl ⟨by kernel_rfl, ?hc1x13⟩) (by assumption) ?rc1x13
            case hc1x13 => (intro w hSw; (try dsimp only at hSw); go_simp <;> with_reducible rfl)
            try simp only [Act.put, List.setIfInBounds_toArray, List.set_cons_zero, List.set_cons_succ]
            refine wpAnyH_ready (rs := [11]) (by kernel_rfl) (by simp) ?_
            refine AllReadyH.cons (o := { dst := some 184, op := Op.call { callee := Callee.value (Operand.func 8), args := #[Operand.tmp 182, Operand.tmp 183], argTypes := #[24, 22] }, type := 4, pos := "outright.go:82", after := #[{ on := 9, ground := Ground.data }, { on := 10, ground := Ground.data }, { on := 8, ground := Ground.chain }, { on := 8, ground := Ground.guard }], guard := some (8, false) }) rfl (fun K hK => ?_) AllReadyH.nil
            go_simp
            go_at_call 8; refine (HHg.out _ _ p64 hHeld.1).mono ?_; rintro e w9 ⟨he, hk⟩; rw [hP] at he; subst he
            obtain ⟨p0, p1, p2, p3, p4⟩ := (hk.at (gp, p) (by simp)).c
            obtain ⟨q0, q1, q2, q3, q4⟩ := (hk.at (gq, p) (by simp)).c
            obtain ⟨a0, a1, a2, a3, a4⟩ := (hk.at (ga, a) (by simp)).c
            obtain ⟨b0, b1, b2, b3, b4⟩ := (hk.at (gb, b) (by simp)).c
            clear hHeld
            refine hK.out _ _ ⟨hk, p0, p1, p2, p3, p4, q0, q1, q2, q3, q4, a0, a1, a2, a3, a4, b0, b1, b2, b3, b4⟩ (fun hHeld => ?_)
            clear hK K hk p0 p1 p2 p3 p4 q0 q1 q2 q3 q4 a0 a1 a2 a3 a4 b0 b1 b2 b3 b4
            try simp only [Act.put, List.setIfInBounds_toArray, List.set_cons_zero, List.set_cons_succ]
            refine wpAnyH_ready (rs := [14]) (by kernel_rfl) (by simp) ?_
            refine AllReadyH.cons (o := { dst := some 187, op := Op.call { callee := Callee.value (Operand.func 8), args := #[Operand.tmp 185, Operand.tmp 186], argTypes := #[24, 22] }, type := 4, pos := "outright.go:82", after := #[{ on := 12, ground := Ground.data }, { on := 13, ground := Ground.data }, { on := 11, ground := Ground.chain }, { on := 8, ground := Ground.guard }], guard := some (8, false) }) rfl (fun K hK => ?_) AllReadyH.nil
            go_simp
            go_at_call 8; refine (HHg.out _ _ a64 hHeld.1).mono ?_; rintro e w9 ⟨he, hk⟩; rw [hA] at he; subst he
            obtain ⟨p0, p1, p2, p3, p4⟩ := (hk.at (gp, p) (by simp)).c
            obtain ⟨q0, q1, q2, q3, q4⟩ := (hk.at (gq, p) (by simp)).c
            obtain ⟨a0, a1, a2, a3, a4⟩ := (hk.at (ga, a) (by simp)).c
            obtain ⟨b0, b1, b2, b3, b4⟩ := (hk.at (gb, b) (by simp)).c
            clear hHeld
            refine hK.out _ _ ⟨hk, p0, p1, p2, p3, p4, q0, q1, q2, q3, q4, a0, a1, a2, a3, a4, b0, b1, b2, b3, b4⟩ (fun hHeld => ?_)
            clear hK K hk p0 p1 p2 p3 p4 q0 q1 q2 q3 q4 a0 a1 a2 a3 a4 b0 b1 b2 b3 b4
            try simp only [Act.put, List.setIfInBounds_toArray, List.set_cons_zero, List.set_cons_succ]
            refine wpAnyH_take (i := 15) (oi := { dst := some 188, op := Op.move (Operand.tmp 187), type := 4, pos := "outright.go:82", after := #[{ on := 14, ground := Ground.data }, { on := 14, ground := Ground.chain }, { on := 8, ground := Ground.guard }], guard := some (8, false) }) (v := ?vc1x15) rfl (by kernel_rfl) (by kernel_rfl) (by kernel_rfl) (fun _ _ _ h => h) (Or.inl ⟨by kernel_rfl, ?hc1x15⟩) (by assumption) ?rc1x15
            case hc1x15 => (intro w hSw; (try dsimp only at hSw); go_simp <;> with_reducible rfl)
            try simp only [Act.put, List.setIfInBounds_toArray, List.set_cons_zero, List.set_cons_succ]
            refine wpAnyH_take (i := 16) (oi := { dst := some 189, op := Op.load 24 (Operand.tmp 11), type := 24, pos := "outright.go:82", after := #[{ on := 15, ground := Ground.guard }], guard := some (15, true) }) (v := undef) rfl (by kernel_rfl) (by kernel_rfl) (by kernel_rfl) (fun _ _ _ h => h) (Or.inr ⟨by kernel_rfl, rfl⟩) (by assumption) ?rc1x16
            try simp only [Act.put, List.setIfInBounds_toArray, List.set_cons_zero, List.set_cons_succ]
            refine wpAnyH_take (i := 17) (oi := { dst := some 190, op := Op.move (Operand.tmp 3), type := 22, pos := "outright.go:82", after := #[{ on := 15, ground := Ground.guard }], guard := some (15, true) }) (v := undef) rfl (by kernel_rfl) (by kernel_rfl) (by kernel_rfl) (fun _ _ _ h => h) (Or.inr ⟨by kernel_rfl, rfl⟩) (by assumption) ?rc1x17
            try simp only [Act.put, List.setIfInBounds_toArray, List.set_cons_zero, List.set_cons_succ]
            refine wpAnyH_take (i := 18) (oi := { dst := some 191, op := Op.call { callee := Callee.value (Operand.func 8), args := #[Operand.tmp 189, Operand.tmp 190], argTypes := #[24, 22] }, type := 4, pos := "outright.go:82", after := #[{ on := 16, ground := Ground.data }, { on := 17, ground := Ground.data }, { on := 15, ground := Ground.chain }, { on := 15, ground := Ground.guard }], guard := some (15, true) }) (v := undef) rfl (by kernel_rfl) (by kernel_rfl) (by kernel_rfl) (fun _ _ _ h => h) (Or.inr ⟨by kernel_rfl, rfl⟩) (by assumption) ?rc1x18
            try simp only [Act.put, List.setIfInBounds_toArray, List.set_cons_zero, List.set_cons_succ]
            refine wpAnyH_take (i := 19) (oi := { dst := some 192, op := Op.pick (Operand.tmp 188) (Operand.tmp 191) (Operand.const (Value.bool false)), type := 4, pos := "outright.go:82", after := #[{ on := 15, ground := Ground.data }, { on := 18, ground := Ground.data }, { on := 8, ground := Ground.guard }], guard := some (8, false) }) (v := ?vc1x19) rfl (by kernel_rfl) (by kernel_rfl) (by kernel_rfl) (fun _ _ _ h => h) (Or.inl ⟨by kernel_rfl, ?hc1x19⟩) (by assumption) ?rc1x19
            case hc1x19 => (intro w hSw; (try dsimp only at hSw); go_simp <;> with_reducible rfl)
            try simp only [Act.put, List.setIfInBounds_toArray, List.set_cons_zero, List.set_cons_succ]
            refine wpAnyH_take (i := 20) (oi := { dst := some 193, op := Op.binOp BinOp.neq 4 (Operand.tmp 184) (Operand.tmp 192) 4, type := 4, pos := "outright.go:82", after := #[{ on := 11, ground := Ground.data }, { on := 19, ground := Ground.data }, { on := 8, ground := Ground.guard }], guard := some (8, false) }) (v := ?vc1x20) rfl (by kernel_rfl) (by kernel_rfl) (by kernel_rfl) (fun _ _ _ h => h) (Or.inl ⟨by kernel_rfl, ?hc1x20⟩) (by assumption) ?rc1x20
            case hc1x20 => (intro w hSw; (try dsimp only at hSw); go_simp <;> with_reducible rfl)
            try simp only [Act.put, List.setIfInBounds_toArray, List.set_cons_zero, List.set_cons_succ]
            refine wpAnyH_take (i := 21) (oi := { dst := some 194, op := Op.move (Operand.tmp 193), type := 4, pos := "outright.go:82", after := #[{ on := 20, ground := Ground.data }, { on := 18, ground := Ground.chain }, { on := 8, ground := Ground.guard }], guard := some (8, false) }) (v := ?vc1x21) rfl (by kernel_rfl) (by kernel_rfl) (by kernel_rfl) (fun _ _ _ h => h) (Or.inl ⟨by kernel_rfl, ?hc1x21⟩) (by assumption) ?rc1x21
            case hc1x21 => (intro w hSw; (try dsimp only at hSw); go_simp <;> with_reducible rfl)
            try simp only [Act.put, List.setIfInBounds_toArray, List.set_cons_zero, List.set_cons_succ]
            refine wpAnyH_take (i := 22) (oi := { dst := some 195, op := Op.move (Operand.tmp 16), type := 28, pos := "outright.go:82", after := #[{ on := 21, ground := Ground.guard }], guard := some (21, true) }) (v := undef) rfl (by kernel_rfl) (by kernel_rfl) (by kernel_rfl) (fun _ _ _ h => h) (Or.inr ⟨by kernel_rfl, rfl⟩) (by assumption) ?rc1x22
            try simp only [Act.put, List.setIfInBounds_toArray, List.set_cons_zero, List.set_cons_succ]
            refine wpAnyH_take (i := 23) (oi := { dst := some 196, op := Op.call { callee := Callee.value (Operand.func 7), args := #[Operand.tmp 195], argTypes := #[28] }, type := 3, pos := "outright.go:82", after := #[{ on := 22, ground := Ground.data }, { on := 21, ground := Ground.chain }, { on := 21, ground := Ground.guard }], guard := some (21, true) }) (v := undef) rfl (by kernel_rfl) (by kernel_rfl) (by kernel_rfl) (fun _ _ _ h => h) (Or.inr ⟨by kernel_rfl, rfl⟩) (by assumption) ?rc1x23
            try simp only [Act.put, List.setIfInBounds_toArray, List.set_cons_zero, List.set_cons_succ]
            refine wpAnyH_take (i := 24) (oi := { dst := some 197, op := Op.binOp BinOp.eql 3 (Operand.tmp 196) (Operand.const (Value.int IntKind.i64 0)) 3, type := 4, pos := "outright.go:82", after := #[{ on := 23, ground := Ground.data }, { on := 21, ground := Ground.guard }], guard := some (21, true) }) (v := undef) rfl (by kernel_rfl) (by kernel_rfl) (by kernel_rfl) (fun _ _ _ h => h) (Or.inr ⟨by kernel_rfl, rfl⟩) (by assumption) ?rc1x24
            try simp only [Act.put, List.setIfInBounds_toArray, List.set_cons_zero, List.set_cons_succ]
            refine wpAnyH_take (i := 25) (oi := { dst := some 198, op := Op.pick (Operand.tmp 194) (Operand.tmp 197) (Operand.const (Value.bool false)), type := 4, pos := "outright.go:82", after := #[{ on := 21, ground := Ground.data }, { on := 24, ground := Ground.data }, { on := 8, ground := Ground.guard }], guard := some (8, false) }) (v := ?vc1x25) rfl (by kernel_rfl) (by kernel_rfl) (by kernel_rfl) (fun _ _ _ h => h) (Or.inl ⟨by kernel_rfl, ?hc1x25⟩) (by assumption) ?rc1x25
            case hc1x25 => (intro w hSw; (try dsimp only at hSw); go_simp <;> with_reducible rfl)
            try simp only [Act.put, List.setIfInBounds_toArray, List.set_cons_zero, List.set_cons_succ]
            refine wpAnyH_take (i := 26) (oi := { dst := some 199, op := Op.pick (Operand.tmp 181) (Operand.const (Value.bool true)) (Operand.tmp 198), type := 4, pos := "outright.go:82", after := #[{ on := 8, ground := Ground.data }, { on := 25, ground := Ground.data }], guard := none }) (v := ?vc1x26) rfl (by kernel_rfl) (by kernel_rfl) (by kernel_rfl) (fun _ _ _ h => h) (Or.inl ⟨by kernel_rfl, ?hc1x26⟩) (by assumption) ?rc1x26
            case hc1x26 => (intro w hSw; (try dsimp only at hSw); go_simp <;> with_reducible rfl)
            try simp only [Act.put, List.setIfInBounds_toArray, List.set_cons_zero, List.set_cons_succ]
            refine wpAnyH_take (i := 27) (oi := { dst := some 200, op := Op.move (Operand.tmp 199), type := 4, pos := "outright.go:82", after := #[{ on := 26, ground := Ground.data }, { on := 23, ground := Ground.chain }], guard := none }) (v := ?vc1x27) rfl (by kernel_rfl) (by kernel_rfl) (by kernel_rfl) (fun _ _ _ h => h) (Or.inl ⟨by kernel_rfl, ?hc1x27⟩) (by assumption) ?rc1x27
            case hc1x27 => (intro w hSw; (try dsimp only at hSw); go_simp <;> with_reducible rfl)
            try simp only [Act.put, List.setIfInBounds_toArray, List.set_cons_zero, List.set_cons_succ]
            refine wpAnyH_take (i := 28) (oi := { dst := some 201, op := Op.move (Operand.tmp 16), type := 28, pos := "outright.go:82", after := #[{ on := 27, ground := Ground.guard }], guard := some (27, false) }) (v := ?vc1x28) rfl (by kernel_rfl) (by kernel_rfl) (by kernel_rfl) (fun _ _ _ h => h) (Or.inl ⟨by kernel_rfl, ?hc1x28⟩) (by assumption) ?rc1x28
            case hc1x28 => (intro w hSw; (try dsimp only at hSw); go_simp <;> with_reducible rfl)
            try simp only [Act.put, List.setIfInBounds_toArray, List.set_cons_zero, List.set_cons_succ]
            refine wpAnyH_ready (rs := [29]) (by kernel_rfl) (by simp) ?_
            refine AllReadyH.cons (o := { dst := some 202, op := Op.call { callee := Callee.value (Operand.func 7), args := #[Operand.tmp 201], argTypes := #[28] }, type := 3, pos := "outright.go:82", after := #[{ on := 28, ground := Ground.data }, { on := 27, ground := Ground.chain }, { on := 27, ground := Ground.guard }], guard := some (27, false) }) rfl (fun K hK => ?_) AllReadyH.nil
            go_simp
            go_at_call 7; refine (HN.out _ _).mono ?_; rintro e w9 ⟨rfl, hw⟩; obtain rfl := hw.symm
            refine hK.out _ _ hHeld (fun _ => ?_)
            clear hK K
            try simp only [Act.put, List.setIfInBounds_toArray, List.set_cons_zero, List.set_cons_succ]
            refine wpAnyH_take (i := 30) (oi := { dst := some 203, op := Op.binOp BinOp.neq 3 (Operand.tmp 202) (Operand.const (Value.int IntKind.i64 0)) 3, type := 4, pos := "outright.go:82", after := #[{ on := 29, ground := Ground.data }, { on := 27, ground := Ground.guard }], guard := some (27, false) }) (v := ?vc1x30) rfl (by kernel_rfl) (by kernel_rfl) (by kernel_rfl) (fun _ _ _ h => h) (Or.inl ⟨by kernel_rfl, ?hc1x30⟩) (by assumption) ?rc1x30
            case hc1x30 => (intro w hSw; (try dsimp only at hSw); go_simp <;> with_reducible rfl)
            try simp only [Act.put, List.setIfInBounds_toArray, List.set_cons_zero, List.set_cons_succ]
            refine wpAnyH_take (i := 31) (oi := { dst := some 204, op := Op.move (Operand.tmp 203), type := 4, pos := "outright.go:82", after := #[{ on := 30, ground := Ground.data }, { on := 29, ground := Ground.chain }, { on := 27, ground := Ground.guard }], guard := some (27, false) }) (v := ?vc1x31) rfl (by kernel_rfl) (by kernel_rfl) (by kernel_rfl) (fun _ _ _ h => h) (Or.inl ⟨by kernel_rfl, ?hc1x31⟩) (by assumption) ?rc1x31
            case hc1x31 => (intro w hSw; (try dsimp only at hSw); go_simp <;> with_reducible rfl)
            try simp only [Act.put, List.setIfInBounds_toArray, List.set_cons_zero, List.set_cons_succ]
            refine wpAnyH_take (i := 32) (oi := { dst := some 205, op := Op.load 24 (Operand.tmp 9), type := 24, pos := "outright.go:82", after := #[{ on := 31, ground := Ground.guard }], guard := some (31, true) }) (v := undef) rfl (by kernel_rfl) (by kernel_rfl) (by kernel_rfl) (fun _ _ _ h => h) (Or.inr ⟨by kernel_rfl, rfl⟩) (by assumption) ?rc1x32
            try simp only [Act.put, List.setIfInBounds_toArray, List.set_cons_zero, List.set_cons_succ]
            refine wpAnyH_take (i := 33) (oi := { dst := some 206, op := Op.move (Operand.tmp 3), type := 22, pos := "outright.go:82", after := #[{ on := 31, ground := Ground.guard }], guard := some (31, true) }) (v := undef) rfl (by kernel_rfl) (by kernel_rfl) (by kernel_rfl) (fun _ _ _ h => h) (Or.inr ⟨by kernel_rfl, rfl⟩) (by assumption) ?rc1x33
            try simp only [Act.put, List.setIfInBounds_toArray, List.set_cons_zero, List.set_cons_succ]
            refine wpAnyH_take (i := 34) (oi := { dst := some 207, op := Op.call { callee := Callee.value (Operand.func 8), args := #[Operand.tmp 205, Operand.tmp 206], argTypes := #[24, 22] }, type := 4, pos := "outright.go:82", after := #[{ on := 32, ground := Ground.data }, { on := 33, ground := Ground.data }, { on := 31, ground := Ground.chain }, { on := 31, ground := Ground.guard }], guard := some (31, true) }) (v := undef) rfl (by kernel_rfl) (by kernel_rfl) (by kernel_rfl) (fun _ _ _ h => h) (Or.inr ⟨by kernel_rfl, rfl⟩) (by assumption) ?rc1x34
            try simp only [Act.put, List.setIfInBounds_toArray, List.set_cons_zero, List.set_cons_succ]
            refine wpAnyH_take (i := 35) (oi := { dst := some 208, op := Op.pick (Operand.tmp 204) (Operand.tmp 207) (Operand.const (Value.bool false)), type := 4, pos := "outright.go:82", after := #[{ on := 31, ground := Ground.data }, { on := 34, ground := Ground.data }, { on := 27, ground := Ground.guard }], guard := some (27, false) }) (v := ?vc1x35) rfl (by kernel_rfl) (by kernel_rfl) (by kernel_rfl) (fun _ _ _ h => h) (Or.inl ⟨by kernel_rfl, ?hc1x35⟩) (by assumption) ?rc1x35
            case hc1x35 => (intro w hSw; (try dsimp only at hSw); go_simp <;> with_reducible rfl)
            try simp only [Act.put, List.setIfInBounds_toArray, List.set_cons_zero, List.set_cons_succ]
            refine wpAnyH_take (i := 36) (oi := { dst := some 209, op := Op.move (Operand.tmp 208), type := 4, pos := "outright.go:82", after := #[{ on := 35, ground := Ground.data }, { on := 34, ground := Ground.chain }, { on := 27, ground := Ground.guard }], guard := some (27, false) }) (v := ?vc1x36) rfl (by kernel_rfl) (by kernel_rfl) (by kernel_rfl) (fun _ _ _ h => h) (Or.inl ⟨by kernel_rfl, ?hc1x36⟩) (by assumption) ?rc1x36
            case hc1x36 => (intro w hSw; (try dsimp only at hSw); go_simp <;> with_reducible rfl)
            try simp only [Act.put, List.setIfInBounds_toArray, List.set_cons_zero, List.set_cons_succ]
            refine wpAnyH_take (i := 37) (oi := { dst := some 210, op := Op.load 24 (Operand.tmp 11), type := 24, pos := "outright.go:82", after := #[{ on := 36, ground := Ground.guard }], guard := some (36, true) }) (v := undef) rfl (by kernel_rfl) (by kernel_rfl) (by kernel_rfl) (fun _ _ _ h => h) (Or.inr ⟨by kernel_rfl, rfl⟩) (by assumption) ?rc1x37
            try simp only [Act.put, List.setIfInBounds_toArray, List.set_cons_zero, List.set_cons_succ]
            refine wpAnyH_take (i := 38) (oi := { dst := some 211, op := Op.move (Operand.tmp 3), type := 22, pos := "outright.go:82", after := #[{ on := 36, ground := Ground.guard }], guard := some (36, true) }) (v := undef) rfl (by kernel_rfl) (by kernel_rfl) (by kernel_rfl) (fun _ _ _ h => h) (Or.inr ⟨by kernel_rfl, rfl⟩) (by assumption) ?rc1x38
            try simp only [Act.put, List.setIfInBounds_toArray, List.set_cons_zero, List.set_cons_succ]
            refine wpAnyH_take (i := 39) (oi := { dst := some 212, op := Op.call { callee := Callee.value (Operand.func 8), args := #[Operand.tmp 210, Operand.tmp 211], argTypes := #[24, 22] }, type := 4, pos := "outright.go:82", after := #[{ on := 37, ground := Ground.data }, { on := 38, ground := Ground.data }, { on := 36, ground := Ground.chain }, { on := 36, ground := Ground.guard }], guard := some (36, true) }) (v := undef) rfl (by kernel_rfl) (by kernel_rfl) (by kernel_rfl) (fun _ _ _ h => h) (Or.inr ⟨by kernel_rfl, rfl⟩) (by assumption) ?rc1x39
            try simp only [Act.put, List.setIfInBounds_toArray, List.set_cons_zero, List.set_cons_succ]
            refine wpAnyH_take (i := 40) (oi := { dst := some 213, op := Op.pick (Operand.tmp 209) (Operand.tmp 212) (Operand.const (Value.bool false)), type := 4, pos := "outright.go:82", after := #[{ on := 36, ground := Ground.data }, { on := 39, ground := Ground.data }, { on := 27, ground := Ground.guard }], guard := some (27, false) }) (v := ?vc1x40) rfl (by kernel_rfl) (by kernel_rfl) (by kernel_rfl) (fun _ _ _ h => h) (Or.inl ⟨by kernel_rfl, ?hc1x40⟩) (by assumption) ?rc1x40
            case hc1x40 => (intro w hSw; (try dsimp only at hSw); go_simp <;> with_reducible rfl)
            try simp only [Act.put, List.setIfInBounds_toArray, List.set_cons_zero, List.set_cons_succ]
            refine wpAnyH_take (i := 41) (oi := { dst := some 214, op := Op.pick (Operand.tmp 200) (Operand.const (Value.bool true)) (Operand.tmp 213), type := 4, pos := "outright.go:82", after := #[{ on := 27, ground := Ground.data }, { on := 40, ground := Ground.data }], guard := none }) (v := ?vc1x41) rfl (by kernel_rfl) (by kernel_rfl) (by kernel_rfl) (fun _ _ _ h => h) (Or.inl ⟨by kernel_rfl, ?hc1x41⟩) (by assumption) ?rc1x41
            case hc1x41 => (intro w hSw; (try dsimp only at hSw); go_simp <;> with_reducible rfl)
            try simp only [Act.put, List.setIfInBounds_toArray, List.set_cons_zero, List.set_cons_succ]
            refine wpAnyH_done (by kernel_rfl) ?_ _
            try go_wp2_with fail
            go_meet
            exact ⟨rfl, hHeld.1⟩
        · cases hB : hv b
          · have hP : hv p = false := by rw [hq9, hA, hB]; rfl
            clear hq9
            as_aux_lemma =>
              try go_wp2_with fail
              refine wp_region_held_drew (S := (fun W => KL w [(gq, p), (gp, p), (go, l0), (gm, m0), (gl, l0), (gs, a), (gk, j), (gj, j), (gc, c), (gb, b), (ga, a), (w.heap.size, f), (w.heap.size + 1, g), (w.heap.size + 1 + 1, h)] W ∧ W.cell? ⟨gp, 0, none⟩ = some (.int .i64 p.w) ∧ W.cell? ⟨gp, 1, none⟩ = some (uV p.one) ∧ W.cell? ⟨gp, 2, none⟩ = some (uV p.zero) ∧ W.cell? ⟨gp, 3, none⟩ = some (uV p.least) ∧ W.cell? ⟨gp, 4, none⟩ = some (uV p.top) ∧ W.cell? ⟨gq, 0, none⟩ = some (.int .i64 p.w) ∧ W.cell? ⟨gq, 1, none⟩ = some (uV p.one) ∧ W.cell? ⟨gq, 2, none⟩ = some (uV p.zero) ∧ W.cell? ⟨gq, 3, none⟩ = some (uV p.least) ∧ W.cell? ⟨gq, 4, none⟩ = some (uV p.top) ∧ W.cell? ⟨ga, 0, none⟩ = some (.int .i64 a.w) ∧ W.cell? ⟨ga, 1, none⟩ = some (uV a.one) ∧ W.cell? ⟨ga, 2, none⟩ = some (uV a.zero) ∧ W.cell? ⟨ga, 3, none⟩ = some (uV a.least) ∧ W.cell? ⟨ga, 4, none⟩ = some (uV a.top) ∧ W.cell? ⟨gb, 0, none⟩ = some (.int .i64 b.w) ∧ W.cell? ⟨gb, 1, none⟩ = some (uV b.one) ∧ W.cell? ⟨gb, 2, none⟩ = some (uV b.zero) ∧ W.cell? ⟨gb, 3, none⟩ = some (uV b.least) ∧ W.cell? ⟨gb, 4, none⟩ = some (uV b.top))) (by kernel_rfl) ?_ (fun hHeld => ?_)
              · refine ⟨K1, ?_, ?_, ?_, ?_, ?_, ?_, ?_, ?_, ?_, ?_, ?_, ?_, ?_, ?_, ?_, ?_, ?_, ?_, ?_, ?_⟩ <;> go_keep
              clear K0 K1
              refine wpAnyH_take (i := 0) (oi := { dst := some 173, op := Op.move (Operand.tmp 16), type := 28, pos := "outright.go:82", after := #[], guard := none }) (v := ?vc2x0) rfl (by kernel_rfl) (by kernel_rfl) (by kernel_rfl) (fun _ _ _ h => h) (Or.inl ⟨by kernel_rfl, ?hc2x0⟩) (by assumption) ?rc2x0
              case hc2x0 => (intro w hSw; (try dsimp only at hSw); go_simp <;> with_reducible rfl)
              try simp only [Act.put, List.setIfInBounds_toArray, List.set_cons_zero, List.set_cons_succ]
              refine wpAnyH_take (i := 1) (oi := { dst := some 174, op := Op.move (Operand.tmp 18), type := 28, pos := "outright.go:82", after := #[], guard := none }) (v := ?vc2x1) rfl (by kernel_rfl) (by kernel_rfl) (by kernel_rfl) (fun _ _ _ h => h) (Or.inl ⟨by kernel_rfl, ?hc2x1⟩) (by assumption) ?rc2x1
              case hc2x1 => (intro w hSw; (try dsimp only at hSw); go_simp <;> with_reducible rfl)
              try simp only [Act.put, List.setIfInBounds_toArray, List.set_cons_zero, List.set_cons_succ]
              refine wpAnyH_take (i := 2) (oi := { dst := some 175, op := Op.binOp BinOp.neq 28 (Operand.tmp 173) (Operand.tmp 174) 28, type := 4, pos := "outright.go:82", after := #[{ on := 0, ground := Ground.data }, { on := 1, ground := Ground.data }], guard := none }) (v := ?vc2x2) rfl (by kernel_rfl) (by kernel_rfl) (by kernel_rfl) (fun _ _ _ h => h) (Or.inl ⟨by kernel_rfl, ?hc2x2⟩) (by assumption) ?rc2x2
              case hc2x2 => (intro w hSw; (try dsimp only at hSw); go_simp <;> with_reducible rfl)
              try simp only [Act.put, List.setIfInBounds_toArray, List.set_cons_zero, List.set_cons_succ]
              refine wpAnyH_take (i := 3) (oi := { dst := some 176, op := Op.move (Operand.tmp 175), type := 4, pos := "outright.go:82", after := #[{ on := 2, ground := Ground.data }], guard := none }) (v := ?vc2x3) rfl (by kernel_rfl) (by kernel_rfl) (by kernel_rfl) (fun _ _ _ h => h) (Or.inl ⟨by kernel_rfl, ?hc2x3⟩) (by assumption) ?rc2x3
              case hc2x3 => (intro w hSw; (try dsimp only at hSw); go_simp <;> with_reducible rfl)
              try simp only [Act.put, List.setIfInBounds_toArray, List.set_cons_zero, List.set_cons_succ]
              refine wpAnyH_take (i := 4) (oi := { dst := some 177, op := Op.load 24 (Operand.tmp 24), type := 24, pos := "outright.go:82", after := #[{ on := 3, ground := Ground.guard }], guard := some (3, false) }) (v := ?vc2x4) rfl (by kernel_rfl) (by kernel_rfl) (by kernel_rfl) (fun _ _ _ h => h) (Or.inl ⟨by kernel_rfl, ?hc2x4⟩) (by assumption) ?rc2x4
              case hc2x4 => (intro w hSw; (try dsimp only at hSw); go_simp <;> with_reducible rfl)
              try simp only [Act.put, List.setIfInBounds_toArray, List.set_cons_zero, List.set_cons_succ]
              refine wpAnyH_take (i := 5) (oi := { dst := some 178, op := Op.load 24 (Operand.tmp 25), type := 24, pos := "outright.go:82", after := #[{ on := 3, ground := Ground.guard }], guard := some (3, false) }) (v := ?vc2x5) rfl (by kernel_rfl) (by kernel_rfl) (by kernel_rfl) (fun _ _ _ h => h) (Or.inl ⟨by kernel_rfl, ?hc2x5⟩) (by assumption) ?rc2x5
              case hc2x5 => (intro w hSw; (try dsimp only at hSw); go_simp <;> with_reducible rfl)
              try simp only [Act.put, List.setIfInBounds_toArray, List.set_cons_zero, List.set_cons_succ]
              refine wpAnyH_take (i := 6) (oi := { dst := some 179, op := Op.binOp BinOp.neq 24 (Operand.tmp 177) (Operand.tmp 178) 24, type := 4, pos := "outright.go:82", after := #[{ on := 4, ground := Ground.data }, { on := 5, ground := Ground.data }, { on := 3, ground := Ground.guard }], guard := some (3, false) }) (v := ?vc2x6) rfl (by kernel_rfl) (by kernel_rfl) (by kernel_rfl) (fun _ _ _ h => h) (Or.inl ⟨by kernel_rfl, ?hc2x6⟩) (by assumption) ?rc2x6
              case hc2x6 => (intro w hSw; (try dsimp only at hSw); go_simp <;> with_reducible rfl)
              try simp only [Act.put, List.setIfInBounds_toArray, List.set_cons_zero, List.set_cons_succ]
              refine wpAnyH_take (i := 7) (oi := { dst := some 180, op := Op.pick (Operand.tmp 176) (Operand.const (Value.bool true)) (Operand.tmp 179), type := 4, pos := "outright.go:82", after := #[{ on := 3, ground := Ground.data }, { on := 6, ground := Ground.data }], guard := none }) (v := ?vc2x7) rfl (by kernel_rfl) (by kernel_rfl) (by kernel_rfl) (fun _ _ _ h => h) (Or.inl ⟨by kernel_rfl, ?hc2x7⟩) (by assumption) ?rc2x7
              case hc2x7 => (intro w hSw; (try dsimp only at hSw); go_simp <;> with_reducible rfl)
              try simp only [Act.put, List.setIfInBounds_toArray, List.set_cons_zero, List.set_cons_succ]
              refine wpAnyH_take (i := 8) (oi := { dst := some 181, op := Op.move (Operand.tmp 180), type := 4, pos := "outright.go:82", after := #[{ on := 7, ground := Ground.data }, { on := 3, ground := Ground.chain }], guard := none }) (v := ?vc2x8) rfl (by kernel_rfl) (by kernel_rfl) (by kernel_rfl) (fun _ _ _ h => h) (Or.inl ⟨by kernel_rfl, ?hc2x8⟩) (by assumption) ?rc2x8
              case hc2x8 => (intro w hSw; (try dsimp only at hSw); go_simp <;> with_reducible rfl)
              try simp only [Act.put, List.setIfInBounds_toArray, List.set_cons_zero, List.set_cons_succ]
              refine wpAnyH_take (i := 9) (oi := { dst := some 182, op := Op.load 24 (Operand.tmp 24), type := 24, pos := "outright.go:82", after := #[{ on := 8, ground := Ground.guard }], guard := some (8, false) }) (v := ?vc2x9) rfl (by kernel_rfl) (by kernel_rfl) (by kernel_rfl) (fun _ _ _ h => h) (Or.inl ⟨by kernel_rfl, ?hc2x9⟩) (by assumption) ?rc2x9
              case hc2x9 => (intro w hSw; (try dsimp only at hSw); go_simp <;> with_reducible rfl)
              try simp only [Act.put, List.setIfInBounds_toArray, List.set_cons_zero, List.set_cons_succ]
              refine wpAnyH_take (i := 10) (oi := { dst := some 183, op := Op.move (Operand.tmp 3), type := 22, pos := "outright.go:82", after := #[{ on := 8, ground := Ground.guard }], guard := some (8, false) }) (v := ?vc2x10) rfl (by kernel_rfl) (by kernel_rfl) (by kernel_rfl) (fun _ _ _ h => h) (Or.inl ⟨by kernel_rfl, ?hc2x10⟩) (by assumption) ?rc2x10
              case hc2x10 => (intro w hSw; (try dsimp only at hSw); go_simp <;> with_reducible rfl)
              try simp only [Act.put, List.setIfInBounds_toArray, List.set_cons_zero, List.set_cons_succ]
              refine wpAnyH_take (i := 12) (oi := { dst := some 185, op := Op.load 24 (Operand.tmp 9), type := 24, pos := "outright.go:82", after := #[{ on := 8, ground := Ground.guard }], guard := some (8, false) }) (v := ?vc2x12) rfl (by kernel_rfl) (by kernel_rfl) (by kernel_rfl) (fun _ _ _ h => h) (Or.inl ⟨by kernel_rfl, ?hc2x12⟩) (by assumption) ?rc2x12
              case hc2x12 => (intro w hSw; (try dsimp only at hSw); go_simp <;> with_reducible rfl)
              try simp only [Act.put, List.setIfInBounds_toArray, List.set_cons_zero, List.set_cons_succ]
              refine wpAnyH_take (i := 13) (oi := { dst := some 186, op := Op.move (Operand.tmp 3), type := 22, pos := "outright.go:82", after := #[{ on := 8, ground := Ground.guard }], guard := some (8, false) }) (v := ?vc2x13) rfl (by kernel_rfl) (by kernel_rfl) (by kernel_rfl) (fun _ _ _ h => h) (Or.inl ⟨by kernel_rfl, ?hc2x13⟩) (by assumption) ?rc2x13
              case hc2x13 => (intro w hSw; (try dsimp only at hSw); go_simp <;> with_reducible rfl)
              try simp only [Act.put, List.setIfInBounds_toArray, List.set_cons_zero, List.set_cons_succ]
              refine wpAnyH_ready (rs := [11]) (by kernel_rfl) (by simp) ?_
              refine AllReadyH.cons (o := { dst := some 184, op := Op.call { callee := Callee.value (Operand.func 8), args := #[Operand.tmp 182, Operand.tmp 183], argTypes := #[24, 22] }, type := 4, pos := "outright.go:82", after := #[{ on := 9, ground := Ground.data }, { on := 10, ground := Ground.data }, { on := 8, ground := Ground.chain }, { on := 8, ground := Ground.guard }], guard := some (8, false) }) rfl (fun K hK => ?_) AllReadyH.nil
              go_simp
              go_at_call 8; refine (HHg.out _ _ p64 hHeld.1).mono ?_; rintro e w9 ⟨he, hk⟩; rw [hP] at he; subst he
              obtain ⟨p0, p1, p2, p3, p4⟩ := (hk.at (gp, p) (by simp)).c
              obtain ⟨q0, q1, q2, q3, q4⟩ := (hk.at (gq, p) (by simp)).c
              obtain ⟨a0, a1, a2, a3, a4⟩ := (hk.at (ga, a) (by simp)).c
              obtain ⟨b0, b1, b2, b3, b4⟩ := (hk.at (gb, b) (by simp)).c
              clear hHeld
              refine hK.out _ _ ⟨hk, p0, p1, p2, p3, p4, q0, q1, q2, q3, q4, a0, a1, a2, a3, a4, b0, b1, b2, b3, b4⟩ (fun hHeld => ?_)
              clear hK K hk p0 p1 p2 p3 p4 q0 q1 q2 q3 q4 a0 a1 a2 a3 a4 b0 b1 b2 b3 b4
              try simp only [Act.put, List.setIfInBounds_toArray, List.set_cons_zero, List.set_cons_succ]
              refine wpAnyH_ready (rs := [14]) (by kernel_rfl) (by simp) ?_
              refine AllReadyH.cons (o := { dst := some 187, op := Op.call { callee := Callee.value (Operand.func 8), args := #[Operand.tmp 185, Operand.tmp 186], argTypes := #[24, 22] }, type := 4, pos := "outright.go:82", after := #[{ on := 12, ground := Ground.data }, { on := 13, ground := Ground.data }, { on := 11, ground := Ground.chain }, { on := 8, ground := Ground.guard }], guard := some (8, false) }) rfl (fun K hK => ?_) AllReadyH.nil
              go_simp
              go_at_call 8; refine (HHg.out _ _ a64 hHeld.1).mono ?_; rintro e w9 ⟨he, hk⟩; rw [hA] at he; subst he
              obtain ⟨p0, p1, p2, p3, p4⟩ := (hk.at (gp, p) (by simp)).c
              obtain ⟨q0, q1, q2, q3, q4⟩ := (hk.at (gq, p) (by simp)).c
              obtain ⟨a0, a1, a2, a3, a4⟩ := (hk.at (ga, a) (by simp)).c
              obtain ⟨b0, b1, b2, b3, b4⟩ := (hk.at (gb, b) (by simp)).c
              clear hHeld
              refine hK.out _ _ ⟨hk, p0, p1, p2, p3, p4, q0, q1, q2, q3, q4, a0, a1, a2, a3, a4, b0, b1, b2, b3, b4⟩ (fun hHeld => ?_)
              clear hK K hk p0 p1 p2 p3 p4 q0 q1 q2 q3 q4 a0 a1 a2 a3 a4 b0 b1 b2 b3 b4
              try simp only [Act.put, List.setIfInBounds_toArray, List.set_cons_zero, List.set_cons_succ]
              refine wpAnyH_take (i := 15) (oi := { dst := some 188, op := Op.move (Operand.tmp 187), type := 4, pos := "outright.go:82", after := #[{ on := 14, ground := Ground.data }, { on := 14, ground := Ground.chain }, { on := 8, ground := Ground.guard }], guard := some (8, false) }) (v := ?vc2x15) rfl (by kernel_rfl) (by kernel_rfl) (by kernel_rfl) (fun _ _ _ h => h) (Or.inl ⟨by kernel_rfl, ?hc2x15⟩) (by assumption) ?rc2x15
              case hc2x15 => (intro w hSw; (try dsimp only at hSw); go_simp <;> with_reducible rfl)
              try simp only [Act.put, List.setIfInBounds_toArray, List.set_cons_zero, List.set_cons_succ]
              refine wpAnyH_take (i := 16) (oi := { dst := some 189, op := Op.load 24 (Operand.tmp 11), type := 24, pos := "outright.go:82", after := #[{ on := 15, ground := Ground.guard }], guard := some (15, true) }) (v := ?vc2x16) rfl (by kernel_rfl) (by kernel_rfl) (by kernel_rfl) (fun _ _ _ h => h) (Or.inl ⟨by kernel_rfl, ?hc2x16⟩) (by assumption) ?rc2x16
              case hc2x16 => (intro w hSw; (try dsimp only at hSw); go_simp <;> with_reducible rfl)
              try simp only [Act.put, List.setIfInBounds_toArray, List.set_cons_zero, List.set_cons_succ]
              refine wpAnyH_take (i := 17) (oi := { dst := some 190, op := Op.move (Operand.tmp 3), type := 22, pos := "outright.go:82", after := #[{ on := 15, ground := Ground.guard }], guard := some (15, true) }) (v := ?vc2x17) rfl (by kernel_rfl) (by kernel_rfl) (by kernel_rfl) (fun _ _ _ h => h) (Or.inl ⟨by kernel_rfl, ?hc2x17⟩) (by assumption) ?rc2x17
              case hc2x17 => (intro w hSw; (try dsimp only at hSw); go_simp <;> with_reducible rfl)
              try simp only [Act.put, List.setIfInBounds_toArray, List.set_cons_zero, List.set_cons_succ]
              refine wpAnyH_ready (rs := [18]) (by kernel_rfl) (by simp) ?_
              refine AllReadyH.cons (o := { dst := some 191, op := Op.call { callee := Callee.value (Operand.func 8), args := #[Operand.tmp 189, Operand.tmp 190], argTypes := #[24, 22] }, type := 4, pos := "outright.go:82", after := #[{ on := 16, ground := Ground.data }, { on := 17, ground := Ground.data }, { on := 15, ground := Ground.chain }, { on := 15, ground := Ground.guard }], guard := some (15, true) }) rfl (fun K hK => ?_) AllReadyH.nil
              go_simp
              go_at_call 8; refine (HHg.out _ _ b64 hHeld.1).mono ?_; rintro e w9 ⟨he, hk⟩; rw [hB] at he; subst he
              obtain ⟨p0, p1, p2, p3, p4⟩ := (hk.at (gp, p) (by simp)).c
              obtain ⟨q0, q1, q2, q3, q4⟩ := (hk.at (gq, p) (by simp)).c
              obtain ⟨a0, a1, a2, a3, a4⟩ := (hk.at (ga, a) (by simp)).c
              obtain ⟨b0, b1, b2, b3, b4⟩ := (hk.at (gb, b) (by simp)).c
              clear hHeld
              refine hK.out _ _ ⟨hk, p0, p1, p2, p3, p4, q0, q1, q2, q3, q4, a0, a1, a2, a3, a4, b0, b1, b2, b3, b4⟩ (fun hHeld => ?_)
              clear hK K hk p0 p1 p2 p3 p4 q0 q1 q2 q3 q4 a0 a1 a2 a3 a4 b0 b1 b2 b3 b4
              try simp only [Act.put, List.setIfInBounds_toArray, List.set_cons_zero, List.set_cons_succ]
              refine wpAnyH_take (i := 19) (oi := { dst := some 192, op := Op.pick (Operand.tmp 188) (Operand.tmp 191) (Operand.const (Value.bool false)), type := 4, pos := "outright.go:82", after := #[{ on := 15, ground := Ground.data }, { on := 18, ground := Ground.data }, { on := 8, ground := Ground.guard }], guard := some (8, false) }) (v := ?vc2x19) rfl (by kernel_rfl) (by kernel_rfl) (by kernel_rfl) (fun _ _ _ h => h) (Or.inl ⟨by kernel_rfl, ?hc2x19⟩) (by assumption) ?rc2x19
              case hc2x19 => (intro w hSw; (try dsimp only at hSw); go_simp <;> with_reducible rfl)
              try simp only [Act.put, List.setIfInBounds_toArray, List.set_cons_zero, List.set_cons_succ]
              refine wpAnyH_take (i := 20) (oi := { dst := some 193, op := Op.binOp BinOp.neq 4 (Operand.tmp 184) (Operand.tmp 192) 4, type := 4, pos := "outright.go:82", after := #[{ on := 11, ground := Ground.data }, { on := 19, ground := Ground.data }, { on := 8, ground := Ground.guard }], guard := some (8, false) }) (v := ?vc2x20) rfl (by kernel_rfl) (by kernel_rfl) (by kernel_rfl) (fun _ _ _ h => h) (Or.inl ⟨by kernel_rfl, ?hc2x20⟩) (by assumption) ?rc2x20
              case hc2x20 => (intro w hSw; (try dsimp only at hSw); go_simp <;> with_reducible rfl)
              try simp only [Act.put, List.setIfInBounds_toArray, List.set_cons_zero, List.set_cons_succ]
              refine wpAnyH_take (i := 21) (oi := { dst := some 194, op := Op.move (Operand.tmp 193), type := 4, pos := "outright.go:82", after := #[{ on := 20, ground := Ground.data }, { on := 18, ground := Ground.chain }, { on := 8, ground := Ground.guard }], guard := some (8, false) }) (v := ?vc2x21) rfl (by kernel_rfl) (by kernel_rfl) (by kernel_rfl) (fun _ _ _ h => h) (Or.inl ⟨by kernel_rfl, ?hc2x21⟩) (by assumption) ?rc2x21
              case hc2x21 => (intro w hSw; (try dsimp only at hSw); go_simp <;> with_reducible rfl)
              try simp only [Act.put, List.setIfInBounds_toArray, List.set_cons_zero, List.set_cons_succ]
              refine wpAnyH_take (i := 22) (oi := { dst := some 195, op := Op.move (Operand.tmp 16), type := 28, pos := "outright.go:82", after := #[{ on := 21, ground := Ground.guard }], guard := some (21, true) }) (v := undef) rfl (by kernel_rfl) (by kernel_rfl) (by kernel_rfl) (fun _ _ _ h => h) (Or.inr ⟨by kernel_rfl, rfl⟩) (by assumption) ?rc2x22
              try simp only [Act.put, List.setIfInBounds_toArray, List.set_cons_zero, List.set_cons_succ]
              refine wpAnyH_take (i := 23) (oi := { dst := some 196, op := Op.call { callee := Callee.value (Operand.func 7), args := #[Operand.tmp 195], argTypes := #[28] }, type := 3, pos := "outright.go:82", after := #[{ on := 22, ground := Ground.data }, { on := 21, ground := Ground.chain }, { on := 21, ground := Ground.guard }], guard := some (21, true) }) (v := undef) rfl (by kernel_rfl) (by kernel_rfl) (by kernel_rfl) (fun _ _ _ h => h) (Or.inr ⟨by kernel_rfl, rfl⟩) (by assumption) ?rc2x23
              try simp only [Act.put, List.setIfInBounds_toArray, List.set_cons_zero, List.set_cons_succ]
              refine wpAnyH_take (i := 24) (oi := { dst := some 197, op := Op.binOp BinOp.eql 3 (Operand.tmp 196) (Operand.const (Value.int IntKind.i64 0)) 3, type := 4, pos := "outright.go:82", after := #[{ on := 23, ground := Ground.data }, { on := 21, ground := Ground.guard }], guard := some (21, true) }) (v := undef) rfl (by kernel_rfl) (by kernel_rfl) (by kernel_rfl) (fun _ _ _ h => h) (Or.inr ⟨by kernel_rfl, rfl⟩) (by assumption) ?rc2x24
              try simp only [Act.put, List.setIfInBounds_toArray, List.set_cons_zero, List.set_cons_succ]
              refine wpAnyH_take (i := 25) (oi := { dst := some 198, op := Op.pick (Operand.tmp 194) (Operand.tmp 197) (Operand.const (Value.bool false)), type := 4, pos := "outright.go:82", after := #[{ on := 21, ground := Ground.data }, { on := 24, ground := Ground.data }, { on := 8, ground := Ground.guard }], guard := some (8, false) }) (v := ?vc2x25) rfl (by kernel_rfl) (by kernel_rfl) (by kernel_rfl) (fun _ _ _ h => h) (Or.inl ⟨by kernel_rfl, ?hc2x25⟩) (by assumption) ?rc2x25
              case hc2x25 => (intro w hSw; (try dsimp only at hSw); go_simp <;> with_reducible rfl)
              try simp only [Act.put, List.setIfInBounds_toArray, List.set_cons_zero, List.set_cons_succ]
              refine wpAnyH_take (i := 26) (oi := { dst := some 199, op := Op.pick (Operand.tmp 181) (Operand.const (Value.bool true)) (Operand.tmp 198), type := 4, pos := "outright.go:82", after := #[{ on := 8, ground := Ground.data }, { on := 25, ground := Ground.data }], guard := none }) (v := ?vc2x26) rfl (by kernel_rfl) (by kernel_rfl) (by kernel_rfl) (fun _ _ _ h => h) (Or.inl ⟨by kernel_rfl, ?hc2x26⟩) (by assumption) ?rc2x26
              case hc2x26 => (intro w hSw; (try dsimp only at hSw); go_simp <;> with_reducible rfl)
              try simp only [Act.put, List.setIfInBounds_toArray, List.set_cons_zero, List.set_cons_succ]
              refine wpAnyH_take (i := 27) (oi := { dst := some 200, op := Op.move (Operand.tmp 199), type := 4, pos := "outright.go:82", after := #[{ on := 26, ground := Ground.data }, { on := 23, ground := Ground.chain }], guard := none }) (v := ?vc2x27) rfl (by kernel_rfl) (by kernel_rfl) (by kernel_rfl) (fun _ _ _ h => h) (Or.inl ⟨by kernel_rfl, ?hc2x27⟩) (by assumption) ?rc2x27
              case hc2x27 => (intro w hSw; (try dsimp only at hSw); go_simp <;> with_reducible rfl)
              try simp only [Act.put, List.setIfInBounds_toArray, List.set_cons_zero, List.set_cons_succ]
              refine wpAnyH_take (i := 28) (oi := { dst := some 201, op := Op.move (Operand.tmp 16), type := 28, pos := "outright.go:82", after := #[{ on := 27, ground := Ground.guard }], guard := some (27, false) }) (v := ?vc2x28) rfl (by kernel_rfl) (by kernel_rfl) (by kernel_rfl) (fun _ _ _ h => h) (Or.inl ⟨by kernel_rfl, ?hc2x28⟩) (by assumption) ?rc2x28
              case hc2x28 => (intro w hSw; (try dsimp only at hSw); go_simp <;> with_reducible rfl)
              try simp only [Act.put, List.setIfInBounds_toArray, List.set_cons_zero, List.set_cons_succ]
              refine wpAnyH_ready (rs := [29]) (by kernel_rfl) (by simp) ?_
              refine AllReadyH.cons (o := { dst := some 202, op := Op.call { callee := Callee.value (Operand.func 7), args := #[Operand.tmp 201], argTypes := #[28] }, type := 3, pos := "outright.go:82", after := #[{ on := 28, ground := Ground.data }, { on := 27, ground := Ground.chain }, { on := 27, ground := Ground.guard }], guard := some (27, false) }) rfl (fun K hK => ?_) AllReadyH.nil
              go_simp
              go_at_call 7; refine (HN.out _ _).mono ?_; rintro e w9 ⟨rfl, hw⟩; obtain rfl := hw.symm
              refine hK.out _ _ hHeld (fun _ => ?_)
              clear hK K
              try simp only [Act.put, List.setIfInBounds_toArray, List.set_cons_zero, List.set_cons_succ]
              refine wpAnyH_take (i := 30) (oi := { dst := some 203, op := Op.binOp BinOp.neq 3 (Operand.tmp 202) (Operand.const (Value.int IntKind.i64 0)) 3, type := 4, pos := "outright.go:82", after := #[{ on := 29, ground := Ground.data }, { on := 27, ground := Ground.guard }], guard := some (27, false) }) (v := ?vc2x30) rfl (by kernel_rfl) (by kernel_rfl) (by kernel_rfl) (fun _ _ _ h => h) (Or.inl ⟨by kernel_rfl, ?hc2x30⟩) (by assumption) ?rc2x30
              case hc2x30 => (intro w hSw; (try dsimp only at hSw); go_simp <;> with_reducible rfl)
              try simp only [Act.put, List.setIfInBounds_toArray, List.set_cons_zero, List.set_cons_succ]
              refine wpAnyH_take (i := 31) (oi := { dst := some 204, op := Op.move (Operand.tmp 203), type := 4, pos := "outright.go:82", after := #[{ on := 30, ground := Ground.data }, { on := 29, ground := Ground.chain }, { on := 27, ground := Ground.guard }], guard := some (27, false) }) (v := ?vc2x31) rfl (by kernel_rfl) (by kernel_rfl) (by kernel_rfl) (fun _ _ _ h => h) (Or.inl ⟨by kernel_rfl, ?hc2x31⟩) (by assumption) ?rc2x31
              case hc2x31 => (intro w hSw; (try dsimp only at hSw); go_simp <;> with_reducible rfl)
              try simp only [Act.put, List.setIfInBounds_toArray, List.set_cons_zero, List.set_cons_succ]
              refine wpAnyH_take (i := 32) (oi := { dst := some 205, op := Op.load 24 (Operand.tmp 9), type := 24, pos := "outright.go:82", after := #[{ on := 31, ground := Ground.guard }], guard := some (31, true) }) (v := undef) rfl (by kernel_rfl) (by kernel_rfl) (by kernel_rfl) (fun _ _ _ h => h) (Or.inr ⟨by kernel_rfl, rfl⟩) (by assumption) ?rc2x32
              try simp only [Act.put, List.setIfInBounds_toArray, List.set_cons_zero, List.set_cons_succ]
              refine wpAnyH_take (i := 33) (oi := { dst := some 206, op := Op.move (Operand.tmp 3), type := 22, pos := "outright.go:82", after := #[{ on := 31, ground := Ground.guard }], guard := some (31, true) }) (v := undef) rfl (by kernel_rfl) (by kernel_rfl) (by kernel_rfl) (fun _ _ _ h => h) (Or.inr ⟨by kernel_rfl, rfl⟩) (by assumption) ?rc2x33
              try simp only [Act.put, List.setIfInBounds_toArray, List.set_cons_zero, List.set_cons_succ]
              refine wpAnyH_take (i := 34) (oi := { dst := some 207, op := Op.call { callee := Callee.value (Operand.func 8), args := #[Operand.tmp 205, Operand.tmp 206], argTypes := #[24, 22] }, type := 4, pos := "outright.go:82", after := #[{ on := 32, ground := Ground.data }, { on := 33, ground := Ground.data }, { on := 31, ground := Ground.chain }, { on := 31, ground := Ground.guard }], guard := some (31, true) }) (v := undef) rfl (by kernel_rfl) (by kernel_rfl) (by kernel_rfl) (fun _ _ _ h => h) (Or.inr ⟨by kernel_rfl, rfl⟩) (by assumption) ?rc2x34
              try simp only [Act.put, List.setIfInBounds_toArray, List.set_cons_zero, List.set_cons_succ]
              refine wpAnyH_take (i := 35) (oi := { dst := some 208, op := Op.pick (Operand.tmp 204) (Operand.tmp 207) (Operand.const (Value.bool false)), type := 4, pos := "outright.go:82", after := #[{ on := 31, ground := Ground.data }, { on := 34, ground := Ground.data }, { on := 27, ground := Ground.guard }], guard := some (27, false) }) (v := ?vc2x35) rfl (by kernel_rfl) (by kernel_rfl) (by kernel_rfl) (fun _ _ _ h => h) (Or.inl ⟨by kernel_rfl, ?hc2x35⟩) (by assumption) ?rc2x35
              case hc2x35 => (intro w hSw; (try dsimp only at hSw); go_simp <;> with_reducible rfl)
              try simp only [Act.put, List.setIfInBounds_toArray, List.set_cons_zero, List.set_cons_succ]
              refine wpAnyH_take (i := 36) (oi := { dst := some 209, op := Op.move (Operand.tmp 208), type := 4, pos := "outright.go:82", after := #[{ on := 35, ground := Ground.data }, { on := 34, ground := Ground.chain }, { on := 27, ground := Ground.guard }], guard := some (27, false) }) (v := ?vc2x36) rfl (by kernel_rfl) (by kernel_rfl) (by kernel_rfl) (fun _ _ _ h => h) (Or.inl ⟨by kernel_rfl, ?hc2x36⟩) (by assumption) ?rc2x36
              case hc2x36 => (intro w hSw; (try dsimp only at hSw); go_simp <;> with_reducible rfl)
              try simp only [Act.put, List.setIfInBounds_toArray, List.set_cons_zero, List.set_cons_succ]
              refine wpAnyH_take (i := 37) (oi := { dst := some 210, op := Op.load 24 (Operand.tmp 11), type := 24, pos := "outright.go:82", after := #[{ on := 36, ground := Ground.guard }], guard := some (36, true) }) (v := undef) rfl (by kernel_rfl) (by kernel_rfl) (by kernel_rfl) (fun _ _ _ h => h) (Or.inr ⟨by kernel_rfl, rfl⟩) (by assumption) ?rc2x37
              try simp only [Act.put, List.setIfInBounds_toArray, List.set_cons_zero, List.set_cons_succ]
              refine wpAnyH_take (i := 38) (oi := { dst := some 211, op := Op.move (Operand.tmp 3), type := 22, pos := "outright.go:82", after := #[{ on := 36, ground := Ground.guard }], guard := some (36, true) }) (v := undef) rfl (by kernel_rfl) (by kernel_rfl) (by kernel_rfl) (fun _ _ _ h => h) (Or.inr ⟨by kernel_rfl, rfl⟩) (by assumption) ?rc2x38
              try simp only [Act.put, List.setIfInBounds_toArray, List.set_cons_zero, List.set_cons_succ]
              refine wpAnyH_take (i := 39) (oi := { dst := some 212, op := Op.call { callee := Callee.value (Operand.func 8), args := #[Operand.tmp 210, Operand.tmp 211], argTypes := #[24, 22] }, type := 4, pos := "outright.go:82", after := #[{ on := 37, ground := Ground.data }, { on := 38, ground := Ground.data }, { on := 36, ground := Ground.chain }, { on := 36, ground := Ground.guard }], guard := some (36, true) }) (v := undef) rfl (by kernel_rfl) (by kernel_rfl) (by kernel_rfl) (fun _ _ _ h => h) (Or.inr ⟨by kernel_rfl, rfl⟩) (by assumption) ?rc2x39
              try simp only [Act.put, List.setIfInBounds_toArray, List.set_cons_zero, List.set_cons_succ]
              refine wpAnyH_take (i := 40) (oi := { dst := some 213, op := Op.pick (Operand.tmp 209) (Operand.tmp 212) (Operand.const (Value.bool false)), type := 4, pos := "outright.go:82", after := #[{ on := 36, ground := Ground.data }, { on := 39, ground := Ground.data }, { on := 27, ground := Ground.guard }], guard := some (27, false) }) (v := ?vc2x40) rfl (by kernel_rfl) (by kernel_rfl) (by kernel_rfl) (fun _ _ _ h => h) (Or.inl ⟨by kernel_rfl, ?hc2x40⟩) (by assumption) ?rc2x40
              case hc2x40 => (intro w hSw; (try dsimp only at hSw); go_simp <;> with_reducible rfl)
              try simp only [Act.put, List.setIfInBounds_toArray, List.set_cons_zero, List.set_cons_succ]
              refine wpAnyH_take (i := 41) (oi := { dst := some 214, op := Op.pick (Operand.tmp 200) (Operand.const (Value.bool true)) (Operand.tmp 213), type := 4, pos := "outright.go:82", after := #[{ on := 27, ground := Ground.data }, { on := 40, ground := Ground.data }], guard := none }) (v := ?vc2x41) rfl (by kernel_rfl) (by kernel_rfl) (by kernel_rfl) (fun _ _ _ h => h) (Or.inl ⟨by kernel_rfl, ?hc2x41⟩) (by assumption) ?rc2x41
              case hc2x41 => (intro w hSw; (try dsimp only at hSw); go_simp <;> with_reducible rfl)
              try simp only [Act.put, List.setIfInBounds_toArray, List.set_cons_zero, List.set_cons_succ]
              refine wpAnyH_done (by kernel_rfl) ?_ _
              try go_wp2_with fail
              go_meet
              exact ⟨rfl, hHeld.1⟩
          · have hP : hv p = true := by rw [hq9, hA, hB]; rfl
            clear hq9
            as_aux_lemma =>
              try go_wp2_with fail
              refine wp_region_held_drew (S := (fun W => KL w [(gq, p), (gp, p), (go, l0), (gm, m0), (gl, l0), (gs, a), (gk, j), (gj, j), (gc, c), (gb, b), (ga, a), (w.heap.size, f), (w.heap.size + 1, g), (w.heap.size + 1 + 1, h)] W ∧ W.cell? ⟨gp, 0, none⟩ = some (.int .i64 p.w) ∧ W.cell? ⟨gp, 1, none⟩ = some (uV p.one) ∧ W.cell? ⟨gp, 2, none⟩ = some (uV p.zero) ∧ W.cell? ⟨gp, 3, none⟩ = some (uV p.least) ∧ W.cell? ⟨gp, 4, none⟩ = some (uV p.top) ∧ W.cell? ⟨gq, 0, none⟩ = some (.int .i64 p.w) ∧ W.cell? ⟨gq, 1, none⟩ = some (uV p.one) ∧ W.cell? ⟨gq, 2, none⟩ = some (uV p.zero) ∧ W.cell? ⟨gq, 3, none⟩ = some (uV p.least) ∧ W.cell? ⟨gq, 4, none⟩ = some (uV p.top) ∧ W.cell? ⟨ga, 0, none⟩ = some (.int .i64 a.w) ∧ W.cell? ⟨ga, 1, none⟩ = some (uV a.one) ∧ W.cell? ⟨ga, 2, none⟩ = some (uV a.zero) ∧ W.cell? ⟨ga, 3, none⟩ = some (uV a.least) ∧ W.cell? ⟨ga, 4, none⟩ = some (uV a.top) ∧ W.cell? ⟨gb, 0, none⟩ = some (.int .i64 b.w) ∧ W.cell? ⟨gb, 1, none⟩ = some (uV b.one) ∧ W.cell? ⟨gb, 2, none⟩ = some (uV b.zero) ∧ W.cell? ⟨gb, 3, none⟩ = some (uV b.least) ∧ W.cell? ⟨gb, 4, none⟩ = some (uV b.top))) (by kernel_rfl) ?_ (fun hHeld => ?_)
              · refine ⟨K1, ?_, ?_, ?_, ?_, ?_, ?_, ?_, ?_, ?_, ?_, ?_, ?_, ?_, ?_, ?_, ?_, ?_, ?_, ?_, ?_⟩ <;> go_keep
              clear K0 K1
              refine wpAnyH_take (i := 0) (oi := { dst := some 173, op := Op.move (Operand.tmp 16), type := 28, pos := "outright.go:82", after := #[], guard := none }) (v := ?vc3x0) rfl (by kernel_rfl) (by kernel_rfl) (by kernel_rfl) (fun _ _ _ h => h) (Or.inl ⟨by kernel_rfl, ?hc3x0⟩) (by assumption) ?rc3x0
              case hc3x0 => (intro w hSw; (try dsimp only at hSw); go_simp <;> with_reducible rfl)
              try simp only [Act.put, List.setIfInBounds_toArray, List.set_cons_zero, List.set_cons_succ]
              refine wpAnyH_take (i := 1) (oi := { dst := some 174, op := Op.move (Operand.tmp 18), type := 28, pos := "outright.go:82", after := #[], guard := none }) (v := ?vc3x1) rfl (by kernel_rfl) (by kernel_rfl) (by kernel_rfl) (fun _ _ _ h => h) (Or.inl ⟨by kernel_rfl, ?hc3x1⟩) (by assumption) ?rc3x1
              case hc3x1 => (intro w hSw; (try dsimp only at hSw); go_simp <;> with_reducible rfl)
              try simp only [Act.put, List.setIfInBounds_toArray, List.set_cons_zero, List.set_cons_succ]
              refine wpAnyH_take (i := 2) (oi := { dst := some 175, op := Op.binOp BinOp.neq 28 (Operand.tmp 173) (Operand.tmp 174) 28, type := 4, pos := "outright.go:82", after := #[{ on := 0, ground := Ground.data }, { on := 1, ground := Ground.data }], guard := none }) (v := ?vc3x2) rfl (by kernel_rfl) (by kernel_rfl) (by kernel_rfl) (fun _ _ _ h => h) (Or.inl ⟨by kernel_rfl, ?hc3x2⟩) (by assumption) ?rc3x2
              case hc3x2 => (intro w hSw; (try dsimp only at hSw); go_simp <;> with_reducible rfl)
              try simp only [Act.put, List.setIfInBounds_toArray, List.set_cons_zero, List.set_cons_succ]
              refine wpAnyH_take (i := 3) (oi := { dst := some 176, op := Op.move (Operand.tmp 175), type := 4, pos := "outright.go:82", after := #[{ on := 2, ground := Ground.data }], guard := none }) (v := ?vc3x3) rfl (by kernel_rfl) (by kernel_rfl) (by kernel_rfl) (fun _ _ _ h => h) (Or.inl ⟨by kernel_rfl, ?hc3x3⟩) (by assumption) ?rc3x3
              case hc3x3 => (intro w hSw; (try dsimp only at hSw); go_simp <;> with_reducible rfl)
              try simp only [Act.put, List.setIfInBounds_toArray, List.set_cons_zero, List.set_cons_succ]
              refine wpAnyH_take (i := 4) (oi := { dst := some 177, op := Op.load 24 (Operand.tmp 24), type := 24, pos := "outright.go:82", after := #[{ on := 3, ground := Ground.guard }], guard := some (3, false) }) (v := ?vc3x4) rfl (by kernel_rfl) (by kernel_rfl) (by kernel_rfl) (fun _ _ _ h => h) (Or.inl ⟨by kernel_rfl, ?hc3x4⟩) (by assumption) ?rc3x4
              case hc3x4 => (intro w hSw; (try dsimp only at hSw); go_simp <;> with_reducible rfl)
              try simp only [Act.put, List.setIfInBounds_toArray, List.set_cons_zero, List.set_cons_succ]
              refine wpAnyH_take (i := 5) (oi := { dst := some 178, op := Op.load 24 (Operand.tmp 25), type := 24, pos := "outright.go:82", after := #[{ on := 3, ground := Ground.guard }], guard := some (3, false) }) (v := ?vc3x5) rfl (by kernel_rfl) (by kernel_rfl) (by kernel_rfl) (fun _ _ _ h => h) (Or.inl ⟨by kernel_rfl, ?hc3x5⟩) (by assumption) ?rc3x5
              case hc3x5 => (intro w hSw; (try dsimp only at hSw); go_simp <;> with_reducible rfl)
              try simp only [Act.put, List.setIfInBounds_toArray, List.set_cons_zero, List.set_cons_succ]
              refine wpAnyH_take (i := 6) (oi := { dst := some 179, op := Op.binOp BinOp.neq 24 (Operand.tmp 177) (Operand.tmp 178) 24, type := 4, pos := "outright.go:82", after := #[{ on := 4, ground := Ground.data }, { on := 5, ground := Ground.data }, { on := 3, ground := Ground.guard }], guard := some (3, false) }) (v := ?vc3x6) rfl (by kernel_rfl) (by kernel_rfl) (by kernel_rfl) (fun _ _ _ h => h) (Or.inl ⟨by kernel_rfl, ?hc3x6⟩) (by assumption) ?rc3x6
              case hc3x6 => (intro w hSw; (try dsimp only at hSw); go_simp <;> with_reducible rfl)
              try simp only [Act.put, List.setIfInBounds_toArray, List.set_cons_zero, List.set_cons_succ]
              refine wpAnyH_take (i := 7) (oi := { dst := some 180, op := Op.pick (Operand.tmp 176) (Operand.const (Value.bool true)) (Operand.tmp 179), type := 4, pos := "outright.go:82", after := #[{ on := 3, ground := Ground.data }, { on := 6, ground := Ground.data }], guard := none }) (v := ?vc3x7) rfl (by kernel_rfl) (by kernel_rfl) (by kernel_rfl) (fun _ _ _ h => h) (Or.inl ⟨by kernel_rfl, ?hc3x7⟩) (by assumption) ?rc3x7
              case hc3x7 => (intro w hSw; (try dsimp only at hSw); go_simp <;> with_reducible rfl)
              try simp only [Act.put, List.setIfInBounds_toArray, List.set_cons_zero, List.set_cons_succ]
              refine wpAnyH_take (i := 8) (oi := { dst := some 181, op := Op.move (Operand.tmp 180), type := 4, pos := "outright.go:82", after := #[{ on := 7, ground := Ground.data }, { on := 3, ground := Ground.chain }], guard := none }) (v := ?vc3x8) rfl (by kernel_rfl) (by kernel_rfl) (by kernel_rfl) (fun _ _ _ h => h) (Or.inl ⟨by kernel_rfl, ?hc3x8⟩) (by assumption) ?rc3x8
              case hc3x8 => (intro w hSw; (try dsimp only at hSw); go_simp <;> with_reducible rfl)
              try simp only [Act.put, List.setIfInBounds_toArray, List.set_cons_zero, List.set_cons_succ]
              refine wpAnyH_take (i := 9) (oi := { dst := some 182, op := Op.load 24 (Operand.tmp 24), type := 24, pos := "outright.go:82", after := #[{ on := 8, ground := Ground.guard }], guard := some (8, false) }) (v := ?vc3x9) rfl (by kernel_rfl) (by kernel_rfl) (by kernel_rfl) (fun _ _ _ h => h) (Or.inl ⟨by kernel_rfl, ?hc3x9⟩) (by assumption) ?rc3x9
              case hc3x9 => (intro w hSw; (try dsimp only at hSw); go_simp <;> with_reducible rfl)
              try simp only [Act.put, List.setIfInBounds_toArray, List.set_cons_zero, List.set_cons_succ]
              refine wpAnyH_take (i := 10) (oi := { dst := some 183, op := Op.move (Operand.tmp 3), type := 22, pos := "outright.go:82", after := #[{ on := 8, ground := Ground.guard }], guard := some (8, false) }) (v := ?vc3x10) rfl (by kernel_rfl) (by kernel_rfl) (by kernel_rfl) (fun _ _ _ h => h) (Or.inl ⟨by kernel_rfl, ?hc3x10⟩) (by assumption) ?rc3x10
              case hc3x10 => (intro w hSw; (try dsimp only at hSw); go_simp <;> with_reducible rfl)
              try simp only [Act.put, List.setIfInBounds_toArray, List.set_cons_zero, List.set_cons_succ]
              refine wpAnyH_take (i := 12) (oi := { dst := some 185, op := Op.load 24 (Operand.tmp 9), type := 24, pos := "outright.go:82", after := #[{ on := 8, ground := Ground.guard }], guard := some (8, false) }) (v := ?vc3x12) rfl (by kernel_rfl) (by kernel_rfl) (by kernel_rfl) (fun _ _ _ h => h) (Or.inl ⟨by kernel_rfl, ?hc3x12⟩) (by assumption) ?rc3x12
              case hc3x12 => (intro w hSw; (try dsimp only at hSw); go_simp <;> with_reducible rfl)
              try simp only [Act.put, List.setIfInBounds_toArray, List.set_cons_zero, List.set_cons_succ]
              refine wpAnyH_take (i := 13) (oi := { dst := some 186, op := Op.move (Operand.tmp 3), type := 22, pos := "outright.go:82", after := #[{ on := 8, ground := Ground.guard }], guard := some (8, false) }) (v := ?vc3x13) rfl (by kernel_rfl) (by kernel_rfl) (by kernel_rfl) (fun _ _ _ h => h) (Or.inl ⟨by kernel_rfl, ?hc3x13⟩) (by assumption) ?rc3x13
              case hc3x13 => (intro w hSw; (try dsimp only at hSw); go_simp <;> with_reducible rfl)
              try simp only [Act.put, List.setIfInBounds_toArray, List.set_cons_zero, List.set_cons_succ]
              refine wpAnyH_ready (rs := [11]) (by kernel_rfl) (by simp) ?_
              refine AllReadyH.cons (o := { dst := some 184, op := Op.call { callee := Callee.value (Operand.func 8), args := #[Operand.tmp 182, Operand.tmp 183], argTypes := #[24, 22] }, type := 4, pos := "outright.go:82", after := #[{ on := 9, ground := Ground.data }, { on := 10, ground := Ground.data }, { on := 8, ground := Ground.chain }, { on := 8, ground := Ground.guard }], guard := some (8, false) }) rfl (fun K hK => ?_) AllReadyH.nil
              go_simp
              go_at_call 8; refine (HHg.out _ _ p64 hHeld.1).mono ?_; rintro e w9 ⟨he, hk⟩; rw [hP] at he; subst he
              obtain ⟨p0, p1, p2, p3, p4⟩ := (hk.at (gp, p) (by simp)).c
              obtain ⟨q0, q1, q2, q3, q4⟩ := (hk.at (gq, p) (by simp)).c
              obtain ⟨a0, a1, a2, a3, a4⟩ := (hk.at (ga, a) (by simp)).c
              obtain ⟨b0, b1, b2, b3, b4⟩ := (hk.at (gb, b) (by simp)).c
              clear hHeld
              refine hK.out _ _ ⟨hk, p0, p1, p2, p3, p4, q0, q1, q2, q3, q4, a0, a1, a2, a3, a4, b0, b1, b2, b3, b4⟩ (fun hHeld => ?_)
              clear hK K hk p0 p1 p2 p3 p4 q0 q1 q2 q3 q4 a0 a1 a2 a3 a4 b0 b1 b2 b3 b4
              try simp only [Act.put, List.setIfInBounds_toArray, List.set_cons_zero, List.set_cons_succ]
              refine wpAnyH_ready (rs := [14]) (by kernel_rfl) (by simp) ?_
              refine AllReadyH.cons (o := { dst := some 187, op := Op.call { callee := Callee.value (Operand.func 8), args := #[Operand.tmp 185, Operand.tmp 186], argTypes := #[24, 22] }, type := 4, pos := "outright.go:82", after := #[{ on := 12, ground := Ground.data }, { on := 13, ground := Ground.data }, { on := 11, ground := Ground.chain }, { on := 8, ground := Ground.guard }], guard := some (8, false) }) rfl (fun K hK => ?_) AllReadyH.nil
              go_simp
              go_at_call 8; refine (HHg.out _ _ a64 hHeld.1).mono ?_; rintro e w9 ⟨he, hk⟩; rw [hA] at he; subst he
              obtain ⟨p0, p1, p2, p3, p4⟩ := (hk.at (gp, p) (by simp)).c
              obtain ⟨q0, q1, q2, q3, q4⟩ := (hk.at (gq, p) (by simp)).c
              obtain ⟨a0, a1, a2, a3, a4⟩ := (hk.at (ga, a) (by simp)).c
              obtain ⟨b0, b1, b2, b3, b4⟩ := (hk.at (gb, b) (by simp)).c
              clear hHeld
              refine hK.out _ _ ⟨hk, p0, p1, p2, p3, p4, q0, q1, q2, q3, q4, a0, a1, a2, a3, a4, b0, b1, b2, b3, b4⟩ (fun hHeld => ?_)
              clear hK K hk p0 p1 p2 p3 p4 q0 q1 q2 q3 q4 a0 a1 a2 a3 a4 b0 b1 b2 b3 b4
              try simp only [Act.put, List.setIfInBounds_toArray, List.set_cons_zero, List.set_cons_succ]
              refine wpAnyH_take (i := 15) (oi := { dst := some 188, op := Op.move (Operand.tmp 187), type := 4, pos := "outright.go:82", after := #[{ on := 14, ground := Ground.data }, { on := 14, ground := Ground.chain }, { on := 8, ground := Ground.guard }], guard := some (8, false) }) (v := ?vc3x15) rfl (by kernel_rfl) (by kernel_rfl) (by kernel_rfl) (fun _ _ _ h => h) (Or.inl ⟨by kernel_rfl, ?hc3x15⟩) (by assumption) ?rc3x15
              case hc3x15 => (intro w hSw; (try dsimp only at hSw); go_simp <;> with_reducible rfl)
              try simp only [Act.put, List.setIfInBounds_toArray, List.set_cons_zero, List.set_cons_succ]
              refine wpAnyH_take (i := 16) (oi := { dst := some 189, op := Op.load 24 (Operand.tmp 11), type := 24, pos := "outright.go:82", after := #[{ on := 15, ground := Ground.guard }], guard := some (15, true) }) (v := ?vc3x16) rfl (by kernel_rfl) (by kernel_rfl) (by kernel_rfl) (fun _ _ _ h => h) (Or.inl ⟨by kernel_rfl, ?hc3x16⟩) (by assumption) ?rc3x16
              case hc3x16 => (intro w hSw; (try dsimp only at hSw); go_simp <;> with_reducible rfl)
              try simp only [Act.put, List.setIfInBounds_toArray, List.set_cons_zero, List.set_cons_succ]
              refine wpAnyH_take (i := 17) (oi := { dst := some 190, op := Op.move (Operand.tmp 3), type := 22, pos := "outright.go:82", after := #[{ on := 15, ground := Ground.guard }], guard := some (15, true) }) (v := ?vc3x17) rfl (by kernel_rfl) (by kernel_rfl) (by kernel_rfl) (fun _ _ _ h => h) (Or.inl ⟨by kernel_rfl, ?hc3x17⟩) (by assumption) ?rc3x17
              case hc3x17 => (intro w hSw; (try dsimp only at hSw); go_simp <;> with_reducible rfl)
              try simp only [Act.put, List.setIfInBounds_toArray, List.set_cons_zero, List.set_cons_succ]
              refine wpAnyH_ready (rs := [18]) (by kernel_rfl) (by simp) ?_
              refine AllReadyH.cons (o := { dst := some 191, op := Op.call { callee := Callee.value (Operand.func 8), args := #[Operand.tmp 189, Operand.tmp 190], argTypes := #[24, 22] }, type := 4, pos := "outright.go:82", after := #[{ on := 16, ground := Ground.data }, { on := 17, ground := Ground.data }, { on := 15, ground := Ground.chain }, { on := 15, ground := Ground.guard }], guard := some (15, true) }) rfl (fun K hK => ?_) AllReadyH.nil
              go_simp
              go_at_call 8; refine (HHg.out _ _ b64 hHeld.1).mono ?_; rintro e w9 ⟨he, hk⟩; rw [hB] at he; subst he
              obtain ⟨p0, p1, p2, p3, p4⟩ := (hk.at (gp, p) (by simp)).c
              obtain ⟨q0, q1, q2, q3, q4⟩ := (hk.at (gq, p) (by simp)).c
              obtain ⟨a0, a1, a2, a3, a4⟩ := (hk.at (ga, a) (by simp)).c
              obtain ⟨b0, b1, b2, b3, b4⟩ := (hk.at (gb, b) (by simp)).c
              clear hHeld
              refine hK.out _ _ ⟨hk, p0, p1, p2, p3, p4, q0, q1, q2, q3, q4, a0, a1, a2, a3, a4, b0, b1, b2, b3, b4⟩ (fun hHeld => ?_)
              clear hK K hk p0 p1 p2 p3 p4 q0 q1 q2 q3 q4 a0 a1 a2 a3 a4 b0 b1 b2 b3 b4
              try simp only [Act.put, List.setIfInBounds_toArray, List.set_cons_zero, List.set_cons_succ]
              refine wpAnyH_take (i := 19) (oi := { dst := some 192, op := Op.pick (Operand.tmp 188) (Operand.tmp 191) (Operand.const (Value.bool false)), type := 4, pos := "outright.go:82", after := #[{ on := 15, ground := Ground.data }, { on := 18, ground := Ground.data }, { on := 8, ground := Ground.guard }], guard := some (8, false) }) (v := ?vc3x19) rfl (by kernel_rfl) (by kernel_rfl) (by kernel_rfl) (fun _ _ _ h => h) (Or.inl ⟨by kernel_rfl, ?hc3x19⟩) (by assumption) ?rc3x19
              case hc3x19 => (intro w hSw; (try dsimp only at hSw); go_simp <;> with_reducible rfl)
              try simp only [Act.put, List.setIfInBounds_toArray, List.set_cons_zero, List.set_cons_succ]
              refine wpAnyH_take (i := 20) (oi := { dst := some 193, op := Op.binOp BinOp.neq 4 (Operand.tmp 184) (Operand.tmp 192) 4, type := 4, pos := "outright.go:82", after := #[{ on := 11, ground := Ground.data }, { on := 19, ground := Ground.data }, { on := 8, ground := Ground.guard }], guard := some (8, false) }) (v := ?vc3x20) rfl (by kernel_rfl) (by kernel_rfl) (by kernel_rfl) (fun _ _ _ h => h) (Or.inl ⟨by kernel_rfl, ?hc3x20⟩) (by assumption) ?rc3x20
              case hc3x20 => (intro w hSw; (try dsimp only at hSw); go_simp <;> with_reducible rfl)
              try simp only [Act.put, List.setIfInBounds_toArray, List.set_cons_zero, List.set_cons_succ]
              refine wpAnyH_take (i := 21) (oi := { dst := some 194, op := Op.move (Operand.tmp 193), type := 4, pos := "outright.go:82", after := #[{ on := 20, ground := Ground.data }, { on := 18, ground := Ground.chain }, { on := 8, ground := Ground.guard }], guard := some (8, false) }) (v := ?vc3x21) rfl (by kernel_rfl) (by kernel_rfl) (by kernel_rfl) (fun _ _ _ h => h) (Or.inl ⟨by kernel_rfl, ?hc3x21⟩) (by assumption) ?rc3x21
              case hc3x21 => (intro w hSw; (try dsimp only at hSw); go_simp <;> with_reducible rfl)
              try simp only [Act.put, List.setIfInBounds_toArray, List.set_cons_zero, List.set_cons_succ]
              refine wpAnyH_take (i := 22) (oi := { dst := some 195, op := Op.move (Operand.tmp 16), type := 28, pos := "outright.go:82", after := #[{ on := 21, ground := Ground.guard }], guard := some (21, true) }) (v := undef) rfl (by kernel_rfl) (by kernel_rfl) (by kernel_rfl) (fun _ _ _ h => h) (Or.inr ⟨by kernel_rfl, rfl⟩) (by assumption) ?rc3x22
              try simp only [Act.put, List.setIfInBounds_toArray, List.set_cons_zero, List.set_cons_succ]
              refine wpAnyH_take (i := 23) (oi := { dst := some 196, op := Op.call { callee := Callee.value (Operand.func 7), args := #[Operand.tmp 195], argTypes := #[28] }, type := 3, pos := "outright.go:82", after := #[{ on := 22, ground := Ground.data }, { on := 21, ground := Ground.chain }, { on := 21, ground := Ground.guard }], guard := some (21, true) }) (v := undef) rfl (by kernel_rfl) (by kernel_rfl) (by kernel_rfl) (fun _ _ _ h => h) (Or.inr ⟨by kernel_rfl, rfl⟩) (by assumption) ?rc3x23
              try simp only [Act.put, List.setIfInBounds_toArray, List.set_cons_zero, List.set_cons_succ]
              refine wpAnyH_take (i := 24) (oi := { dst := some 197, op := Op.binOp BinOp.eql 3 (Operand.tmp 196) (Operand.const (Value.int IntKind.i64 0)) 3, type := 4, pos := "outright.go:82", after := #[{ on := 23, ground := Ground.data }, { on := 21, ground := Ground.guard }], guard := some (21, true) }) (v := undef) rfl (by kernel_rfl) (by kernel_rfl) (by kernel_rfl) (fun _ _ _ h => h) (Or.inr ⟨by kernel_rfl, rfl⟩) (by assumption) ?rc3x24
              try simp only [Act.put, List.setIfInBounds_toArray, List.set_cons_zero, List.set_cons_succ]
              refine wpAnyH_take (i := 25) (oi := { dst := some 198, op := Op.pick (Operand.tmp 194) (Operand.tmp 197) (Operand.const (Value.bool false)), type := 4, pos := "outright.go:82", after := #[{ on := 21, ground := Ground.data }, { on := 24, ground := Ground.data }, { on := 8, ground := Ground.guard }], guard := some (8, false) }) (v := ?vc3x25) rfl (by kernel_rfl) (by kernel_rfl) (by kernel_rfl) (fun _ _ _ h => h) (Or.inl ⟨by kernel_rfl, ?hc3x25⟩) (by assumption) ?rc3x25
              case hc3x25 => (intro w hSw; (try dsimp only at hSw); go_simp <;> with_reducible rfl)
              try simp only [Act.put, List.setIfInBounds_toArray, List.set_cons_zero, List.set_cons_succ]
              refine wpAnyH_take (i := 26) (oi := { dst := some 199, op := Op.pick (Operand.tmp 181) (Operand.const (Value.bool true)) (Operand.tmp 198), type := 4, pos := "outright.go:82", after := #[{ on := 8, ground := Ground.data }, { on := 25, ground := Ground.data }], guard := none }) (v := ?vc3x26) rfl (by kernel_rfl) (by kernel_rfl) (by kernel_rfl) (fun _ _ _ h => h) (Or.inl ⟨by kernel_rfl, ?hc3x26⟩) (by assumption) ?rc3x26
              case hc3x26 => (intro w hSw; (try dsimp only at hSw); go_simp <;> with_reducible rfl)
              try simp only [Act.put, List.setIfInBounds_toArray, List.set_cons_zero, List.set_cons_succ]
              refine wpAnyH_take (i := 27) (oi := { dst := some 200, op := Op.move (Operand.tmp 199), type := 4, pos := "outright.go:82", after := #[{ on := 26, ground := Ground.data }, { on := 23, ground := Ground.chain }], guard := none }) (v := ?vc3x27) rfl (by kernel_rfl) (by kernel_rfl) (by kernel_rfl) (fun _ _ _ h => h) (Or.inl ⟨by kernel_rfl, ?hc3x27⟩) (by assumption) ?rc3x27
              case hc3x27 => (intro w hSw; (try dsimp only at hSw); go_simp <;> with_reducible rfl)
              try simp only [Act.put, List.setIfInBounds_toArray, List.set_cons_zero, List.set_cons_succ]
              refine wpAnyH_take (i := 28) (oi := { dst := some 201, op := Op.move (Operand.tmp 16), type := 28, pos := "outright.go:82", after := #[{ on := 27, ground := Ground.guard }], guard := some (27, false) }) (v := ?vc3x28) rfl (by kernel_rfl) (by kernel_rfl) (by kernel_rfl) (fun _ _ _ h => h) (Or.inl ⟨by kernel_rfl, ?hc3x28⟩) (by assumption) ?rc3x28
              case hc3x28 => (intro w hSw; (try dsimp only at hSw); go_simp <;> with_reducible rfl)
              try simp only [Act.put, List.setIfInBounds_toArray, List.set_cons_zero, List.set_cons_succ]
              refine wpAnyH_ready (rs := [29]) (by kernel_rfl) (by simp) ?_
              refine AllReadyH.cons (o := { dst := some 202, op := Op.call { callee := Callee.value (Operand.func 7), args := #[Operand.tmp 201], argTypes := #[28] }, type := 3, pos := "outright.go:82", after := #[{ on := 28, ground := Ground.data }, { on := 27, ground := Ground.chain }, { on := 27, ground := Ground.guard }], guard := some (27, false) }) rfl (fun K hK => ?_) AllReadyH.nil
              go_simp
              go_at_call 7; refine (HN.out _ _).mono ?_; rintro e w9 ⟨rfl, hw⟩; obtain rfl := hw.symm
              refine hK.out _ _ hHeld (fun _ => ?_)
              clear hK K
              try simp only [Act.put, List.setIfInBounds_toArray, List.set_cons_zero, List.set_cons_succ]
              refine wpAnyH_take (i := 30) (oi := { dst := some 203, op := Op.binOp BinOp.neq 3 (Operand.tmp 202) (Operand.const (Value.int IntKind.i64 0)) 3, type := 4, pos := "outright.go:82", after := #[{ on := 29, ground := Ground.data }, { on := 27, ground := Ground.guard }], guard := some (27, false) }) (v := ?vc3x30) rfl (by kernel_rfl) (by kernel_rfl) (by kernel_rfl) (fun _ _ _ h => h) (Or.inl ⟨by kernel_rfl, ?hc3x30⟩) (by assumption) ?rc3x30
              case hc3x30 => (intro w hSw; (try dsimp only at hSw); go_simp <;> with_reducible rfl)
              try simp only [Act.put, List.setIfInBounds_toArray, List.set_cons_zero, List.set_cons_succ]
              refine wpAnyH_take (i := 31) (oi := { dst := some 204, op := Op.move (Operand.tmp 203), type := 4, pos := "outright.go:82", after := #[{ on := 30, ground := Ground.data }, { on := 29, ground := Ground.chain }, { on := 27, ground := Ground.guard }], guard := some (27, false) }) (v := ?vc3x31) rfl (by kernel_rfl) (by kernel_rfl) (by kernel_rfl) (fun _ _ _ h => h) (Or.inl ⟨by kernel_rfl, ?hc3x31⟩) (by assumption) ?rc3x31
              case hc3x31 => (intro w hSw; (try dsimp only at hSw); go_simp <;> with_reducible rfl)
              try simp only [Act.put, List.setIfInBounds_toArray, List.set_cons_zero, List.set_cons_succ]
              refine wpAnyH_take (i := 32) (oi := { dst := some 205, op := Op.load 24 (Operand.tmp 9), type := 24, pos := "outright.go:82", after := #[{ on := 31, ground := Ground.guard }], guard := some (31, true) }) (v := undef) rfl (by kernel_rfl) (by kernel_rfl) (by kernel_rfl) (fun _ _ _ h => h) (Or.inr ⟨by kernel_rfl, rfl⟩) (by assumption) ?rc3x32
              try simp only [Act.put, List.setIfInBounds_toArray, List.set_cons_zero, List.set_cons_succ]
              refine wpAnyH_take (i := 33) (oi := { dst := some 206, op := Op.move (Operand.tmp 3), type := 22, pos := "outright.go:82", after := #[{ on := 31, ground := Ground.guard }], guard := some (31, true) }) (v := undef) rfl (by kernel_rfl) (by kernel_rfl) (by kernel_rfl) (fun _ _ _ h => h) (Or.inr ⟨by kernel_rfl, rfl⟩) (by assumption) ?rc3x33
              try simp only [Act.put, List.setIfInBounds_toArray, List.set_cons_zero, List.set_cons_succ]
              refine wpAnyH_take (i := 34) (oi := { dst := some 207, op := Op.call { callee := Callee.value (Operand.func 8), args := #[Operand.tmp 205, Operand.tmp 206], argTypes := #[24, 22] }, type := 4, pos := "outright.go:82", after := #[{ on := 32, ground := Ground.data }, { on := 33, ground := Ground.data }, { on := 31, ground := Ground.chain }, { on := 31, ground := Ground.guard }], guard := some (31, true) }) (v := undef) rfl (by kernel_rfl) (by kernel_rfl) (by kernel_rfl) (fun _ _ _ h => h) (Or.inr ⟨by kernel_rfl, rfl⟩) (by assumption) ?rc3x34
              try simp only [Act.put, List.setIfInBounds_toArray, List.set_cons_zero, List.set_cons_succ]
              refine wpAnyH_take (i := 35) (oi := { dst := some 208, op := Op.pick (Operand.tmp 204) (Operand.tmp 207) (Operand.const (Value.bool false)), type := 4, pos := "outright.go:82", after := #[{ on := 31, ground := Ground.data }, { on := 34, ground := Ground.data }, { on := 27, ground := Ground.guard }], guard := some (27, false) }) (v := ?vc3x35) rfl (by kernel_rfl) (by kernel_rfl) (by kernel_rfl) (fun _ _ _ h => h) (Or.inl ⟨by kernel_rfl, ?hc3x35⟩) (by assumption) ?rc3x35
              case hc3x35 => (intro w hSw; (try dsimp only at hSw); go_simp <;> with_reducible rfl)
              try simp only [Act.put, List.setIfInBounds_toArray, List.set_cons_zero, List.set_cons_succ]
              refine wpAnyH_take (i := 36) (oi := { dst := some 209, op := Op.move (Operand.tmp 208), type := 4, pos := "outright.go:82", after := #[{ on := 35, ground := Ground.data }, { on := 34, ground := Ground.chain }, { on := 27, ground := Ground.guard }], guard := some (27, false) }) (v := ?vc3x36) rfl (by kernel_rfl) (by kernel_rfl) (by kernel_rfl) (fun _ _ _ h => h) (Or.inl ⟨by kernel_rfl, ?hc3x36⟩) (by assumption) ?rc3x36
              case hc3x36 => (intro w hSw; (try dsimp only at hSw); go_simp <;> with_reducible rfl)
              try simp only [Act.put, List.setIfInBounds_toArray, List.set_cons_zero, List.set_cons_succ]
              refine wpAnyH_take (i := 37) (oi := { dst := some 210, op := Op.load 24 (Operand.tmp 11), type := 24, pos := "outright.go:82", after := #[{ on := 36, ground := Ground.guard }], guard := some (36, true) }) (v := undef) rfl (by kernel_rfl) (by kernel_rfl) (by kernel_rfl) (fun _ _ _ h => h) (Or.inr ⟨by kernel_rfl, rfl⟩) (by assumption) ?rc3x37
              try simp only [Act.put, List.setIfInBounds_toArray, List.set_cons_zero, List.set_cons_succ]
              refine wpAnyH_take (i := 38) (oi := { dst := some 211, op := Op.move (Operand.tmp 3), type := 22, pos := "outright.go:82", after := #[{ on := 36, ground := Ground.guard }], guard := some (36, true) }) (v := undef) rfl (by kernel_rfl) (by kernel_rfl) (by kernel_rfl) (fun _ _ _ h => h) (Or.inr ⟨by kernel_rfl, rfl⟩) (by assumption) ?rc3x38
              try simp only [Act.put, List.setIfInBounds_toArray, List.set_cons_zero, List.set_cons_succ]
              refine wpAnyH_take (i := 39) (oi := { dst := some 212, op := Op.call { callee := Callee.value (Operand.func 8), args := #[Operand.tmp 210, Operand.tmp 211], argTypes := #[24, 22] }, type := 4, pos := "outright.go:82", after := #[{ on := 37, ground := Ground.data }, { on := 38, ground := Ground.data }, { on := 36, ground := Ground.chain }, { on := 36, ground := Ground.guard }], guard := some (36, true) }) (v := undef) rfl (by kernel_rfl) (by kernel_rfl) (by kernel_rfl) (fun _ _ _ h => h) (Or.inr ⟨by kernel_rfl, rfl⟩) (by assumption) ?rc3x39
              try simp only [Act.put, List.setIfInBounds_toArray, List.set_cons_zero, List.set_cons_succ]
              refine wpAnyH_take (i := 40) (oi := { dst := some 213, op := Op.pick (Operand.tmp 209) (Operand.tmp 212) (Operand.const (Value.bool false)), type := 4, pos := "outright.go:82", after := #[{ on := 36, ground := Ground.data }, { on := 39, ground := Ground.data }, { on := 27, ground := Ground.guard }], guard := some (27, false) }) (v := ?vc3x40) rfl (by kernel_rfl) (by kernel_rfl) (by kernel_rfl) (fun _ _ _ h => h) (Or.inl ⟨by kernel_rfl, ?hc3x40⟩) (by assumption) ?rc3x40
              case hc3x40 => (intro w hSw; (try dsimp only at hSw); go_simp <;> with_reducible rfl)
              try simp only [Act.put, List.setIfInBounds_toArray, List.set_cons_zero, List.set_cons_succ]
              refine wpAnyH_take (i := 41) (oi := { dst := some 214, op := Op.pick (Operand.tmp 200) (Operand.const (Value.bool true)) (Operand.tmp 213), type := 4, pos := "outright.go:82", after := #[{ on := 27, ground := Ground.data }, { on := 40, ground := Ground.data }], guard := none }) (v := ?vc3x41) rfl (by kernel_rfl) (by kernel_rfl) (by kernel_rfl) (fun _ _ _ h => h) (Or.inl ⟨by kernel_rfl, ?hc3x41⟩) (by assumption) ?rc3x41
              case hc3x41 => (intro w hSw; (try dsimp only at hSw); go_simp <;> with_reducible rfl)
              try simp only [Act.put, List.setIfInBounds_toArray, List.set_cons_zero, List.set_cons_succ]
              refine wpAnyH_done (by kernel_rfl) ?_ _
              try go_wp2_with fail
              go_meet
              exact ⟨rfl, hHeld.1⟩
      · cases hA : hv a
        · clear hq9
          cases hP : hv p
          · skip
            as_aux_lemma =>
              try go_wp2_with fail
              refine wp_region_held_drew (S := (fun W => KL w [(gq, p), (gp, p), (go, l0), (gm, m0), (gl, l0), (gs, a), (gk, j), (gj, j), (gc, c), (gb, b), (ga, a), (w.heap.size, f), (w.heap.size + 1, g), (w.heap.size + 1 + 1, h)] W ∧ W.cell? ⟨gp, 0, none⟩ = some (.int .i64 p.w) ∧ W.cell? ⟨gp, 1, none⟩ = some (uV p.one) ∧ W.cell? ⟨gp, 2, none⟩ = some (uV p.zero) ∧ W.cell? ⟨gp, 3, none⟩ = some (uV p.least) ∧ W.cell? ⟨gp, 4, none⟩ = some (uV p.top) ∧ W.cell? ⟨gq, 0, none⟩ = some (.int .i64 p.w) ∧ W.cell? ⟨gq, 1, none⟩ = some (uV p.one) ∧ W.cell? ⟨gq, 2, none⟩ = some (uV p.zero) ∧ W.cell? ⟨gq, 3, none⟩ = some (uV p.least) ∧ W.cell? ⟨gq, 4, none⟩ = some (uV p.top) ∧ W.cell? ⟨ga, 0, none⟩ = some (.int .i64 a.w) ∧ W.cell? ⟨ga, 1, none⟩ = some (uV a.one) ∧ W.cell? ⟨ga, 2, none⟩ = some (uV a.zero) ∧ W.cell? ⟨ga, 3, none⟩ = some (uV a.least) ∧ W.cell? ⟨ga, 4, none⟩ = some (uV a.top) ∧ W.cell? ⟨gb, 0, none⟩ = some (.int .i64 b.w) ∧ W.cell? ⟨gb, 1, none⟩ = some (uV b.one) ∧ W.cell? ⟨gb, 2, none⟩ = some (uV b.zero) ∧ W.cell? ⟨gb, 3, none⟩ = some (uV b.least) ∧ W.cell? ⟨gb, 4, none⟩ = some (uV b.top))) (by kernel_rfl) ?_ (fun hHeld => ?_)
              · refine ⟨K1, ?_, ?_, ?_, ?_, ?_, ?_, ?_, ?_, ?_, ?_, ?_, ?_, ?_, ?_, ?_, ?_, ?_, ?_, ?_, ?_⟩ <;> go_keep
              clear K0 K1
              refine wpAnyH_take (i := 0) (oi := { dst := some 173, op := Op.move (Operand.tmp 16), type := 28, pos := "outright.go:82", after := #[], guard := none }) (v := ?vc4x0) rfl (by kernel_rfl) (by kernel_rfl) (by kernel_rfl) (fun _ _ _ h => h) (Or.inl ⟨by kernel_rfl, ?hc4x0⟩) (by assumption) ?rc4x0
              case hc4x0 => (intro w hSw; (try dsimp only at hSw); go_simp <;> with_reducible rfl)
              try simp only [Act.put, List.setIfInBounds_toArray, List.set_cons_zero, List.set_cons_succ]
              refine wpAnyH_take (i := 1) (oi := { dst := some 174, op := Op.move (Operand.tmp 18), type := 28, pos := "outright.go:82", after := #[], guard := none }) (v := ?vc4x1) rfl (by kernel_rfl) (by kernel_rfl) (by kernel_rfl) (fun _ _ _ h => h) (Or.inl ⟨by kernel_rfl, ?hc4x1⟩) (by assumption) ?rc4x1
              case hc4x1 => (intro w hSw; (try dsimp only at hSw); go_simp <;> with_reducible rfl)
              try simp only [Act.put, List.setIfInBounds_toArray, List.set_cons_zero, List.set_cons_succ]
              refine wpAnyH_take (i := 2) (oi := { dst := some 175, op := Op.binOp BinOp.neq 28 (Operand.tmp 173) (Operand.tmp 174) 28, type := 4, pos := "outright.go:82", after := #[{ on := 0, ground := Ground.data }, { on := 1, ground := Ground.data }], guard := none }) (v := ?vc4x2) rfl (by kernel_rfl) (by kernel_rfl) (by kernel_rfl) (fun _ _ _ h => h) (Or.inl ⟨by kernel_rfl, ?hc4x2⟩) (by assumption) ?rc4x2
              case hc4x2 => (intro w hSw; (try dsimp only at hSw); go_simp <;> with_reducible rfl)
              try simp only [Act.put, List.setIfInBounds_toArray, List.set_cons_zero, List.set_cons_succ]
              refine wpAnyH_take (i := 3) (oi := { dst := some 176, op := Op.move (Operand.tmp 175), type := 4, pos := "outright.go:82", after := #[{ on := 2, ground := Ground.data }], guard := none }) (v := ?vc4x3) rfl (by kernel_rfl) (by kernel_rfl) (by kernel_rfl) (fun _ _ _ h => h) (Or.inl ⟨by kernel_rfl, ?hc4x3⟩) (by assumption) ?rc4x3
              case hc4x3 => (intro w hSw; (try dsimp only at hSw); go_simp <;> with_reducible rfl)
              try simp only [Act.put, List.setIfInBounds_toArray, List.set_cons_zero, List.set_cons_succ]
              refine wpAnyH_take (i := 4) (oi := { dst := some 177, op := Op.load 24 (Operand.tmp 24), type := 24, pos := "outright.go:82", after := #[{ on := 3, ground := Ground.guard }], guard := some (3, false) }) (v := ?vc4x4) rfl (by kernel_rfl) (by kernel_rfl) (by kernel_rfl) (fun _ _ _ h => h) (Or.inl ⟨by kernel_rfl, ?hc4x4⟩) (by assumption) ?rc4x4
              case hc4x4 => (intro w hSw; (try dsimp only at hSw); go_simp <;> with_reducible rfl)
              try simp only [Act.put, List.setIfInBounds_toArray, List.set_cons_zero, List.set_cons_succ]
              refine wpAnyH_take (i := 5) (oi := { dst := some 178, op := Op.load 24 (Operand.tmp 25), type := 24, pos := "outright.go:82", after := #[{ on := 3, ground := Ground.guard }], guard := some (3, false) }) (v := ?vc4x5) rfl (by kernel_rfl) (by kernel_rfl) (by kernel_rfl) (fun _ _ _ h => h) (Or.inl ⟨by kernel_rfl, ?hc4x5⟩) (by assumption) ?rc4x5
              case hc4x5 => (intro w hSw; (try dsimp only at hSw); go_simp <;> with_reducible rfl)
              try simp only [Act.put, List.setIfInBounds_toArray, List.set_cons_zero, List.set_cons_succ]
              refine wpAnyH_take (i := 6) (oi := { dst := some 179, op := Op.binOp BinOp.neq 24 (Operand.tmp 177) (Operand.tmp 178) 24, type := 4, pos := "outright.go:82", after := #[{ on := 4, ground := Ground.data }, { on := 5, ground := Ground.data }, { on := 3, ground := Ground.guard }], guard := some (3, false) }) (v := ?vc4x6) rfl (by kernel_rfl) (by kernel_rfl) (by kernel_rfl) (fun _ _ _ h => h) (Or.inl ⟨by kernel_rfl, ?hc4x6⟩) (by assumption) ?rc4x6
              case hc4x6 => (intro w hSw; (try dsimp only at hSw); go_simp <;> with_reducible rfl)
              try simp only [Act.put, List.setIfInBounds_toArray, List.set_cons_zero, List.set_cons_succ]
              refine wpAnyH_take (i := 7) (oi := { dst := some 180, op := Op.pick (Operand.tmp 176) (Operand.const (Value.bool true)) (Operand.tmp 179), type := 4, pos := "outright.go:82", after := #[{ on := 3, ground := Ground.data }, { on := 6, ground := Ground.data }], guard := none }) (v := ?vc4x7) rfl (by kernel_rfl) (by kernel_rfl) (by kernel_rfl) (fun _ _ _ h => h) (Or.inl ⟨by kernel_rfl, ?hc4x7⟩) (by assumption) ?rc4x7
              case hc4x7 => (intro w hSw; (try dsimp only at hSw); go_simp <;> with_reducible rfl)
              try simp only [Act.put, List.setIfInBounds_toArray, List.set_cons_zero, List.set_cons_succ]
              refine wpAnyH_take (i := 8) (oi := { dst := some 181, op := Op.move (Operand.tmp 180), type := 4, pos := "outright.go:82", after := #[{ on := 7, ground := Ground.data }, { on := 3, ground := Ground.chain }], guard := none }) (v := ?vc4x8) rfl (by kernel_rfl) (by kernel_rfl) (by kernel_rfl) (fun _ _ _ h => h) (Or.inl ⟨by kernel_rfl, ?hc4x8⟩) (by assumption) ?rc4x8
              case hc4x8 => (intro w hSw; (try dsimp only at hSw); go_simp <;> with_reducible rfl)
              try simp only [Act.put, List.setIfInBounds_toArray, List.set_cons_zero, List.set_cons_succ]
              refine wpAnyH_take (i := 9) (oi := { dst := some 182, op := Op.load 24 (Operand.tmp 24), type := 24, pos := "outright.go:82", after := #[{ on := 8, ground := Ground.guard }], guard := some (8, false) }) (v := ?vc4x9) rfl (by kernel_rfl) (by kernel_rfl) (by kernel_rfl) (fun _ _ _ h => h) (Or.inl ⟨by kernel_rfl, ?hc4x9⟩) (by assumption) ?rc4x9
              case hc4x9 => (intro w hSw; (try dsimp only at hSw); go_simp <;> with_reducible rfl)
              try simp only [Act.put, List.setIfInBounds_toArray, List.set_cons_zero, List.set_cons_succ]
              refine wpAnyH_take (i := 10) (oi := { dst := some 183, op := Op.move (Operand.tmp 3), type := 22, pos := "outright.go:82", after := #[{ on := 8, ground := Ground.guard }], guard := some (8, false) }) (v := ?vc4x10) rfl (by kernel_rfl) (by kernel_rfl) (by kernel_rfl) (fun _ _ _ h => h) (Or.inl ⟨by kernel_rfl, ?hc4x10⟩) (by assumption) ?rc4x10
              case hc4x10 => (intro w hSw; (try dsimp only at hSw); go_simp <;> with_reducible rfl)
              try simp only [Act.put, List.setIfInBounds_toArray, List.set_cons_zero, List.set_cons_succ]
              refine wpAnyH_take (i := 12) (oi := { dst := some 185, op := Op.load 24 (Operand.tmp 9), type := 24, pos := "outright.go:82", after := #[{ on := 8, ground := Ground.guard }], guard := some (8, false) }) (v := ?vc4x12) rfl (by kernel_rfl) (by kernel_rfl) (by kernel_rfl) (fun _ _ _ h => h) (Or.inl ⟨by kernel_rfl, ?hc4x12⟩) (by assumption) ?rc4x12
              case hc4x12 => (intro w hSw; (try dsimp only at hSw); go_simp <;> with_reducible rfl)
              try simp only [Act.put, List.setIfInBounds_toArray, List.set_cons_zero, List.set_cons_succ]
              refine wpAnyH_take (i := 13) (oi := { dst := some 186, op := Op.move (Operand.tmp 3), type := 22, pos := "outright.go:82", after := #[{ on := 8, ground := Ground.guard }], guard := some (8, false) }) (v := ?vc4x13) rfl (by kernel_rfl) (by kernel_rfl) (by kernel_rfl) (fun _ _ _ h => h) (Or.inl ⟨by kernel_rfl, ?hc4x13⟩) (by assumption) ?rc4x13
              case hc4x13 => (intro w hSw; (try dsimp only at hSw); go_simp <;> with_reducible rfl)
              try simp only [Act.put, List.setIfInBounds_toArray, List.set_cons_zero, List.set_cons_succ]
              refine wpAnyH_ready (rs := [11]) (by kernel_rfl) (by simp) ?_
              refine AllReadyH.cons (o := { dst := some 184, op := Op.call { callee := Callee.value (Operand.func 8), args := #[Operand.tmp 182, Operand.tmp 183], argTypes := #[24, 22] }, type := 4, pos := "outright.go:82", after := #[{ on := 9, ground := Ground.data }, { on := 10, ground := Ground.data }, { on := 8, ground := Ground.chain }, { on := 8, ground := Ground.guard }], guard := some (8, false) }) rfl (fun K hK => ?_) AllReadyH.nil
              go_simp
              go_at_call 8; refine (HHg.out _ _ p64 hHeld.1).mono ?_; rintro e w9 ⟨he, hk⟩; rw [hP] at he; subst he
              obtain ⟨p0, p1, p2, p3, p4⟩ := (hk.at (gp, p) (by simp)).c
              obtain ⟨q0, q1, q2, q3, q4⟩ := (hk.at (gq, p) (by simp)).c
              obtain ⟨a0, a1, a2, a3, a4⟩ := (hk.at (ga, a) (by simp)).c
              obtain ⟨b0, b1, b2, b3, b4⟩ := (hk.at (gb, b) (by simp)).c
              clear hHeld
              refine hK.out _ _ ⟨hk, p0, p1, p2, p3, p4, q0, q1, q2, q3, q4, a0, a1, a2, a3, a4, b0, b1, b2, b3, b4⟩ (fun hHeld => ?_)
              clear hK K hk p0 p1 p2 p3 p4 q0 q1 q2 q3 q4 a0 a1 a2 a3 a4 b0 b1 b2 b3 b4
              try simp only [Act.put, List.setIfInBounds_toArray, List.set_cons_zero, List.set_cons_succ]
              refine wpAnyH_ready (rs := [14]) (by kernel_rfl) (by simp) ?_
              refine AllReadyH.cons (o := { dst := some 187, op := Op.call { callee := Callee.value (Operand.func 8), args := #[Operand.tmp 185, Operand.tmp 186], argTypes := #[24, 22] }, type := 4, pos := "outright.go:82", after := #[{ on := 12, ground := Ground.data }, { on := 13, ground := Ground.data }, { on := 11, ground := Ground.chain }, { on := 8, ground := Ground.guard }], guard := some (8, false) }) rfl (fun K hK => ?_) AllReadyH.nil
              go_simp
              go_at_call 8; refine (HHg.out _ _ a64 hHeld.1).mono ?_; rintro e w9 ⟨he, hk⟩; rw [hA] at he; subst he
              obtain ⟨p0, p1, p2, p3, p4⟩ := (hk.at (gp, p) (by simp)).c
              obtain ⟨q0, q1, q2, q3, q4⟩ := (hk.at (gq, p) (by simp)).c
              obtain ⟨a0, a1, a2, a3, a4⟩ := (hk.at (ga, a) (by simp)).c
              obtain ⟨b0, b1, b2, b3, b4⟩ := (hk.at (gb, b) (by simp)).c
              clear hHeld
              refine hK.out _ _ ⟨hk, p0, p1, p2, p3, p4, q0, q1, q2, q3, q4, a0, a1, a2, a3, a4, b0, b1, b2, b3, b4⟩ (fun hHeld => ?_)
              clear hK K hk p0 p1 p2 p3 p4 q0 q1 q2 q3 q4 a0 a1 a2 a3 a4 b0 b1 b2 b3 b4
              try simp only [Act.put, List.setIfInBounds_toArray, List.set_cons_zero, List.set_cons_succ]
              refine wpAnyH_take (i := 15) (oi := { dst := some 188, op := Op.move (Operand.tmp 187), type := 4, pos := "outright.go:82", after := #[{ on := 14, ground := Ground.data }, { on := 14, ground := Ground.chain }, { on := 8, ground := Ground.guard }], guard := some (8, false) }) (v := ?vc4x15) rfl (by kernel_rfl) (by kernel_rfl) (by kernel_rfl) (fun _ _ _ h => h) (Or.inl ⟨by kernel_rfl, ?hc4x15⟩) (by assumption) ?rc4x15
              case hc4x15 => (intro w hSw; (try dsimp only at hSw); go_simp <;> with_reducible rfl)
              try simp only [Act.put, List.setIfInBounds_toArray, List.set_cons_zero, List.set_cons_succ]
              refine wpAnyH_take (i := 16) (oi := { dst := some 189, op := Op.load 24 (Operand.tmp 11), type := 24, pos := "outright.go:82", after := #[{ on := 15, ground := Ground.guard }], guard := some (15, true) }) (v := undef) rfl (by kernel_rfl) (by kernel_rfl) (by kernel_rfl) (fun _ _ _ h => h) (Or.inr ⟨by kernel_rfl, rfl⟩) (by assumption) ?rc4x16
              try simp only [Act.put, List.setIfInBounds_toArray, List.set_cons_zero, List.set_cons_succ]
              refine wpAnyH_take (i := 17) (oi := { dst := some 190, op := Op.move (Operand.tmp 3), type := 22, pos := "outright.go:82", after := #[{ on := 15, ground := Ground.guard }], guard := some (15, true) }) (v := undef) rfl (by kernel_rfl) (by kernel_rfl) (by kernel_rfl) (fun _ _ _ h => h) (Or.inr ⟨by kernel_rfl, rfl⟩) (by assumption) ?rc4x17
              try simp only [Act.put, List.setIfInBounds_toArray, List.set_cons_zero, List.set_cons_succ]
              refine wpAnyH_take (i := 18) (oi := { dst := some 191, op := Op.call { callee := Callee.value (Operand.func 8), args := #[Operand.tmp 189, Operand.tmp 190], argTypes := #[24, 22] }, type := 4, pos := "outright.go:82", after := #[{ on := 16, ground := Ground.data }, { on := 17, ground := Ground.data }, { on := 15, ground := Ground.chain }, { on := 15, ground := Ground.guard }], guard := some (15, true) }) (v := undef) rfl (by kernel_rfl) (by kernel_rfl) (by kernel_rfl) (fun _ _ _ h => h) (Or.inr ⟨by kernel_rfl, rfl⟩) (by assumption) ?rc4x18
              try simp only [Act.put, List.setIfInBounds_toArray, List.set_cons_zero, List.set_cons_succ]
              refine wpAnyH_take (i := 19) (oi := { dst := some 192, op := Op.pick (Operand.tmp 188) (Operand.tmp 191) (Operand.const (Value.bool false)), type := 4, pos := "outright.go:82", after := #[{ on := 15, ground := Ground.data }, { on := 18, ground := Ground.data }, { on := 8, ground := Ground.guard }], guard := some (8, false) }) (v := ?vc4x19) rfl (by kernel_rfl) (by kernel_rfl) (by kernel_rfl) (fun _ _ _ h => h) (Or.inl ⟨by kernel_rfl, ?hc4x19⟩) (by assumption) ?rc4x19
              case hc4x19 => (intro w hSw; (try dsimp only at hSw); go_simp <;> with_reducible rfl)
              try simp only [Act.put, List.setIfInBounds_toArray, List.set_cons_zero, List.set_cons_succ]
              refine wpAnyH_take (i := 20) (oi := { dst := some 193, op := Op.binOp BinOp.neq 4 (Operand.tmp 184) (Operand.tmp 192) 4, type := 4, pos := "outright.go:82", after := #[{ on := 11, ground := Ground.data }, { on := 19, ground := Ground.data }, { on := 8, ground := Ground.guard }], guard := some (8, false) }) (v := ?vc4x20) rfl (by kernel_rfl) (by kernel_rfl) (by kernel_rfl) (fun _ _ _ h => h) (Or.inl ⟨by kernel_rfl, ?hc4x20⟩) (by assumption) ?rc4x20
              case hc4x20 => (intro w hSw; (try dsimp only at hSw); go_simp <;> with_reducible rfl)
              try simp only [Act.put, List.setIfInBounds_toArray, List.set_cons_zero, List.set_cons_succ]
              refine wpAnyH_take (i := 21) (oi := { dst := some 194, op := Op.move (Operand.tmp 193), type := 4, pos := "outright.go:82", after := #[{ on := 20, ground := Ground.data }, { on := 18, ground := Ground.chain }, { on := 8, ground := Ground.guard }], guard := some (8, false) }) (v := ?vc4x21) rfl (by kernel_rfl) (by kernel_rfl) (by kernel_rfl) (fun _ _ _ h => h) (Or.inl ⟨by kernel_rfl, ?hc4x21⟩) (by assumption) ?rc4x21
              case hc4x21 => (intro w hSw; (try dsimp only at hSw); go_simp <;> with_reducible rfl)
              try simp only [Act.put, List.setIfInBounds_toArray, List.set_cons_zero, List.set_cons_succ]
              refine wpAnyH_take (i := 22) (oi := { dst := some 195, op := Op.move (Operand.tmp 16), type := 28, pos := "outright.go:82", after := #[{ on := 21, ground := Ground.guard }], guard := some (21, true) }) (v := undef) rfl (by kernel_rfl) (by kernel_rfl) (by kernel_rfl) (fun _ _ _ h => h) (Or.inr ⟨by kernel_rfl, rfl⟩) (by assumption) ?rc4x22
              try simp only [Act.put, List.setIfInBounds_toArray, List.set_cons_zero, List.set_cons_succ]
              refine wpAnyH_take (i := 23) (oi := { dst := some 196, op := Op.call { callee := Callee.value (Operand.func 7), args := #[Operand.tmp 195], argTypes := #[28] }, type := 3, pos := "outright.go:82", after := #[{ on := 22, ground := Ground.data }, { on := 21, ground := Ground.chain }, { on := 21, ground := Ground.guard }], guard := some (21, true) }) (v := undef) rfl (by kernel_rfl) (by kernel_rfl) (by kernel_rfl) (fun _ _ _ h => h) (Or.inr ⟨by kernel_rfl, rfl⟩) (by assumption) ?rc4x23
              try simp only [Act.put, List.setIfInBounds_toArray, List.set_cons_zero, List.set_cons_succ]
              refine wpAnyH_take (i := 24) (oi := { dst := some 197, op := Op.binOp BinOp.eql 3 (Operand.tmp 196) (Operand.const (Value.int IntKind.i64 0)) 3, type := 4, pos := "outright.go:82", after := #[{ on := 23, ground := Ground.data }, { on := 21, ground := Ground.guard }], guard := some (21, true) }) (v := undef) rfl (by kernel_rfl) (by kernel_rfl) (by kernel_rfl) (fun _ _ _ h => h) (Or.inr ⟨by kernel_rfl, rfl⟩) (by assumption) ?rc4x24
              try simp only [Act.put, List.setIfInBounds_toArray, List.set_cons_zero, List.set_cons_succ]
              refine wpAnyH_take (i := 25) (oi := { dst := some 198, op := Op.pick (Operand.tmp 194) (Operand.tmp 197) (Operand.const (Value.bool false)), type := 4, pos := "outright.go:82", after := #[{ on := 21, ground := Ground.data }, { on := 24, ground := Ground.data }, { on := 8, ground := Ground.guard }], guard := some (8, false) }) (v := ?vc4x25) rfl (by kernel_rfl) (by kernel_rfl) (by kernel_rfl) (fun _ _ _ h => h) (Or.inl ⟨by kernel_rfl, ?hc4x25⟩) (by assumption) ?rc4x25
              case hc4x25 => (intro w hSw; (try dsimp only at hSw); go_simp <;> with_reducible rfl)
              try simp only [Act.put, List.setIfInBounds_toArray, List.set_cons_zero, List.set_cons_succ]
              refine wpAnyH_take (i := 26) (oi := { dst := some 199, op := Op.pick (Operand.tmp 181) (Operand.const (Value.bool true)) (Operand.tmp 198), type := 4, pos := "outright.go:82", after := #[{ on := 8, ground := Ground.data }, { on := 25, ground := Ground.data }], guard := none }) (v := ?vc4x26) rfl (by kernel_rfl) (by kernel_rfl) (by kernel_rfl) (fun _ _ _ h => h) (Or.inl ⟨by kernel_rfl, ?hc4x26⟩) (by assumption) ?rc4x26
              case hc4x26 => (intro w hSw; (try dsimp only at hSw); go_simp <;> with_reducible rfl)
              try simp only [Act.put, List.setIfInBounds_toArray, List.set_cons_zero, List.set_cons_succ]
              refine wpAnyH_take (i := 27) (oi := { dst := some 200, op := Op.move (Operand.tmp 199), type := 4, pos := "outright.go:82", after := #[{ on := 26, ground := Ground.data }, { on := 23, ground := Ground.chain }], guard := none }) (v := ?vc4x27) rfl (by kernel_rfl) (by kernel_rfl) (by kernel_rfl) (fun _ _ _ h => h) (Or.inl ⟨by kernel_rfl, ?hc4x27⟩) (by assumption) ?rc4x27
              case hc4x27 => (intro w hSw; (try dsimp only at hSw); go_simp <;> with_reducible rfl)
              try simp only [Act.put, List.setIfInBounds_toArray, List.set_cons_zero, List.set_cons_succ]
              refine wpAnyH_take (i := 28) (oi := { dst := some 201, op := Op.move (Operand.tmp 16), type := 28, pos := "outright.go:82", after := #[{ on := 27, ground := Ground.guard }], guard := some (27, false) }) (v := ?vc4x28) rfl (by kernel_rfl) (by kernel_rfl) (by kernel_rfl) (fun _ _ _ h => h) (Or.inl ⟨by kernel_rfl, ?hc4x28⟩) (by assumption) ?rc4x28
              case hc4x28 => (intro w hSw; (try dsimp only at hSw); go_simp <;> with_reducible rfl)
              try simp only [Act.put, List.setIfInBounds_toArray, List.set_cons_zero, List.set_cons_succ]
              refine wpAnyH_ready (rs := [29]) (by kernel_rfl) (by simp) ?_
              refine AllReadyH.cons (o := { dst := some 202, op := Op.call { callee := Callee.value (Operand.func 7), args := #[Operand.tmp 201], argTypes := #[28] }, type := 3, pos := "outright.go:82", after := #[{ on := 28, ground := Ground.data }, { on := 27, ground := Ground.chain }, { on := 27, ground := Ground.guard }], guard := some (27, false) }) rfl (fun K hK => ?_) AllReadyH.nil
              go_simp
              go_at_call 7; refine (HN.out _ _).mono ?_; rintro e w9 ⟨rfl, hw⟩; obtain rfl := hw.symm
              refine hK.out _ _ hHeld (fun _ => ?_)
              clear hK K
              try simp only [Act.put, List.setIfInBounds_toArray, List.set_cons_zero, List.set_cons_succ]
              refine wpAnyH_take (i := 30) (oi := { dst := some 203, op := Op.binOp BinOp.neq 3 (Operand.tmp 202) (Operand.const (Value.int IntKind.i64 0)) 3, type := 4, pos := "outright.go:82", after := #[{ on := 29, ground := Ground.data }, { on := 27, ground := Ground.guard }], guard := some (27, false) }) (v := ?vc4x30) rfl (by kernel_rfl) (by kernel_rfl) (by kernel_rfl) (fun _ _ _ h => h) (Or.inl ⟨by kernel_rfl, ?hc4x30⟩) (by assumption) ?rc4x30
              case hc4x30 => (intro w hSw; (try dsimp only at hSw); go_simp <;> with_reducible rfl)
              try simp only [Act.put, List.setIfInBounds_toArray, List.set_cons_zero, List.set_cons_succ]
              refine wpAnyH_take (i := 31) (oi := { dst := some 204, op := Op.move (Operand.tmp 203), type := 4, pos := "outright.go:82", after := #[{ on := 30, ground := Ground.data }, { on := 29, ground := Ground.chain }, { on := 27, ground := Ground.guard }], guard := some (27, false) }) (v := ?vc4x31) rfl (by kernel_rfl) (by kernel_rfl) (by kernel_rfl) (fun _ _ _ h => h) (Or.inl ⟨by kernel_rfl, ?hc4x31⟩) (by assumption) ?rc4x31
              case hc4x31 => (intro w hSw; (try dsimp only at hSw); go_simp <;> with_reducible rfl)
              try simp only [Act.put, List.setIfInBounds_toArray, List.set_cons_zero, List.set_cons_succ]
              refine wpAnyH_take (i := 32) (oi := { dst := some 205, op := Op.load 24 (Operand.tmp 9), type := 24, pos := "outright.go:82", after := #[{ on := 31, ground := Ground.guard }], guard := some (31, true) }) (v := ?vc4x32) rfl (by kernel_rfl) (by kernel_rfl) (by kernel_rfl) (fun _ _ _ h => h) (Or.inl ⟨by kernel_rfl, ?hc4x32⟩) (by assumption) ?rc4x32
              case hc4x32 => (intro w hSw; (try dsimp only at hSw); go_simp <;> with_reducible rfl)
              try simp only [Act.put, List.setIfInBounds_toArray, List.set_cons_zero, List.set_cons_succ]
              refine wpAnyH_take (i := 33) (oi := { dst := some 206, op := Op.move (Operand.tmp 3), type := 22, pos := "outright.go:82", after := #[{ on := 31, ground := Ground.guard }], guard := some (31, true) }) (v := ?vc4x33) rfl (by kernel_rfl) (by kernel_rfl) (by kernel_rfl) (fun _ _ _ h => h) (Or.inl ⟨by kernel_rfl, ?hc4x33⟩) (by assumption) ?rc4x33
              case hc4x33 => (intro w hSw; (try dsimp only at hSw); go_simp <;> with_reducible rfl)
              try simp only [Act.put, List.setIfInBounds_toArray, List.set_cons_zero, List.set_cons_succ]
              refine wpAnyH_ready (rs := [34]) (by kernel_rfl) (by simp) ?_
              refine AllReadyH.cons (o := { dst := some 207, op := Op.call { callee := Callee.value (Operand.func 8), args := #[Operand.tmp 205, Operand.tmp 206], argTypes := #[24, 22] }, type := 4, pos := "outright.go:82", after := #[{ on := 32, ground := Ground.data }, { on := 33, ground := Ground.data }, { on := 31, ground := Ground.chain }, { on := 31, ground := Ground.guard }], guard := some (31, true) }) rfl (fun K hK => ?_) AllReadyH.nil
              go_simp
              go_at_call 8; refine (HHg.out _ _ a64 hHeld.1).mono ?_; rintro e w9 ⟨he, hk⟩; rw [hA] at he; subst he
              obtain ⟨p0, p1, p2, p3, p4⟩ := (hk.at (gp, p) (by simp)).c
              obtain ⟨q0, q1, q2, q3, q4⟩ := (hk.at (gq, p) (by simp)).c
              obtain ⟨a0, a1, a2, a3, a4⟩ := (hk.at (ga, a) (by simp)).c
              obtain ⟨b0, b1, b2, b3, b4⟩ := (hk.at (gb, b) (by simp)).c
              clear hHeld
              refine hK.out _ _ ⟨hk, p0, p1, p2, p3, p4, q0, q1, q2, q3, q4, a0, a1, a2, a3, a4, b0, b1, b2, b3, b4⟩ (fun hHeld => ?_)
              clear hK K hk p0 p1 p2 p3 p4 q0 q1 q2 q3 q4 a0 a1 a2 a3 a4 b0 b1 b2 b3 b4
              try simp only [Act.put, List.setIfInBounds_toArray, List.set_cons_zero, List.set_cons_succ]
              refine wpAnyH_take (i := 35) (oi := { dst := some 208, op := Op.pick (Operand.tmp 204) (Operand.tmp 207) (Operand.const (Value.bool false)), type := 4, pos := "outright.go:82", after := #[{ on := 31, ground := Ground.data }, { on := 34, ground := Ground.data }, { on := 27, ground := Ground.guard }], guard := some (27, false) }) (v := ?vc4x35) rfl (by kernel_rfl) (by kernel_rfl) (by kernel_rfl) (fun _ _ _ h => h) (Or.inl ⟨by kernel_rfl, ?hc4x35⟩) (by assumption) ?rc4x35
              case hc4x35 => (intro w hSw; (try dsimp only at hSw); go_simp <;> with_reducible rfl)
              try simp only [Act.put, List.setIfInBounds_toArray, List.set_cons_zero, List.set_cons_succ]
              refine wpAnyH_take (i := 36) (oi := { dst := some 209, op := Op.move (Operand.tmp 208), type := 4, pos := "outright.go:82", after := #[{ on := 35, ground := Ground.data }, { on := 34, ground := Ground.chain }, { on := 27, ground := Ground.guard }], guard := some (27, false) }) (v := ?vc4x36) rfl (by kernel_rfl) (by kernel_rfl) (by kernel_rfl) (fun _ _ _ h => h) (Or.inl ⟨by kernel_rfl, ?hc4x36⟩) (by assumption) ?rc4x36
              case hc4x36 => (intro w hSw; (try dsimp only at hSw); go_simp <;> with_reducible rfl)
              try simp only [Act.put, List.setIfInBounds_toArray, List.set_cons_zero, List.set_cons_succ]
              refine wpAnyH_take (i := 37) (oi := { dst := some 210, op := Op.load 24 (Operand.tmp 11), type := 24, pos := "outright.go:82", after := #[{ on := 36, ground := Ground.guard }], guard := some (36, true) }) (v := undef) rfl (by kernel_rfl) (by kernel_rfl) (by kernel_rfl) (fun _ _ _ h => h) (Or.inr ⟨by kernel_rfl, rfl⟩) (by assumption) ?rc4x37
              try simp only [Act.put, List.setIfInBounds_toArray, List.set_cons_zero, List.set_cons_succ]
              refine wpAnyH_take (i := 38) (oi := { dst := some 211, op := Op.move (Operand.tmp 3), type := 22, pos := "outright.go:82", after := #[{ on := 36, ground := Ground.guard }], guard := some (36, true) }) (v := undef) rfl (by kernel_rfl) (by kernel_rfl) (by kernel_rfl) (fun _ _ _ h => h) (Or.inr ⟨by kernel_rfl, rfl⟩) (by assumption) ?rc4x38
              try simp only [Act.put, List.setIfInBounds_toArray, List.set_cons_zero, List.set_cons_succ]
              refine wpAnyH_take (i := 39) (oi := { dst := some 212, op := Op.call { callee := Callee.value (Operand.func 8), args := #[Operand.tmp 210, Operand.tmp 211], argTypes := #[24, 22] }, type := 4, pos := "outright.go:82", after := #[{ on := 37, ground := Ground.data }, { on := 38, ground := Ground.data }, { on := 36, ground := Ground.chain }, { on := 36, ground := Ground.guard }], guard := some (36, true) }) (v := undef) rfl (by kernel_rfl) (by kernel_rfl) (by kernel_rfl) (fun _ _ _ h => h) (Or.inr ⟨by kernel_rfl, rfl⟩) (by assumption) ?rc4x39
              try simp only [Act.put, List.setIfInBounds_toArray, List.set_cons_zero, List.set_cons_succ]
              refine wpAnyH_take (i := 40) (oi := { dst := some 213, op := Op.pick (Operand.tmp 209) (Operand.tmp 212) (Operand.const (Value.bool false)), type := 4, pos := "outright.go:82", after := #[{ on := 36, ground := Ground.data }, { on := 39, ground := Ground.data }, { on := 27, ground := Ground.guard }], guard := some (27, false) }) (v := ?vc4x40) rfl (by kernel_rfl) (by kernel_rfl) (by kernel_rfl) (fun _ _ _ h => h) (Or.inl ⟨by kernel_rfl, ?hc4x40⟩) (by assumption) ?rc4x40
              case hc4x40 => (intro w hSw; (try dsimp only at hSw); go_simp <;> with_reducible rfl)
              try simp only [Act.put, List.setIfInBounds_toArray, List.set_cons_zero, List.set_cons_succ]
              refine wpAnyH_take (i := 41) (oi := { dst := some 214, op := Op.pick (Operand.tmp 200) (Operand.const (Value.bool true)) (Operand.tmp 213), type := 4, pos := "outright.go:82", after := #[{ on := 27, ground := Ground.data }, { on := 40, ground := Ground.data }], guard := none }) (v := ?vc4x41) rfl (by kernel_rfl) (by kernel_rfl) (by kernel_rfl) (fun _ _ _ h => h) (Or.inl ⟨by kernel_rfl, ?hc4x41⟩) (by assumption) ?rc4x41
              case hc4x41 => (intro w hSw; (try dsimp only at hSw); go_simp <;> with_reducible rfl)
              try simp only [Act.put, List.setIfInBounds_toArray, List.set_cons_zero, List.set_cons_succ]
              refine wpAnyH_done (by kernel_rfl) ?_ _
              try go_wp2_with fail
              go_meet
              exact ⟨rfl, hHeld.1⟩
          · skip
            as_aux_lemma =>
              try go_wp2_with fail
              refine wp_region_held_drew (S := (fun W => KL w [(gq, p), (gp, p), (go, l0), (gm, m0), (gl, l0), (gs, a), (gk, j), (gj, j), (gc, c), (gb, b), (ga, a), (w.heap.size, f), (w.heap.size + 1, g), (w.heap.size + 1 + 1, h)] W ∧ W.cell? ⟨gp, 0, none⟩ = some (.int .i64 p.w) ∧ W.cell? ⟨gp, 1, none⟩ = some (uV p.one) ∧ W.cell? ⟨gp, 2, none⟩ = some (uV p.zero) ∧ W.cell? ⟨gp, 3, none⟩ = some (uV p.least) ∧ W.cell? ⟨gp, 4, none⟩ = some (uV p.top) ∧ W.cell? ⟨gq, 0, none⟩ = some (.int .i64 p.w) ∧ W.cell? ⟨gq, 1, none⟩ = some (uV p.one) ∧ W.cell? ⟨gq, 2, none⟩ = some (uV p.zero) ∧ W.cell? ⟨gq, 3, none⟩ = some (uV p.least) ∧ W.cell? ⟨gq, 4, none⟩ = some (uV p.top) ∧ W.cell? ⟨ga, 0, none⟩ = some (.int .i64 a.w) ∧ W.cell? ⟨ga, 1, none⟩ = some (uV a.one) ∧ W.cell? ⟨ga, 2, none⟩ = some (uV a.zero) ∧ W.cell? ⟨ga, 3, none⟩ = some (uV a.least) ∧ W.cell? ⟨ga, 4, none⟩ = some (uV a.top) ∧ W.cell? ⟨gb, 0, none⟩ = some (.int .i64 b.w) ∧ W.cell? ⟨gb, 1, none⟩ = some (uV b.one) ∧ W.cell? ⟨gb, 2, none⟩ = some (uV b.zero) ∧ W.cell? ⟨gb, 3, none⟩ = some (uV b.least) ∧ W.cell? ⟨gb, 4, none⟩ = some (uV b.top))) (by kernel_rfl) ?_ (fun hHeld => ?_)
              · refine ⟨K1, ?_, ?_, ?_, ?_, ?_, ?_, ?_, ?_, ?_, ?_, ?_, ?_, ?_, ?_, ?_, ?_, ?_, ?_, ?_, ?_⟩ <;> go_keep
              clear K0 K1
              refine wpAnyH_take (i := 0) (oi := { dst := some 173, op := Op.move (Operand.tmp 16), type := 28, pos := "outright.go:82", after := #[], guard := none }) (v := ?vc5x0) rfl (by kernel_rfl) (by kernel_rfl) (by kernel_rfl) (fun _ _ _ h => h) (Or.inl ⟨by kernel_rfl, ?hc5x0⟩) (by assumption) ?rc5x0
              case hc5x0 => (intro w hSw; (try dsimp only at hSw); go_simp <;> with_reducible rfl)
              try simp only [Act.put, List.setIfInBounds_toArray, List.set_cons_zero, List.set_cons_succ]
              refine wpAnyH_take (i := 1) (oi := { dst := some 174, op := Op.move (Operand.tmp 18), type := 28, pos := "outright.go:82", after := #[], guard := none }) (v := ?vc5x1) rfl (by kernel_rfl) (by kernel_rfl) (by kernel_rfl) (fun _ _ _ h => h) (Or.inl ⟨by kernel_rfl, ?hc5x1⟩) (by assumption) ?rc5x1
              case hc5x1 => (intro w hSw; (try dsimp only at hSw); go_simp <;> with_reducible rfl)
              try simp only [Act.put, List.setIfInBounds_toArray, List.set_cons_zero, List.set_cons_succ]
              refine wpAnyH_take (i := 2) (oi := { dst := some 175, op := Op.binOp BinOp.neq 28 (Operand.tmp 173) (Operand.tmp 174) 28, type := 4, pos := "outright.go:82", after := #[{ on := 0, ground := Ground.data }, { on := 1, ground := Ground.data }], guard := none }) (v := ?vc5x2) rfl (by kernel_rfl) (by kernel_rfl) (by kernel_rfl) (fun _ _ _ h => h) (Or.inl ⟨by kernel_rfl, ?hc5x2⟩) (by assumption) ?rc5x2
              case hc5x2 => (intro w hSw; (try dsimp only at hSw); go_simp <;> with_reducible rfl)
              try simp only [Act.put, List.setIfInBounds_toArray, List.set_cons_zero, List.set_cons_succ]
              refine wpAnyH_take (i := 3) (oi := { dst := some 176, op := Op.move (Operand.tmp 175), type := 4, pos := "outright.go:82", after := #[{ on := 2, ground := Ground.data }], guard := none }) (v := ?vc5x3) rfl (by kernel_rfl) (by kernel_rfl) (by kernel_rfl) (fun _ _ _ h => h) (Or.inl ⟨by kernel_rfl, ?hc5x3⟩) (by assumption) ?rc5x3
              case hc5x3 => (intro w hSw; (try dsimp only at hSw); go_simp <;> with_reducible rfl)
              try simp only [Act.put, List.setIfInBounds_toArray, List.set_cons_zero, List.set_cons_succ]
              refine wpAnyH_take (i := 4) (oi := { dst := some 177, op := Op.load 24 (Operand.tmp 24), type := 24, pos := "outright.go:82", after := #[{ on := 3, ground := Ground.guard }], guard := some (3, false) }) (v := ?vc5x4) rfl (by kernel_rfl) (by kernel_rfl) (by kernel_rfl) (fun _ _ _ h => h) (Or.inl ⟨by kernel_rfl, ?hc5x4⟩) (by assumption) ?rc5x4
              case hc5x4 => (intro w hSw; (try dsimp only at hSw); go_simp <;> with_reducible rfl)
              try simp only [Act.put, List.setIfInBounds_toArray, List.set_cons_zero, List.set_cons_succ]
              refine wpAnyH_take (i := 5) (oi := { dst := some 178, op := Op.load 24 (Operand.tmp 25), type := 24, pos := "outright.go:82", after := #[{ on := 3, ground := Ground.guard }], guard := some (3, false) }) (v := ?vc5x5) rfl (by kernel_rfl) (by kernel_rfl) (by kernel_rfl) (fun _ _ _ h => h) (Or.inl ⟨by kernel_rfl, ?hc5x5⟩) (by assumption) ?rc5x5
              case hc5x5 => (intro w hSw; (try dsimp only at hSw); go_simp <;> with_reducible rfl)
              try simp only [Act.put, List.setIfInBounds_toArray, List.set_cons_zero, List.set_cons_succ]
              refine wpAnyH_take (i := 6) (oi := { dst := some 179, op := Op.binOp BinOp.neq 24 (Operand.tmp 177) (Operand.tmp 178) 24, type := 4, pos := "outright.go:82", after := #[{ on := 4, ground := Ground.data }, { on := 5, ground := Ground.data }, { on := 3, ground := Ground.guard }], guard := some (3, false) }) (v := ?vc5x6) rfl (by kernel_rfl) (by kernel_rfl) (by kernel_rfl) (fun _ _ _ h => h) (Or.inl ⟨by kernel_rfl, ?hc5x6⟩) (by assumption) ?rc5x6
              case hc5x6 => (intro w hSw; (try dsimp only at hSw); go_simp <;> with_reducible rfl)
              try simp only [Act.put, List.setIfInBounds_toArray, List.set_cons_zero, List.set_cons_succ]
              refine wpAnyH_take (i := 7) (oi := { dst := some 180, op := Op.pick (Operand.tmp 176) (Operand.const (Value.bool true)) (Operand.tmp 179), type := 4, pos := "outright.go:82", after := #[{ on := 3, ground := Ground.data }, { on := 6, ground := Ground.data }], guard := none }) (v := ?vc5x7) rfl (by kernel_rfl) (by kernel_rfl) (by kernel_rfl) (fun _ _ _ h => h) (Or.inl ⟨by kernel_rfl, ?hc5x7⟩) (by assumption) ?rc5x7
              case hc5x7 => (intro w hSw; (try dsimp only at hSw); go_simp <;> with_reducible rfl)
              try simp only [Act.put, List.setIfInBounds_toArray, List.set_cons_zero, List.set_cons_succ]
              refine wpAnyH_take (i := 8) (oi := { dst := some 181, op := Op.move (Operand.tmp 180), type := 4, pos := "outright.go:82", after := #[{ on := 7, ground := Ground.data }, { on := 3, ground := Ground.chain }], guard := none }) (v := ?vc5x8) rfl (by kernel_rfl) (by kernel_rfl) (by kernel_rfl) (fun _ _ _ h => h) (Or.inl ⟨by kernel_rfl, ?hc5x8⟩) (by assumption) ?rc5x8
              case hc5x8 => (intro w hSw; (try dsimp only at hSw); go_simp <;> with_reducible rfl)
              try simp only [Act.put, List.setIfInBounds_toArray, List.set_cons_zero, List.set_cons_succ]
              refine wpAnyH_take (i := 9) (oi := { dst := some 182, op := Op.load 24 (Operand.tmp 24), type := 24, pos := "outright.go:82", after := #[{ on := 8, ground := Ground.guard }], guard := some (8, false) }) (v := ?vc5x9) rfl (by kernel_rfl) (by kernel_rfl) (by kernel_rfl) (fun _ _ _ h => h) (Or.inl ⟨by kernel_rfl, ?hc5x9⟩) (by assumption) ?rc5x9
              case hc5x9 => (intro w hSw; (try dsimp only at hSw); go_simp <;> with_reducible rfl)
              try simp only [Act.put, List.setIfInBounds_toArray, List.set_cons_zero, List.set_cons_succ]
              refine wpAnyH_take (i := 10) (oi := { dst := some 183, op := Op.move (Operand.tmp 3), type := 22, pos := "outright.go:82", after := #[{ on := 8, ground := Ground.guard }], guard := some (8, false) }) (v := ?vc5x10) rfl (by kernel_rfl) (by kernel_rfl) (by kernel_rfl) (fun _ _ _ h => h) (Or.inl ⟨by kernel_rfl, ?hc5x10⟩) (by assumption) ?rc5x10
              case hc5x10 => (intro w hSw; (try dsimp only at hSw); go_simp <;> with_reducible rfl)
              try simp only [Act.put, List.setIfInBounds_toArray, List.set_cons_zero, List.set_cons_succ]
              refine wpAnyH_take (i := 12) (oi := { dst := some 185, op := Op.load 24 (Operand.tmp 9), type := 24, pos := "outright.go:82", after := #[{ on := 8, ground := Ground.guard }], guard := some (8, false) }) (v := ?vc5x12) rfl (by kernel_rfl) (by kernel_rfl) (by kernel_rfl) (fun _ _ _ h => h) (Or.inl ⟨by kernel_rfl, ?hc5x12⟩) (by assumption) ?rc5x12
              case hc5x12 => (intro w hSw; (try dsimp only at hSw); go_simp <;> with_reducible rfl)
              try simp only [Act.put, List.setIfInBounds_toArray, List.set_cons_zero, List.set_cons_succ]
              refine wpAnyH_take (i := 13) (oi := { dst := some 186, op := Op.move (Operand.tmp 3), type := 22, pos := "outright.go:82", after := #[{ on := 8, ground := Ground.guard }], guard := some (8, false) }) (v := ?vc5x13) rfl (by kernel_rfl) (by kernel_rfl) (by kernel_rfl) (fun _ _ _ h => h) (Or.inl ⟨by kernel_rfl, ?hc5x13⟩) (by assumption) ?rc5x13
              case hc5x13 => (intro w hSw; (try dsimp only at hSw); go_simp <;> with_reducible rfl)
              try simp only [Act.put, List.setIfInBounds_toArray, List.set_cons_zero, List.set_cons_succ]
              refine wpAnyH_ready (rs := [11]) (by kernel_rfl) (by simp) ?_
              refine AllReadyH.cons (o := { dst := some 184, op := Op.call { callee := Callee.value (Operand.func 8), args := #[Operand.tmp 182, Operand.tmp 183], argTypes := #[24, 22] }, type := 4, pos := "outright.go:82", after := #[{ on := 9, ground := Ground.data }, { on := 10, ground := Ground.data }, { on := 8, ground := Ground.chain }, { on := 8, ground := Ground.guard }], guard := some (8, false) }) rfl (fun K hK => ?_) AllReadyH.nil
              go_simp
              go_at_call 8; refine (HHg.out _ _ p64 hHeld.1).mono ?_; rintro e w9 ⟨he, hk⟩; rw [hP] at he; subst he
              obtain ⟨p0, p1, p2, p3, p4⟩ := (hk.at (gp, p) (by simp)).c
              obtain ⟨q0, q1, q2, q3, q4⟩ := (hk.at (gq, p) (by simp)).c
              obtain ⟨a0, a1, a2, a3, a4⟩ := (hk.at (ga, a) (by simp)).c
              obtain ⟨b0, b1, b2, b3, b4⟩ := (hk.at (gb, b) (by simp)).c
              clear hHeld
              refine hK.out _ _ ⟨hk, p0, p1, p2, p3, p4, q0, q1, q2, q3, q4, a0, a1, a2, a3, a4, b0, b1, b2, b3, b4⟩ (fun hHeld => ?_)
              clear hK K hk p0 p1 p2 p3 p4 q0 q1 q2 q3 q4 a0 a1 a2 a3 a4 b0 b1 b2 b3 b4
              try simp only [Act.put, List.setIfInBounds_toArray, List.set_cons_zero, List.set_cons_succ]
              refine wpAnyH_ready (rs := [14]) (by kernel_rfl) (by simp) ?_
              refine AllReadyH.cons (o := { dst := some 187, op := Op.call { callee := Callee.value (Operand.func 8), args := #[Operand.tmp 185, Operand.tmp 186], argTypes := #[24, 22] }, type := 4, pos := "outright.go:82", after := #[{ on := 12, ground := Ground.data }, { on := 13, ground := Ground.data }, { on := 11, ground := Ground.chain }, { on := 8, ground := Ground.guard }], guard := some (8, false) }) rfl (fun K hK => ?_) AllReadyH.nil
              go_simp
              go_at_call 8; refine (HHg.out _ _ a64 hHeld.1).mono ?_; rintro e w9 ⟨he, hk⟩; rw [hA] at he; subst he
              obtain ⟨p0, p1, p2, p3, p4⟩ := (hk.at (gp, p) (by simp)).c
              obtain ⟨q0, q1, q2, q3, q4⟩ := (hk.at (gq, p) (by simp)).c
              obtain ⟨a0, a1, a2, a3, a4⟩ := (hk.at (ga, a) (by simp)).c
              obtain ⟨b0, b1, b2, b3, b4⟩ := (hk.at (gb, b) (by simp)).c
              clear hHeld
              refine hK.out _ _ ⟨hk, p0, p1, p2, p3, p4, q0, q1, q2, q3, q4, a0, a1, a2, a3, a4, b0, b1, b2, b3, b4⟩ (fun hHeld => ?_)
              clear hK K hk p0 p1 p2 p3 p4 q0 q1 q2 q3 q4 a0 a1 a2 a3 a4 b0 b1 b2 b3 b4
              try simp only [Act.put, List.setIfInBounds_toArray, List.set_cons_zero, List.set_cons_succ]
              refine wpAnyH_take (i := 15) (oi := { dst := some 188, op := Op.move (Operand.tmp 187), type := 4, pos := "outright.go:82", after := #[{ on := 14, ground := Ground.data }, { on := 14, ground := Ground.chain }, { on := 8, ground := Ground.guard }], guard := some (8, false) }) (v := ?vc5x15) rfl (by kernel_rfl) (by kernel_rfl) (by kernel_rfl) (fun _ _ _ h => h) (Or.inl ⟨by kernel_rfl, ?hc5x15⟩) (by assumption) ?rc5x15
              case hc5x15 => (intro w hSw; (try dsimp only at hSw); go_simp <;> with_reducible rfl)
              try simp only [Act.put, List.setIfInBounds_toArray, List.set_cons_zero, List.set_cons_succ]
              refine wpAnyH_take (i := 16) (oi := { dst := some 189, op := Op.load 24 (Operand.tmp 11), type := 24, pos := "outright.go:82", after := #[{ on := 15, ground := Ground.guard }], guard := some (15, true) }) (v := undef) rfl (by kernel_rfl) (by kernel_rfl) (by kernel_rfl) (fun _ _ _ h => h) (Or.inr ⟨by kernel_rfl, rfl⟩) (by assumption) ?rc5x16
              try simp only [Act.put, List.setIfInBounds_toArray, List.set_cons_zero, List.set_cons_succ]
              refine wpAnyH_take (i := 17) (oi := { dst := some 190, op := Op.move (Operand.tmp 3), type := 22, pos := "outright.go:82", after := #[{ on := 15, ground := Ground.guard }], guard := some (15, true) }) (v := undef) rfl (by kernel_rfl) (by kernel_rfl) (by kernel_rfl) (fun _ _ _ h => h) (Or.inr ⟨by kernel_rfl, rfl⟩) (by assumption) ?rc5x17
              try simp only [Act.put, List.setIfInBounds_toArray, List.set_cons_zero, List.set_cons_succ]
              refine wpAnyH_take (i := 18) (oi := { dst := some 191, op := Op.call { callee := Callee.value (Operand.func 8), args := #[Operand.tmp 189, Operand.tmp 190], argTypes := #[24, 22] }, type := 4, pos := "outright.go:82", after := #[{ on := 16, ground := Ground.data }, { on := 17, ground := Ground.data }, { on := 15, ground := Ground.chain }, { on := 15, ground := Ground.guard }], guard := some (15, true) }) (v := undef) rfl (by kernel_rfl) (by kernel_rfl) (by kernel_rfl) (fun _ _ _ h => h) (Or.inr ⟨by kernel_rfl, rfl⟩) (by assumption) ?rc5x18
              try simp only [Act.put, List.setIfInBounds_toArray, List.set_cons_zero, List.set_cons_succ]
              refine wpAnyH_take (i := 19) (oi := { dst := some 192, op := Op.pick (Operand.tmp 188) (Operand.tmp 191) (Operand.const (Value.bool false)), type := 4, pos := "outright.go:82", after := #[{ on := 15, ground := Ground.data }, { on := 18, ground := Ground.data }, { on := 8, ground := Ground.guard }], guard := some (8, false) }) (v := ?vc5x19) rfl (by kernel_rfl) (by kernel_rfl) (by kernel_rfl) (fun _ _ _ h => h) (Or.inl ⟨by kernel_rfl, ?hc5x19⟩) (by assumption) ?rc5x19
              case hc5x19 => (intro w hSw; (try dsimp only at hSw); go_simp <;> with_reducible rfl)
              try simp only [Act.put, List.setIfInBounds_toArray, List.set_cons_zero, List.set_cons_succ]
              refine wpAnyH_take (i := 20) (oi := { dst := some 193, op := Op.binOp BinOp.neq 4 (Operand.tmp 184) (Operand.tmp 192) 4, type := 4, pos := "outright.go:82", after := #[{ on := 11, ground := Ground.data }, { on := 19, ground := Ground.data }, { on := 8, ground := Ground.guard }], guard := some (8, false) }) (v := ?vc5x20) rfl (by kernel_rfl) (by kernel_rfl) (by kernel_rfl) (fun _ _ _ h => h) (Or.inl ⟨by kernel_rfl, ?hc5x20⟩) (by assumption) ?rc5x20
              case hc5x20 => (intro w hSw; (try dsimp only at hSw); go_simp <;> with_reducible rfl)
              try simp only [Act.put, List.setIfInBounds_toArray, List.set_cons_zero, List.set_cons_succ]
              refine wpAnyH_take (i := 21) (oi := { dst := some 194, op := Op.move (Operand.tmp 193), type := 4, pos := "outright.go:82", after := #[{ on := 20, ground := Ground.data }, { on := 18, ground := Ground.chain }, { on := 8, ground := Ground.guard }], guard := some (8, false) }) (v := ?vc5x21) rfl (by kernel_rfl) (by kernel_rfl) (by kernel_rfl) (fun _ _ _ h => h) (Or.inl ⟨by kernel_rfl, ?hc5x21⟩) (by assumption) ?rc5x21
              case hc5x21 => (intro w hSw; (try dsimp only at hSw); go_simp <;> with_reducible rfl)
              try simp only [Act.put, List.setIfInBounds_toArray, List.set_cons_zero, List.set_cons_succ]
              refine wpAnyH_take (i := 22) (oi := { dst := some 195, op := Op.move (Operand.tmp 16), type := 28, pos := "outright.go:82", after := #[{ on := 21, ground := Ground.guard }], guard := some (21, true) }) (v := ?vc5x22) rfl (by kernel_rfl) (by kernel_rfl) (by kernel_rfl) (fun _ _ _ h => h) (Or.inl ⟨by kernel_rfl, ?hc5x22⟩) (by assumption) ?rc5x22
              case hc5x22 => (intro w hSw; (try dsimp only at hSw); go_simp <;> with_reducible rfl)
              try simp only [Act.put, List.setIfInBounds_toArray, List.set_cons_zero, List.set_cons_succ]
              refine wpAnyH_ready (rs := [23]) (by kernel_rfl) (by simp) ?_
              refine AllReadyH.cons (o := { dst := some 196, op := Op.call { callee := Callee.value (Operand.func 7), args := #[Operand.tmp 195], argTypes := #[28] }, type := 3, pos := "outright.go:82", after := #[{ on := 22, ground := Ground.data }, { on := 21, ground := Ground.chain }, { on := 21, ground := Ground.guard }], guard := some (21, true) }) rfl (fun K hK => ?_) AllReadyH.nil
              go_simp
              go_at_call 7; refine (HN.out _ _).mono ?_; rintro e w9 ⟨rfl, hw⟩; obtain rfl := hw.symm
              refine hK.out _ _ hHeld (fun _ => ?_)
              clear hK K
              try simp only [Act.put, List.setIfInBounds_toArray, List.set_cons_zero, List.set_cons_succ]
              refine wpAnyH_take (i := 24) (oi := { dst := some 197, op := Op.binOp BinOp.eql 3 (Operand.tmp 196) (Operand.const (Value.int IntKind.i64 0)) 3, type := 4, pos := "outright.go:82", after := #[{ on := 23, ground := Ground.data }, { on := 21, ground := Ground.guard }], guard := some (21, true) }) (v := ?vc5x24) rfl (by kernel_rfl) (by kernel_rfl) (by kernel_rfl) (fun _ _ _ h => h) (Or.inl ⟨by kernel_rfl, ?hc5x24⟩) (by assumption) ?rc5x24
              case hc5x24 => (intro w hSw; (try dsimp only at hSw); go_simp <;> with_reducible rfl)
              try simp only [Act.put, List.setIfInBounds_toArray, List.set_cons_zero, List.set_cons_succ]
              refine wpAnyH_take (i := 25) (oi := { dst := some 198, op := Op.pick (Operand.tmp 194) (Operand.tmp 197) (Operand.const (Value.bool false)), type := 4, pos := "outright.go:82", after := #[{ on := 21, ground := Ground.data }, { on := 24, ground := Ground.data }, { on := 8, ground := Ground.guard }], guard := some (8, false) }) (v := ?vc5x25) rfl (by kernel_rfl) (by kernel_rfl) (by kernel_rfl) (fun _ _ _ h => h) (Or.inl ⟨by kernel_rfl, ?hc5x25⟩) (by assumption) ?rc5x25
              case hc5x25 => (intro w hSw; (try dsimp only at hSw); go_simp <;> with_reducible rfl)
              try simp only [Act.put, List.setIfInBounds_toArray, List.set_cons_zero, List.set_cons_succ]
              refine wpAnyH_take (i := 26) (oi := { dst := some 199, op := Op.pick (Operand.tmp 181) (Operand.const (Value.bool true)) (Operand.tmp 198), type := 4, pos := "outright.go:82", after := #[{ on := 8, ground := Ground.data }, { on := 25, ground := Ground.data }], guard := none }) (v := ?vc5x26) rfl (by kernel_rfl) (by kernel_rfl) (by kernel_rfl) (fun _ _ _ h => h) (Or.inl ⟨by kernel_rfl, ?hc5x26⟩) (by assumption) ?rc5x26
              case hc5x26 => (intro w hSw; (try dsimp only at hSw); go_simp <;> with_reducible rfl)
              try simp only [Act.put, List.setIfInBounds_toArray, List.set_cons_zero, List.set_cons_succ]
              refine wpAnyH_take (i := 27) (oi := { dst := some 200, op := Op.move (Operand.tmp 199), type := 4, pos := "outright.go:82", after := #[{ on := 26, ground := Ground.data }, { on := 23, ground := Ground.chain }], guard := none }) (v := ?vc5x27) rfl (by kernel_rfl) (by kernel_rfl) (by kernel_rfl) (fun _ _ _ h => h) (Or.inl ⟨by kernel_rfl, ?hc5x27⟩) (by assumption) ?rc5x27
              case hc5x27 => (intro w hSw; (try dsimp only at hSw); go_simp <;> with_reducible rfl)
              try simp only [Act.put, List.setIfInBounds_toArray, List.set_cons_zero, List.set_cons_succ]
              refine wpAnyH_take (i := 28) (oi := { dst := some 201, op := Op.move (Operand.tmp 16), type := 28, pos := "outright.go:82", after := #[{ on := 27, ground := Ground.guard }], guard := some (27, false) }) (v := ?vc5x28) rfl (by kernel_rfl) (by kernel_rfl) (by kernel_rfl) (fun _ _ _ h => h) (Or.inl ⟨by kernel_rfl, ?hc5x28⟩) (by assumption) ?rc5x28
              case hc5x28 => (intro w hSw; (try dsimp only at hSw); go_simp <;> with_reducible rfl)
              try simp only [Act.put, List.setIfInBounds_toArray, List.set_cons_zero, List.set_cons_succ]
              refine wpAnyH_ready (rs := [29]) (by kernel_rfl) (by simp) ?_
              refine AllReadyH.cons (o := { dst := some 202, op := Op.call { callee := Callee.value (Operand.func 7), args := #[Operand.tmp 201], argTypes := #[28] }, type := 3, pos := "outright.go:82", after := #[{ on := 28, ground := Ground.data }, { on := 27, ground := Ground.chain }, { on := 27, ground := Ground.guard }], guard := some (27, false) }) rfl (fun K hK => ?_) AllReadyH.nil
              go_simp
              go_at_call 7; refine (HN.out _ _).mono ?_; rintro e w9 ⟨rfl, hw⟩; obtain rfl := hw.symm
              refine hK.out _ _ hHeld (fun _ => ?_)
              clear hK K
              try simp only [Act.put, List.setIfInBounds_toArray, List.set_cons_zero, List.set_cons_succ]
              refine wpAnyH_take (i := 30) (oi := { dst := some 203, op := Op.binOp BinOp.neq 3 (Operand.tmp 202) (Operand.const (Value.int IntKind.i64 0)) 3, type := 4, pos := "outright.go:82", after := #[{ on := 29, ground := Ground.data }, { on := 27, ground := Ground.guard }], guard := some (27, false) }) (v := ?vc5x30) rfl (by kernel_rfl) (by kernel_rfl) (by kernel_rfl) (fun _ _ _ h => h) (Or.inl ⟨by kernel_rfl, ?hc5x30⟩) (by assumption) ?rc5x30
              case hc5x30 => (intro w hSw; (try dsimp only at hSw); go_simp <;> with_reducible rfl)
              try simp only [Act.put, List.setIfInBounds_toArray, List.set_cons_zero, List.set_cons_succ]
              refine wpAnyH_take (i := 31) (oi := { dst := some 204, op := Op.move (Operand.tmp 203), type := 4, pos := "outright.go:82", after := #[{ on := 30, ground := Ground.data }, { on := 29, ground := Ground.chain }, { on := 27, ground := Ground.guard }], guard := some (27, false) }) (v := ?vc5x31) rfl (by kernel_rfl) (by kernel_rfl) (by kernel_rfl) (fun _ _ _ h => h) (Or.inl ⟨by kernel_rfl, ?hc5x31⟩) (by assumption) ?rc5x31
              case hc5x31 => (intro w hSw; (try dsimp only at hSw); go_simp <;> with_reducible rfl)
              try simp only [Act.put, List.setIfInBounds_toArray, List.set_cons_zero, List.set_cons_succ]
              refine wpAnyH_take (i := 32) (oi := { dst := some 205, op := Op.load 24 (Operand.tmp 9), type := 24, pos := "outright.go:82", after := #[{ on := 31, ground := Ground.guard }], guard := some (31, true) }) (v := ?vc5x32) rfl (by kernel_rfl) (by kernel_rfl) (by kernel_rfl) (fun _ _ _ h => h) (Or.inl ⟨by kernel_rfl, ?hc5x32⟩) (by assumption) ?rc5x32
              case hc5x32 => (intro w hSw; (try dsimp only at hSw); go_simp <;> with_reducible rfl)
              try simp only [Act.put, List.setIfInBounds_toArray, List.set_cons_zero, List.set_cons_succ]
              refine wpAnyH_take (i := 33) (oi := { dst := some 206, op := Op.move (Operand.tmp 3), type := 22, pos := "outright.go:82", after := #[{ on := 31, ground := Ground.guard }], guard := some (31, true) }) (v := ?vc5x33) rfl (by kernel_rfl) (by kernel_rfl) (by kernel_rfl) (fun _ _ _ h => h) (Or.inl ⟨by kernel_rfl, ?hc5x33⟩) (by assumption) ?rc5x33
              case hc5x33 => (intro w hSw; (try dsimp only at hSw); go_simp <;> with_reducible rfl)
              try simp only [Act.put, List.setIfInBounds_toArray, List.set_cons_zero, List.set_cons_succ]
              refine wpAnyH_ready (rs := [34]) (by kernel_rfl) (by simp) ?_
              refine AllReadyH.cons (o := { dst := some 207, op := Op.call { callee := Callee.value (Operand.func 8), args := #[Operand.tmp 205, Operand.tmp 206], argTypes := #[24, 22] }, type := 4, pos := "outright.go:82", after := #[{ on := 32, ground := Ground.data }, { on := 33, ground := Ground.data }, { on := 31, ground := Ground.chain }, { on := 31, ground := Ground.guard }], guard := some (31, true) }) rfl (fun K hK => ?_) AllReadyH.nil
              go_simp
              go_at_call 8; refine (HHg.out _ _ a64 hHeld.1).mono ?_; rintro e w9 ⟨he, hk⟩; rw [hA] at he; subst he
              obtain ⟨p0, p1, p2, p3, p4⟩ := (hk.at (gp, p) (by simp)).c
              obtain ⟨q0, q1, q2, q3, q4⟩ := (hk.at (gq, p) (by simp)).c
              obtain ⟨a0, a1, a2, a3, a4⟩ := (hk.at (ga, a) (by simp)).c
              obtain ⟨b0, b1, b2, b3, b4⟩ := (hk.at (gb, b) (by simp)).c
              clear hHeld
              refine hK.out _ _ ⟨hk, p0, p1, p2, p3, p4, q0, q1, q2, q3, q4, a0, a1, a2, a3, a4, b0, b1, b2, b3, b4⟩ (fun hHeld => ?_)
              clear hK K hk p0 p1 p2 p3 p4 q0 q1 q2 q3 q4 a0 a1 a2 a3 a4 b0 b1 b2 b3 b4
              try simp only [Act.put, List.setIfInBounds_toArray, List.set_cons_zero, List.set_cons_succ]
              refine wpAnyH_take (i := 35) (oi := { dst := some 208, op := Op.pick (Operand.tmp 204) (Operand.tmp 207) (Operand.const (Value.bool false)), type := 4, pos := "outright.go:82", after := #[{ on := 31, ground := Ground.data }, { on := 34, ground := Ground.data }, { on := 27, ground := Ground.guard }], guard := some (27, false) }) (v := ?vc5x35) rfl (by kernel_rfl) (by kernel_rfl) (by kernel_rfl) (fun _ _ _ h => h) (Or.inl ⟨by kernel_rfl, ?hc5x35⟩) (by assumption) ?rc5x35
              case hc5x35 => (intro w hSw; (try dsimp only at hSw); go_simp <;> with_reducible rfl)
              try simp only [Act.put, List.setIfInBounds_toArray, List.set_cons_zero, List.set_cons_succ]
              refine wpAnyH_take (i := 36) (oi := { dst := some 209, op := Op.move (Operand.tmp 208), type := 4, pos := "outright.go:82", after := #[{ on := 35, ground := Ground.data }, { on := 34, ground := Ground.chain }, { on := 27, ground := Ground.guard }], guard := some (27, false) }) (v := ?vc5x36) rfl (by kernel_rfl) (by kernel_rfl) (by kernel_rfl) (fun _ _ _ h => h) (Or.inl ⟨by kernel_rfl, ?hc5x36⟩) (by assumption) ?rc5x36
              case hc5x36 => (intro w hSw; (try dsimp only at hSw); go_simp <;> with_reducible rfl)
              try simp only [Act.put, List.setIfInBounds_toArray, List.set_cons_zero, List.set_cons_succ]
              refine wpAnyH_take (i := 37) (oi := { dst := some 210, op := Op.load 24 (Operand.tmp 11), type := 24, pos := "outright.go:82", after := #[{ on := 36, ground := Ground.guard }], guard := some (36, true) }) (v := undef) rfl (by kernel_rfl) (by kernel_rfl) (by kernel_rfl) (fun _ _ _ h => h) (Or.inr ⟨by kernel_rfl, rfl⟩) (by assumption) ?rc5x37
              try simp only [Act.put, List.setIfInBounds_toArray, List.set_cons_zero, List.set_cons_succ]
              refine wpAnyH_take (i := 38) (oi := { dst := some 211, op := Op.move (Operand.tmp 3), type := 22, pos := "outright.go:82", after := #[{ on := 36, ground := Ground.guard }], guard := some (36, true) }) (v := undef) rfl (by kernel_rfl) (by kernel_rfl) (by kernel_rfl) (fun _ _ _ h => h) (Or.inr ⟨by kernel_rfl, rfl⟩) (by assumption) ?rc5x38
              try simp only [Act.put, List.setIfInBounds_toArray, List.set_cons_zero, List.set_cons_succ]
              refine wpAnyH_take (i := 39) (oi := { dst := some 212, op := Op.call { callee := Callee.value (Operand.func 8), args := #[Operand.tmp 210, Operand.tmp 211], argTypes := #[24, 22] }, type := 4, pos := "outright.go:82", after := #[{ on := 37, ground := Ground.data }, { on := 38, ground := Ground.data }, { on := 36, ground := Ground.chain }, { on := 36, ground := Ground.guard }], guard := some (36, true) }) (v := undef) rfl (by kernel_rfl) (by kernel_rfl) (by kernel_rfl) (fun _ _ _ h => h) (Or.inr ⟨by kernel_rfl, rfl⟩) (by assumption) ?rc5x39
              try simp only [Act.put, List.setIfInBounds_toArray, List.set_cons_zero, List.set_cons_succ]
              refine wpAnyH_take (i := 40) (oi := { dst := some 213, op := Op.pick (Operand.tmp 209) (Operand.tmp 212) (Operand.const (Value.bool false)), type := 4, pos := "outright.go:82", after := #[{ on := 36, ground := Ground.data }, { on := 39, ground := Ground.data }, { on := 27, ground := Ground.guard }], guard := some (27, false) }) (v := ?vc5x40) rfl (by kernel_rfl) (by kernel_rfl) (by kernel_rfl) (fun _ _ _ h => h) (Or.inl ⟨by kernel_rfl, ?hc5x40⟩) (by assumption) ?rc5x40
              case hc5x40 => (intro w hSw; (try dsimp only at hSw); go_simp <;> with_reducible rfl)
              try simp only [Act.put, List.setIfInBounds_toArray, List.set_cons_zero, List.set_cons_succ]
              refine wpAnyH_take (i := 41) (oi := { dst := some 214, op := Op.pick (Operand.tmp 200) (Operand.const (Value.bool true)) (Operand.tmp 213), type := 4, pos := "outright.go:82", after := #[{ on := 27, ground := Ground.data }, { on := 40, ground := Ground.data }], guard := none }) (v := ?vc5x41) rfl (by kernel_rfl) (by kernel_rfl) (by kernel_rfl) (fun _ _ _ h => h) (Or.inl ⟨by kernel_rfl, ?hc5x41⟩) (by assumption) ?rc5x41
              case hc5x41 => (intro w hSw; (try dsimp only at hSw); go_simp <;> with_reducible rfl)
              try simp only [Act.put, List.setIfInBounds_toArray, List.set_cons_zero, List.set_cons_succ]
              refine wpAnyH_done (by kernel_rfl) ?_ _
              try go_wp2_with fail
              go_meet
              exact ⟨rfl, hHeld.1⟩
        · have hB : hv b = false := by rw [hA] at hq9; simpa using hq9
          clear hq9
          cases hP : hv p
          · skip
            as_aux_lemma =>
              try go_wp2_with fail
              refine wp_region_held_drew (S := (fun W => KL w [(gq, p), (gp, p), (go, l0), (gm, m0), (gl, l0), (gs, a), (gk, j), (gj, j), (gc, c), (gb, b), (ga, a), (w.heap.size, f), (w.heap.size + 1, g), (w.heap.size + 1 + 1, h)] W ∧ W.cell? ⟨gp, 0, none⟩ = some (.int .i64 p.w) ∧ W.cell? ⟨gp, 1, none⟩ = some (uV p.one) ∧ W.cell? ⟨gp, 2, none⟩ = some (uV p.zero) ∧ W.cell? ⟨gp, 3, none⟩ = some (uV p.least) ∧ W.cell? ⟨gp, 4, none⟩ = some (uV p.top) ∧ W.cell? ⟨gq, 0, none⟩ = some (.int .i64 p.w) ∧ W.cell? ⟨gq, 1, none⟩ = some (uV p.one) ∧ W.cell? ⟨gq, 2, none⟩ = some (uV p.zero) ∧ W.cell? ⟨gq, 3, none⟩ = some (uV p.least) ∧ W.cell? ⟨gq, 4, none⟩ = some (uV p.top) ∧ W.cell? ⟨ga, 0, none⟩ = some (.int .i64 a.w) ∧ W.cell? ⟨ga, 1, none⟩ = some (uV a.one) ∧ W.cell? ⟨ga, 2, none⟩ = some (uV a.zero) ∧ W.cell? ⟨ga, 3, none⟩ = some (uV a.least) ∧ W.cell? ⟨ga, 4, none⟩ = some (uV a.top) ∧ W.cell? ⟨gb, 0, none⟩ = some (.int .i64 b.w) ∧ W.cell? ⟨gb, 1, none⟩ = some (uV b.one) ∧ W.cell? ⟨gb, 2, none⟩ = some (uV b.zero) ∧ W.cell? ⟨gb, 3, none⟩ = some (uV b.least) ∧ W.cell? ⟨gb, 4, none⟩ = some (uV b.top))) (by kernel_rfl) ?_ (fun hHeld => ?_)
              · refine ⟨K1, ?_, ?_, ?_, ?_, ?_, ?_, ?_, ?_, ?_, ?_, ?_, ?_, ?_, ?_, ?_, ?_, ?_, ?_, ?_, ?_⟩ <;> go_keep
              clear K0 K1
              refine wpAnyH_take (i := 0) (oi := { dst := some 173, op := Op.move (Operand.tmp 16), type := 28, pos := "outright.go:82", after := #[], guard := none }) (v := ?vc6x0) rfl (by kernel_rfl) (by kernel_rfl) (by kernel_rfl) (fun _ _ _ h => h) (Or.inl ⟨by kernel_rfl, ?hc6x0⟩) (by assumption) ?rc6x0
              case hc6x0 => (intro w hSw; (try dsimp only at hSw); go_simp <;> with_reducible rfl)
              try simp only [Act.put, List.setIfInBounds_toArray, List.set_cons_zero, List.set_cons_succ]
              refine wpAnyH_take (i := 1) (oi := { dst := some 174, op := Op.move (Operand.tmp 18), type := 28, pos := "outright.go:82", after := #[], guard := none }) (v := ?vc6x1) rfl (by kernel_rfl) (by kernel_rfl) (by kernel_rfl) (fun _ _ _ h => h) (Or.inl ⟨by kernel_rfl, ?hc6x1⟩) (by assumption) ?rc6x1
              case hc6x1 => (intro w hSw; (try dsimp only at hSw); go_simp <;> with_reducible rfl)
              try simp only [Act.put, List.setIfInBounds_toArray, List.set_cons_zero, List.set_cons_succ]
              refine wpAnyH_take (i := 2) (oi := { dst := some 175, op := Op.binOp BinOp.neq 28 (Operand.tmp 173) (Operand.tmp 174) 28, type := 4, pos := "outright.go:82", after := #[{ on := 0, ground := Ground.data }, { on := 1, ground := Ground.data }], guard := none }) (v := ?vc6x2) rfl (by kernel_rfl) (by kernel_rfl) (by kernel_rfl) (fun _ _ _ h => h) (Or.inl ⟨by kernel_rfl, ?hc6x2⟩) (by assumption) ?rc6x2
              case hc6x2 => (intro w hSw; (try dsimp only at hSw); go_simp <;> with_reducible rfl)
              try simp only [Act.put, List.setIfInBounds_toArray, List.set_cons_zero, List.set_cons_succ]
              refine wpAnyH_take (i := 3) (oi := { dst := some 176, op := Op.move (Operand.tmp 175), type := 4, pos := "outright.go:82", after := #[{ on := 2, ground := Ground.data }], guard := none }) (v := ?vc6x3) rfl (by kernel_rfl) (by kernel_rfl) (by kernel_rfl) (fun _ _ _ h => h) (Or.inl ⟨by kernel_rfl, ?hc6x3⟩) (by assumption) ?rc6x3
              case hc6x3 => (intro w hSw; (try dsimp only at hSw); go_simp <;> with_reducible rfl)
              try simp only [Act.put, List.setIfInBounds_toArray, List.set_cons_zero, List.set_cons_succ]
              refine wpAnyH_take (i := 4) (oi := { dst := some 177, op := Op.load 24 (Operand.tmp 24), type := 24, pos := "outright.go:82", after := #[{ on := 3, ground := Ground.guard }], guard := some (3, false) }) (v := ?vc6x4) rfl (by kernel_rfl) (by kernel_rfl) (by kernel_rfl) (fun _ _ _ h => h) (Or.inl ⟨by kernel_rfl, ?hc6x4⟩) (by assumption) ?rc6x4
              case hc6x4 => (intro w hSw; (try dsimp only at hSw); go_simp <;> with_reducible rfl)
              try simp only [Act.put, List.setIfInBounds_toArray, List.set_cons_zero, List.set_cons_succ]
              refine wpAnyH_take (i := 5) (oi := { dst := some 178, op := Op.load 24 (Operand.tmp 25), type := 24, pos := "outright.go:82", after := #[{ on := 3, ground := Ground.guard }], guard := some (3, false) }) (v := ?vc6x5) rfl (by kernel_rfl) (by kernel_rfl) (by kernel_rfl) (fun _ _ _ h => h) (Or.inl ⟨by kernel_rfl, ?hc6x5⟩) (by assumption) ?rc6x5
              case hc6x5 => (intro w hSw; (try dsimp only at hSw); go_simp <;> with_reducible rfl)
              try simp only [Act.put, List.setIfInBounds_toArray, List.set_cons_zero, List.set_cons_succ]
              refine wpAnyH_take (i := 6) (oi := { dst := some 179, op := Op.binOp BinOp.neq 24 (Operand.tmp 177) (Operand.tmp 178) 24, type := 4, pos := "outright.go:82", after := #[{ on := 4, ground := Ground.data }, { on := 5, ground := Ground.data }, { on := 3, ground := Ground.guard }], guard := some (3, false) }) (v := ?vc6x6) rfl (by kernel_rfl) (by kernel_rfl) (by kernel_rfl) (fun _ _ _ h => h) (Or.inl ⟨by kernel_rfl, ?hc6x6⟩) (by assumption) ?rc6x6
              case hc6x6 => (intro w hSw; (try dsimp only at hSw); go_simp <;> with_reducible rfl)
              try simp only [Act.put, List.setIfInBounds_toArray, List.set_cons_zero, List.set_cons_succ]
              refine wpAnyH_take (i := 7) (oi := { dst := some 180, op := Op.pick (Operand.tmp 176) (Operand.const (Value.bool true)) (Operand.tmp 179), type := 4, pos := "outright.go:82", after := #[{ on := 3, ground := Ground.data }, { on := 6, ground := Ground.data }], guard := none }) (v := ?vc6x7) rfl (by kernel_rfl) (by kernel_rfl) (by kernel_rfl) (fun _ _ _ h => h) (Or.inl ⟨by kernel_rfl, ?hc6x7⟩) (by assumption) ?rc6x7
              case hc6x7 => (intro w hSw; (try dsimp only at hSw); go_simp <;> with_reducible rfl)
              try simp only [Act.put, List.setIfInBounds_toArray, List.set_cons_zero, List.set_cons_succ]
              refine wpAnyH_take (i := 8) (oi := { dst := some 181, op := Op.move (Operand.tmp 180), type := 4, pos := "outright.go:82", after := #[{ on := 7, ground := Ground.data }, { on := 3, ground := Ground.chain }], guard := none }) (v := ?vc6x8) rfl (by kernel_rfl) (by kernel_rfl) (by kernel_rfl) (fun _ _ _ h => h) (Or.inl ⟨by kernel_rfl, ?hc6x8⟩) (by assumption) ?rc6x8
              case hc6x8 => (intro w hSw; (try dsimp only at hSw); go_simp <;> with_reducible rfl)
              try simp only [Act.put, List.setIfInBounds_toArray, List.set_cons_zero, List.set_cons_succ]
              refine wpAnyH_take (i := 9) (oi := { dst := some 182, op := Op.load 24 (Operand.tmp 24), type := 24, pos := "outright.go:82", after := #[{ on := 8, ground := Ground.guard }], guard := some (8, false) }) (v := ?vc6x9) rfl (by kernel_rfl) (by kernel_rfl) (by kernel_rfl) (fun _ _ _ h => h) (Or.inl ⟨by kernel_rfl, ?hc6x9⟩) (by assumption) ?rc6x9
              case hc6x9 => (intro w hSw; (try dsimp only at hSw); go_simp <;> with_reducible rfl)
              try simp only [Act.put, List.setIfInBounds_toArray, List.set_cons_zero, List.set_cons_succ]
              refine wpAnyH_take (i := 10) (oi := { dst := some 183, op := Op.move (Operand.tmp 3), type := 22, pos := "outright.go:82", after := #[{ on := 8, ground := Ground.guard }], guard := some (8, false) }) (v := ?vc6x10) rfl (by kernel_rfl) (by kernel_rfl) (by kernel_rfl) (fun _ _ _ h => h) (Or.inl ⟨by kernel_rfl, ?hc6x10⟩) (by assumption) ?rc6x10
              case hc6x10 => (intro w hSw; (try dsimp only at hSw); go_simp <;> with_reducible rfl)
              try simp only [Act.put, List.setIfInBounds_toArray, List.set_cons_zero, List.set_cons_succ]
              refine wpAnyH_take (i := 12) (oi := { dst := some 185, op := Op.load 24 (Operand.tmp 9), type := 24, pos := "outright.go:82", after := #[{ on := 8, ground := Ground.guard }], guard := some (8, false) }) (v := ?vc6x12) rfl (by kernel_rfl) (by kernel_rfl) (by kernel_rfl) (fun _ _ _ h => h) (Or.inl ⟨by kernel_rfl, ?hc6x12⟩) (by assumption) ?rc6x12
              case hc6x12 => (intro w hSw; (try dsimp only at hSw); go_simp <;> with_reducible rfl)
              try simp only [Act.put, List.setIfInBounds_toArray, List.set_cons_zero, List.set_cons_succ]
              refine wpAnyH_take (i := 13) (oi := { dst := some 186, op := Op.move (Operand.tmp 3), type := 22, pos := "outright.go:82", after := #[{ on := 8, ground := Ground.guard }], guard := some (8, false) }) (v := ?vc6x13) rfl (by kernel_rfl) (by kernel_rfl) (by kernel_rfl) (fun _ _ _ h => h) (Or.inl ⟨by kernel_rfl, ?hc6x13⟩) (by assumption) ?rc6x13
              case hc6x13 => (intro w hSw; (try dsimp only at hSw); go_simp <;> with_reducible rfl)
              try simp only [Act.put, List.setIfInBounds_toArray, List.set_cons_zero, List.set_cons_succ]
              refine wpAnyH_ready (rs := [11]) (by kernel_rfl) (by simp) ?_
              refine AllReadyH.cons (o := { dst := some 184, op := Op.call { callee := Callee.value (Operand.func 8), args := #[Operand.tmp 182, Operand.tmp 183], argTypes := #[24, 22] }, type := 4, pos := "outright.go:82", after := #[{ on := 9, ground := Ground.data }, { on := 10, ground := Ground.data }, { on := 8, ground := Ground.chain }, { on := 8, ground := Ground.guard }], guard := some (8, false) }) rfl (fun K hK => ?_) AllReadyH.nil
              go_simp
              go_at_call 8; refine (HHg.out _ _ p64 hHeld.1).mono ?_; rintro e w9 ⟨he, hk⟩; rw [hP] at he; subst he
              obtain ⟨p0, p1, p2, p3, p4⟩ := (hk.at (gp, p) (by simp)).c
              obtain ⟨q0, q1, q2, q3, q4⟩ := (hk.at (gq, p) (by simp)).c
              obtain ⟨a0, a1, a2, a3, a4⟩ := (hk.at (ga, a) (by simp)).c
              obtain ⟨b0, b1, b2, b3, b4⟩ := (hk.at (gb, b) (by simp)).c
              clear hHeld
              refine hK.out _ _ ⟨hk, p0, p1, p2, p3, p4, q0, q1, q2, q3, q4, a0, a1, a2, a3, a4, b0, b1, b2, b3, b4⟩ (fun hHeld => ?_)
              clear hK K hk p0 p1 p2 p3 p4 q0 q1 q2 q3 q4 a0 a1 a2 a3 a4 b0 b1 b2 b3 b4
              try simp only [Act.put, List.setIfInBounds_toArray, List.set_cons_zero, List.set_cons_succ]
              refine wpAnyH_ready (rs := [14]) (by kernel_rfl) (by simp) ?_
              refine AllReadyH.cons (o := { dst := some 187, op := Op.call { callee := Callee.value (Operand.func 8), args := #[Operand.tmp 185, Operand.tmp 186], argTypes := #[24, 22] }, type := 4, pos := "outright.go:82", after := #[{ on := 12, ground := Ground.data }, { on := 13, ground := Ground.data }, { on := 11, ground := Ground.chain }, { on := 8, ground := Ground.guard }], guard := some (8, false) }) rfl (fun K hK => ?_) AllReadyH.nil
              go_simp
              go_at_call 8; refine (HHg.out _ _ a64 hHeld.1).mono ?_; rintro e w9 ⟨he, hk⟩; rw [hA] at he; subst he
              obtain ⟨p0, p1, p2, p3, p4⟩ := (hk.at (gp, p) (by simp)).c
              obtain ⟨q0, q1, q2, q3, q4⟩ := (hk.at (gq, p) (by simp)).c
              obtain ⟨a0, a1, a2, a3, a4⟩ := (hk.at (ga, a) (by simp)).c
              obtain ⟨b0, b1, b2, b3, b4⟩ := (hk.at (gb, b) (by simp)).c
              clear hHeld
              refine hK.out _ _ ⟨hk, p0, p1, p2, p3, p4, q0, q1, q2, q3, q4, a0, a1, a2, a3, a4, b0, b1, b2, b3, b4⟩ (fun hHeld => ?_)
              clear hK K hk p0 p1 p2 p3 p4 q0 q1 q2 q3 q4 a0 a1 a2 a3 a4 b0 b1 b2 b3 b4
              try simp only [Act.put, List.setIfInBounds_toArray, List.set_cons_zero, List.set_cons_succ]
              refine wpAnyH_take (i := 15) (oi := { dst := some 188, op := Op.move (Operand.tmp 187), type := 4, pos := "outright.go:82", after := #[{ on := 14, ground := Ground.data }, { on := 14, ground := Ground.chain }, { on := 8, ground := Ground.guard }], guard := some (8, false) }) (v := ?vc6x15) rfl (by kernel_rfl) (by kernel_rfl) (by kernel_rfl) (fun _ _ _ h => h) (Or.inl ⟨by kernel_rfl, ?hc6x15⟩) (by assumption) ?rc6x15
              case hc6x15 => (intro w hSw; (try dsimp only at hSw); go_simp <;> with_reducible rfl)
              try simp only [Act.put, List.setIfInBounds_toArray, List.set_cons_zero, List.set_cons_succ]
              refine wpAnyH_take (i := 16) (oi := { dst := some 189, op := Op.load 24 (Operand.tmp 11), type := 24, pos := "outright.go:82", after := #[{ on := 15, ground := Ground.guard }], guard := some (15, true) }) (v := ?vc6x16) rfl (by kernel_rfl) (by kernel_rfl) (by kernel_rfl) (fun _ _ _ h => h) (Or.inl ⟨by kernel_rfl, ?hc6x16⟩) (by assumption) ?rc6x16
              case hc6x16 => (intro w hSw; (try dsimp only at hSw); go_simp <;> with_reducible rfl)
              try simp only [Act.put, List.setIfInBounds_toArray, List.set_cons_zero, List.set_cons_succ]
              refine wpAnyH_take (i := 17) (oi := { dst := some 190, op := Op.move (Operand.tmp 3), type := 22, pos := "outright.go:82", after := #[{ on := 15, ground := Ground.guard }], guard := some (15, true) }) (v := ?vc6x17) rfl (by kernel_rfl) (by kernel_rfl) (by kernel_rfl) (fun _ _ _ h => h) (Or.inl ⟨by kernel_rfl, ?hc6x17⟩) (by assumption) ?rc6x17
              case hc6x17 => (intro w hSw; (try dsimp only at hSw); go_simp <;> with_reducible rfl)
              try simp only [Act.put, List.setIfInBounds_toArray, List.set_cons_zero, List.set_cons_succ]
              refine wpAnyH_ready (rs := [18]) (by kernel_rfl) (by simp) ?_
              refine AllReadyH.cons (o := { dst := some 191, op := Op.call { callee := Callee.value (Operand.func 8), args := #[Operand.tmp 189, Operand.tmp 190], argTypes := #[24, 22] }, type := 4, pos := "outright.go:82", after := #[{ on := 16, ground := Ground.data }, { on := 17, ground := Ground.data }, { on := 15, ground := Ground.chain }, { on := 15, ground := Ground.guard }], guard := some (15, true) }) rfl (fun K hK => ?_) AllReadyH.nil
              go_simp
              go_at_call 8; refine (HHg.out _ _ b64 hHeld.1).mono ?_; rintro e w9 ⟨he, hk⟩; rw [hB] at he; subst he
              obtain ⟨p0, p1, p2, p3, p4⟩ := (hk.at (gp, p) (by simp)).c
              obtain ⟨q0, q1, q2, q3, q4⟩ := (hk.at (gq, p) (by simp)).c
              obtain ⟨a0, a1, a2, a3, a4⟩ := (hk.at (ga, a) (by simp)).c
              obtain ⟨b0, b1, b2, b3, b4⟩ := (hk.at (gb, b) (by simp)).c
              clear hHeld
              refine hK.out _ _ ⟨hk, p0, p1, p2, p3, p4, q0, q1, q2, q3, q4, a0, a1, a2, a3, a4, b0, b1, b2, b3, b4⟩ (fun hHeld => ?_)
              clear hK K hk p0 p1 p2 p3 p4 q0 q1 q2 q3 q4 a0 a1 a2 a3 a4 b0 b1 b2 b3 b4
              try simp only [Act.put, List.setIfInBounds_toArray, List.set_cons_zero, List.set_cons_succ]
              refine wpAnyH_take (i := 19) (oi := { dst := some 192, op := Op.pick (Operand.tmp 188) (Operand.tmp 191) (Operand.const (Value.bool false)), type := 4, pos := "outright.go:82", after := #[{ on := 15, ground := Ground.data }, { on := 18, ground := Ground.data }, { on := 8, ground := Ground.guard }], guard := some (8, false) }) (v := ?vc6x19) rfl (by kernel_rfl) (by kernel_rfl) (by kernel_rfl) (fun _ _ _ h => h) (Or.inl ⟨by kernel_rfl, ?hc6x19⟩) (by assumption) ?rc6x19
              case hc6x19 => (intro w hSw; (try dsimp only at hSw); go_simp <;> with_reducible rfl)
              try simp only [Act.put, List.setIfInBounds_toArray, List.set_cons_zero, List.set_cons_succ]
              refine wpAnyH_take (i := 20) (oi := { dst := some 193, op := Op.binOp BinOp.neq 4 (Operand.tmp 184) (Operand.tmp 192) 4, type := 4, pos := "outright.go:82", after := #[{ on := 11, ground := Ground.data }, { on := 19, ground := Ground.data }, { on := 8, ground := Ground.guard }], guard := some (8, false) }) (v := ?vc6x20) rfl (by kernel_rfl) (by kernel_rfl) (by kernel_rfl) (fun _ _ _ h => h) (Or.inl ⟨by kernel_rfl, ?hc6x20⟩) (by assumption) ?rc6x20
              case hc6x20 => (intro w hSw; (try dsimp only at hSw); go_simp <;> with_reducible rfl)
              try simp only [Act.put, List.setIfInBounds_toArray, List.set_cons_zero, List.set_cons_succ]
              refine wpAnyH_take (i := 21) (oi := { dst := some 194, op := Op.move (Operand.tmp 193), type := 4, pos := "outright.go:82", after := #[{ on := 20, ground := Ground.data }, { on := 18, ground := Ground.chain }, { on := 8, ground := Ground.guard }], guard := some (8, false) }) (v := ?vc6x21) rfl (by kernel_rfl) (by kernel_rfl) (by kernel_rfl) (fun _ _ _ h => h) (Or.inl ⟨by kernel_rfl, ?hc6x21⟩) (by assumption) ?rc6x21
              case hc6x21 => (intro w hSw; (try dsimp only at hSw); go_simp <;> with_reducible rfl)
              try simp only [Act.put, List.setIfInBounds_toArray, List.set_cons_zero, List.set_cons_succ]
              refine wpAnyH_take (i := 22) (oi := { dst := some 195, op := Op.move (Operand.tmp 16), type := 28, pos := "outright.go:82", after := #[{ on := 21, ground := Ground.guard }], guard := some (21, true) }) (v := undef) rfl (by kernel_rfl) (by kernel_rfl) (by kernel_rfl) (fun _ _ _ h => h) (Or.inr ⟨by kernel_rfl, rfl⟩) (by assumption) ?rc6x22
              try simp only [Act.put, List.setIfInBounds_toArray, List.set_cons_zero, List.set_cons_succ]
              refine wpAnyH_take (i := 23) (oi := { dst := some 196, op := Op.call { callee := Callee.value (Operand.func 7), args := #[Operand.tmp 195], argTypes := #[28] }, type := 3, pos := "outright.go:82", after := #[{ on := 22, ground := Ground.data }, { on := 21, ground := Ground.chain }, { on := 21, ground := Ground.guard }], guard := some (21, true) }) (v := undef) rfl (by kernel_rfl) (by kernel_rfl) (by kernel_rfl) (fun _ _ _ h => h) (Or.inr ⟨by kernel_rfl, rfl⟩) (by assumption) ?rc6x23
              try simp only [Act.put, List.setIfInBounds_toArray, List.set_cons_zero, List.set_cons_succ]
              refine wpAnyH_take (i := 24) (oi := { dst := some 197, op := Op.binOp BinOp.eql 3 (Operand.tmp 196) (Operand.const (Value.int IntKind.i64 0)) 3, type := 4, pos := "outright.go:82", after := #[{ on := 23, ground := Ground.data }, { on := 21, ground := Ground.guard }], guard := some (21, true) }) (v := undef) rfl (by kernel_rfl) (by kernel_rfl) (by kernel_rfl) (fun _ _ _ h => h) (Or.inr ⟨by kernel_rfl, rfl⟩) (by assumption) ?rc6x24
              try simp only [Act.put, List.setIfInBounds_toArray, List.set_cons_zero, List.set_cons_succ]
              refine wpAnyH_take (i := 25) (oi := { dst := some 198, op := Op.pick (Operand.tmp 194) (Operand.tmp 197) (Operand.const (Value.bool false)), type := 4, pos := "outright.go:82", after := #[{ on := 21, ground := Ground.data }, { on := 24, ground := Ground.data }, { on := 8, ground := Ground.guard }], guard := some (8, false) }) (v := ?vc6x25) rfl (by kernel_rfl) (by kernel_rfl) (by kernel_rfl) (fun _ _ _ h => h) (Or.inl ⟨by kernel_rfl, ?hc6x25⟩) (by assumption) ?rc6x25
              case hc6x25 => (intro w hSw; (try dsimp only at hSw); go_simp <;> with_reducible rfl)
              try simp only [Act.put, List.setIfInBounds_toArray, List.set_cons_zero, List.set_cons_succ]
              refine wpAnyH_take (i := 26) (oi := { dst := some 199, op := Op.pick (Operand.tmp 181) (Operand.const (Value.bool true)) (Operand.tmp 198), type := 4, pos := "outright.go:82", after := #[{ on := 8, ground := Ground.data }, { on := 25, ground := Ground.data }], guard := none }) (v := ?vc6x26) rfl (by kernel_rfl) (by kernel_rfl) (by kernel_rfl) (fun _ _ _ h => h) (Or.inl ⟨by kernel_rfl, ?hc6x26⟩) (by assumption) ?rc6x26
              case hc6x26 => (intro w hSw; (try dsimp only at hSw); go_simp <;> with_reducible rfl)
              try simp only [Act.put, List.setIfInBounds_toArray, List.set_cons_zero, List.set_cons_succ]
              refine wpAnyH_take (i := 27) (oi := { dst := some 200, op := Op.move (Operand.tmp 199), type := 4, pos := "outright.go:82", after := #[{ on := 26, ground := Ground.data }, { on := 23, ground := Ground.chain }], guard := none }) (v := ?vc6x27) rfl (by kernel_rfl) (by kernel_rfl) (by kernel_rfl) (fun _ _ _ h => h) (Or.inl ⟨by kernel_rfl, ?hc6x27⟩) (by assumption) ?rc6x27
              case hc6x27 => (intro w hSw; (try dsimp only at hSw); go_simp <;> with_reducible rfl)
              try simp only [Act.put, List.setIfInBounds_toArray, List.set_cons_zero, List.set_cons_succ]
              refine wpAnyH_take (i := 28) (oi := { dst := some 201, op := Op.move (Operand.tmp 16), type := 28, pos := "outright.go:82", after := #[{ on := 27, ground := Ground.guard }], guard := some (27, false) }) (v := ?vc6x28) rfl (by kernel_rfl) (by kernel_rfl) (by kernel_rfl) (fun _ _ _ h => h) (Or.inl ⟨by kernel_rfl, ?hc6x28⟩) (by assumption) ?rc6x28
              case hc6x28 => (intro w hSw; (try dsimp only at hSw); go_simp <;> with_reducible rfl)
              try simp only [Act.put, List.setIfInBounds_toArray, List.set_cons_zero, List.set_cons_succ]
              refine wpAnyH_ready (rs := [29]) (by kernel_rfl) (by simp) ?_
              refine AllReadyH.cons (o := { dst := some 202, op := Op.call { callee := Callee.value (Operand.func 7), args := #[Operand.tmp 201], argTypes := #[28] }, type := 3, pos := "outright.go:82", after := #[{ on := 28, ground := Ground.data }, { on := 27, ground := Ground.chain }, { on := 27, ground := Ground.guard }], guard := some (27, false) }) rfl (fun K hK => ?_) AllReadyH.nil
              go_simp
              go_at_call 7; refine (HN.out _ _).mono ?_; rintro e w9 ⟨rfl, hw⟩; obtain rfl := hw.symm
              refine hK.out _ _ hHeld (fun _ => ?_)
              clear hK K
              try simp only [Act.put, List.setIfInBounds_toArray, List.set_cons_zero, List.set_cons_succ]
              refine wpAnyH_take (i := 30) (oi := { dst := some 203, op := Op.binOp BinOp.neq 3 (Operand.tmp 202) (Operand.const (Value.int IntKind.i64 0)) 3, type := 4, pos := "outright.go:82", after := #[{ on := 29, ground := Ground.data }, { on := 27, ground := Ground.guard }], guard := some (27, false) }) (v := ?vc6x30) rfl (by kernel_rfl) (by kernel_rfl) (by kernel_rfl) (fun _ _ _ h => h) (Or.inl ⟨by kernel_rfl, ?hc6x30⟩) (by assumption) ?rc6x30
              case hc6x30 => (intro w hSw; (try dsimp only at hSw); go_simp <;> with_reducible rfl)
              try simp only [Act.put, List.setIfInBounds_toArray, List.set_cons_zero, List.set_cons_succ]
              refine wpAnyH_take (i := 31) (oi := { dst := some 204, op := Op.move (Operand.tmp 203), type := 4, pos := "outright.go:82", after := #[{ on := 30, ground := Ground.data }, { on := 29, ground := Ground.chain }, { on := 27, ground := Ground.guard }], guard := some (27, false) }) (v := ?vc6x31) rfl (by kernel_rfl) (by kernel_rfl) (by kernel_rfl) (fun _ _ _ h => h) (Or.inl ⟨by kernel_rfl, ?hc6x31⟩) (by assumption) ?rc6x31
              case hc6x31 => (intro w hSw; (try dsimp only at hSw); go_simp <;> with_reducible rfl)
              try simp only [Act.put, List.setIfInBounds_toArray, List.set_cons_zero, List.set_cons_succ]
              refine wpAnyH_take (i := 32) (oi := { dst := some 205, op := Op.load 24 (Operand.tmp 9), type := 24, pos := "outright.go:82", after := #[{ on := 31, ground := Ground.guard }], guard := some (31, true) }) (v := ?vc6x32) rfl (by kernel_rfl) (by kernel_rfl) (by kernel_rfl) (fun _ _ _ h => h) (Or.inl ⟨by kernel_rfl, ?hc6x32⟩) (by assumption) ?rc6x32
              case hc6x32 => (intro w hSw; (try dsimp only at hSw); go_simp <;> with_reducible rfl)
              try simp only [Act.put, List.setIfInBounds_toArray, List.set_cons_zero, List.set_cons_succ]
              refine wpAnyH_take (i := 33) (oi := { dst := some 206, op := Op.move (Operand.tmp 3), type := 22, pos := "outright.go:82", after := #[{ on := 31, ground := Ground.guard }], guard := some (31, true) }) (v := ?vc6x33) rfl (by kernel_rfl) (by kernel_rfl) (by kernel_rfl) (fun _ _ _ h => h) (Or.inl ⟨by kernel_rfl, ?hc6x33⟩) (by assumption) ?rc6x33
              case hc6x33 => (intro w hSw; (try dsimp only at hSw); go_simp <;> with_reducible rfl)
              try simp only [Act.put, List.setIfInBounds_toArray, List.set_cons_zero, List.set_cons_succ]
              refine wpAnyH_ready (rs := [34]) (by kernel_rfl) (by simp) ?_
              refine AllReadyH.cons (o := { dst := some 207, op := Op.call { callee := Callee.value (Operand.func 8), args := #[Operand.tmp 205, Operand.tmp 206], argTypes := #[24, 22] }, type := 4, pos := "outright.go:82", after := #[{ on := 32, ground := Ground.data }, { on := 33, ground := Ground.data }, { on := 31, ground := Ground.chain }, { on := 31, ground := Ground.guard }], guard := some (31, true) }) rfl (fun K hK => ?_) AllReadyH.nil
              go_simp
              go_at_call 8; refine (HHg.out _ _ a64 hHeld.1).mono ?_; rintro e w9 ⟨he, hk⟩; rw [hA] at he; subst he
              obtain ⟨p0, p1, p2, p3, p4⟩ := (hk.at (gp, p) (by simp)).c
              obtain ⟨q0, q1, q2, q3, q4⟩ := (hk.at (gq, p) (by simp)).c
              obtain ⟨a0, a1, a2, a3, a4⟩ := (hk.at (ga, a) (by simp)).c
              obtain ⟨b0, b1, b2, b3, b4⟩ := (hk.at (gb, b) (by simp)).c
              clear hHeld
              refine hK.out _ _ ⟨hk, p0, p1, p2, p3, p4, q0, q1, q2, q3, q4, a0, a1, a2, a3, a4, b0, b1, b2, b3, b4⟩ (fun hHeld => ?_)
              clear hK K hk p0 p1 p2 p3 p4 q0 q1 q2 q3 q4 a0 a1 a2 a3 a4 b0 b1 b2 b3 b4
              try simp only [Act.put, List.setIfInBounds_toArray, List.set_cons_zero, List.set_cons_succ]
              refine wpAnyH_take (i := 35) (oi := { dst := some 208, op := Op.pick (Operand.tmp 204) (Operand.tmp 207) (Operand.const (Value.bool false)), type := 4, pos := "outright.go:82", after := #[{ on := 31, ground := Ground.data }, { on := 34, ground := Ground.data }, { on := 27, ground := Ground.guard }], guard := some (27, false) }) (v := ?vc6x35) rfl (by kernel_rfl) (by kernel_rfl) (by kernel_rfl) (fun _ _ _ h => h) (Or.inl ⟨by kernel_rfl, ?hc6x35⟩) (by assumption) ?rc6x35
              case hc6x35 => (intro w hSw; (try dsimp only at hSw); go_simp <;> with_reducible rfl)
              try simp only [Act.put, List.setIfInBounds_toArray, List.set_cons_zero, List.set_cons_succ]
              refine wpAnyH_take (i := 36) (oi := { dst := some 209, op := Op.move (Operand.tmp 208), type := 4, pos := "outright.go:82", after := #[{ on := 35, ground := Ground.data }, { on := 34, ground := Ground.chain }, { on := 27, ground := Ground.guard }], guard := some (27, false) }) (v := ?vc6x36) rfl (by kernel_rfl) (by kernel_rfl) (by kernel_rfl) (fun _ _ _ h => h) (Or.inl ⟨by kernel_rfl, ?hc6x36⟩) (by assumption) ?rc6x36
              case hc6x36 => (intro w hSw; (try dsimp only at hSw); go_simp <;> with_reducible rfl)
              try simp only [Act.put, List.setIfInBounds_toArray, List.set_cons_zero, List.set_cons_succ]
              refine wpAnyH_take (i := 37) (oi := { dst := some 210, op := Op.load 24 (Operand.tmp 11), type := 24, pos := "outright.go:82", after := #[{ on := 36, ground := Ground.guard }], guard := some (36, true) }) (v := ?vc6x37) rfl (by kernel_rfl) (by kernel_rfl) (by kernel_rfl) (fun _ _ _ h => h) (Or.inl ⟨by kernel_rfl, ?hc6x37⟩) (by assumption) ?rc6x37
              case hc6x37 => (intro w hSw; (try dsimp only at hSw); go_simp <;> with_reducible rfl)
              try simp only [Act.put, List.setIfInBounds_toArray, List.set_cons_zero, List.set_cons_succ]
              refine wpAnyH_take (i := 38) (oi := { dst := some 211, op := Op.move (Operand.tmp 3), type := 22, pos := "outright.go:82", after := #[{ on := 36, ground := Ground.guard }], guard := some (36, true) }) (v := ?vc6x38) rfl (by kernel_rfl) (by kernel_rfl) (by kernel_rfl) (fun _ _ _ h => h) (Or.inl ⟨by kernel_rfl, ?hc6x38⟩) (by assumption) ?rc6x38
              case hc6x38 => (intro w hSw; (try dsimp only at hSw); go_simp <;> with_reducible rfl)
              try simp only [Act.put, List.setIfInBounds_toArray, List.set_cons_zero, List.set_cons_succ]
              refine wpAnyH_ready (rs := [39]) (by kernel_rfl) (by simp) ?_
              refine AllReadyH.cons (o := { dst := some 212, op := Op.call { callee := Callee.value (Operand.func 8), args := #[Operand.tmp 210, Operand.tmp 211], argTypes := #[24, 22] }, type := 4, pos := "outright.go:82", after := #[{ on := 37, ground := Ground.data }, { on := 38, ground := Ground.data }, { on := 36, ground := Ground.chain }, { on := 36, ground := Ground.guard }], guard := some (36, true) }) rfl (fun K hK => ?_) AllReadyH.nil
              go_simp
              go_at_call 8; refine (HHg.out _ _ b64 hHeld.1).mono ?_; rintro e w9 ⟨he, hk⟩; rw [hB] at he; subst he
              obtain ⟨p0, p1, p2, p3, p4⟩ := (hk.at (gp, p) (by simp)).c
              obtain ⟨q0, q1, q2, q3, q4⟩ := (hk.at (gq, p) (by simp)).c
              obtain ⟨a0, a1, a2, a3, a4⟩ := (hk.at (ga, a) (by simp)).c
              obtain ⟨b0, b1, b2, b3, b4⟩ := (hk.at (gb, b) (by simp)).c
              clear hHeld
              refine hK.out _ _ ⟨hk, p0, p1, p2, p3, p4, q0, q1, q2, q3, q4, a0, a1, a2, a3, a4, b0, b1, b2, b3, b4⟩ (fun hHeld => ?_)
              clear hK K hk p0 p1 p2 p3 p4 q0 q1 q2 q3 q4 a0 a1 a2 a3 a4 b0 b1 b2 b3 b4
              try simp only [Act.put, List.setIfInBounds_toArray, List.set_cons_zero, List.set_cons_succ]
              refine wpAnyH_take (i := 40) (oi := { dst := some 213, op := Op.pick (Operand.tmp 209) (Operand.tmp 212) (Operand.const (Value.bool false)), type := 4, pos := "outright.go:82", after := #[{ on := 36, ground := Ground.data }, { on := 39, ground := Ground.data }, { on := 27, ground := Ground.guard }], guard := some (27, false) }) (v := ?vc6x40) rfl (by kernel_rfl) (by kernel_rfl) (by kernel_rfl) (fun _ _ _ h => h) (Or.inl ⟨by kernel_rfl, ?hc6x40⟩) (by assumption) ?rc6x40
              case hc6x40 => (intro w hSw; (try dsimp only at hSw); go_simp <;> with_reducible rfl)
              try simp only [Act.put, List.setIfInBounds_toArray, List.set_cons_zero, List.set_cons_succ]
              refine wpAnyH_take (i := 41) (oi := { dst := some 214, op := Op.pick (Operand.tmp 200) (Operand.const (Value.bool true)) (Operand.tmp 213), type := 4, pos := "outright.go:82", after := #[{ on := 27, ground := Ground.data }, { on := 40, ground := Ground.data }], guard := none }) (v := ?vc6x41) rfl (by kernel_rfl) (by kernel_rfl) (by kernel_rfl) (fun _ _ _ h => h) (Or.inl ⟨by kernel_rfl, ?hc6x41⟩) (by assumption) ?rc6x41
              case hc6x41 => (intro w hSw; (try dsimp only at hSw); go_simp <;> with_reducible rfl)
              try simp only [Act.put, List.setIfInBounds_toArray, List.set_cons_zero, List.set_cons_succ]
              refine wpAnyH_done (by kernel_rfl) ?_ _
              try go_wp2_with fail
              go_meet
              exact ⟨rfl, hHeld.1⟩
          · skip
            as_aux_lemma =>
              try go_wp2_with fail
              refine wp_region_held_drew (S := (fun W => KL w [(gq, p), (gp, p), (go, l0), (gm, m0), (gl, l0), (gs, a), (gk, j), (gj, j), (gc, c), (gb, b), (ga, a), (w.heap.size, f), (w.heap.size + 1, g), (w.heap.size + 1 + 1, h)] W ∧ W.cell? ⟨gp, 0, none⟩ = some (.int .i64 p.w) ∧ W.cell? ⟨gp, 1, none⟩ = some (uV p.one) ∧ W.cell? ⟨gp, 2, none⟩ = some (uV p.zero) ∧ W.cell? ⟨gp, 3, none⟩ = some (uV p.least) ∧ W.cell? ⟨gp, 4, none⟩ = some (uV p.top) ∧ W.cell? ⟨gq, 0, none⟩ = some (.int .i64 p.w) ∧ W.cell? ⟨gq, 1, none⟩ = some (uV p.one) ∧ W.cell? ⟨gq, 2, none⟩ = some (uV p.zero) ∧ W.cell? ⟨gq, 3, none⟩ = some (uV p.least) ∧ W.cell? ⟨gq, 4, none⟩ = some (uV p.top) ∧ W.cell? ⟨ga, 0, none⟩ = some (.int .i64 a.w) ∧ W.cell? ⟨ga, 1, none⟩ = some (uV a.one) ∧ W.cell? ⟨ga, 2, none⟩ = some (uV a.zero) ∧ W.cell? ⟨ga, 3, none⟩ = some (uV a.least) ∧ W.cell? ⟨ga, 4, none⟩ = some (uV a.top) ∧ W.cell? ⟨gb, 0, none⟩ = some (.int .i64 b.w) ∧ W.cell? ⟨gb, 1, none⟩ = some (uV b.one) ∧ W.cell? ⟨gb, 2, none⟩ = some (uV b.zero) ∧ W.cell? ⟨gb, 3, none⟩ = some (uV b.least) ∧ W.cell? ⟨gb, 4, none⟩ = some (uV b.top))) (by kernel_rfl) ?_ (fun hHeld => ?_)
              · refine ⟨K1, ?_, ?_, ?_, ?_, ?_, ?_, ?_, ?_, ?_, ?_, ?_, ?_, ?_, ?_, ?_, ?_, ?_, ?_, ?_, ?_⟩ <;> go_keep
              clear K0 K1
              refine wpAnyH_take (i := 0) (oi := { dst := some 173, op := Op.move (Operand.tmp 16), type := 28, pos := "outright.go:82", after := #[], guard := none }) (v := ?vc7x0) rfl (by kernel_rfl) (by kernel_rfl) (by kernel_rfl) (fun _ _ _ h => h) (Or.inl ⟨by kernel_rfl, ?hc7x0⟩) (by assumption) ?rc7x0
              case hc7x0 => (intro w hSw; (try dsimp only at hSw); go_simp <;> with_reducible rfl)
              try simp only [Act.put, List.setIfInBounds_toArray, List.set_cons_zero, List.set_cons_succ]
              refine wpAnyH_take (i := 1) (oi := { dst := some 174, op := Op.move (Operand.tmp 18), type := 28, pos := "outright.go:82", after := #[], guard := none }) (v := ?vc7x1) rfl (by kernel_rfl) (by kernel_rfl) (by kernel_rfl) (fun _ _ _ h => h) (Or.inl ⟨by kernel_rfl, ?hc7x1⟩) (by assumption) ?rc7x1
              case hc7x1 => (intro w hSw; (try dsimp only at hSw); go_simp <;> with_reducible rfl)
              try simp only [Act.put, List.setIfInBounds_toArray, List.set_cons_zero, List.set_cons_succ]
              refine wpAnyH_take (i := 2) (oi := { dst := some 175, op := Op.binOp BinOp.neq 28 (Operand.tmp 173) (Operand.tmp 174) 28, type := 4, pos := "outright.go:82", after := #[{ on := 0, ground := Ground.data }, { on := 1, ground := Ground.data }], guard := none }) (v := ?vc7x2) rfl (by kernel_rfl) (by kernel_rfl) (by kernel_rfl) (fun _ _ _ h => h) (Or.inl ⟨by kernel_rfl, ?hc7x2⟩) (by assumption) ?rc7x2
              case hc7x2 => (intro w hSw; (try dsimp only at hSw); go_simp <;> with_reducible rfl)
              try simp only [Act.put, List.setIfInBounds_toArray, List.set_cons_zero, List.set_cons_succ]
              refine wpAnyH_take (i := 3) (oi := { dst := some 176, op := Op.move (Operand.tmp 175), type := 4, pos := "outright.go:82", after := #[{ on := 2, ground := Ground.data }], guard := none }) (v := ?vc7x3) rfl (by kernel_rfl) (by kernel_rfl) (by kernel_rfl) (fun _ _ _ h => h) (Or.inl ⟨by kernel_rfl, ?hc7x3⟩) (by assumption) ?rc7x3
              case hc7x3 => (intro w hSw; (try dsimp only at hSw); go_simp <;> with_reducible rfl)
              try simp only [Act.put, List.setIfInBounds_toArray, List.set_cons_zero, List.set_cons_succ]
              refine wpAnyH_take (i := 4) (oi := { dst := some 177, op := Op.load 24 (Operand.tmp 24), type := 24, pos := "outright.go:82", after := #[{ on := 3, ground := Ground.guard }], guard := some (3, false) }) (v := ?vc7x4) rfl (by kernel_rfl) (by kernel_rfl) (by kernel_rfl) (fun _ _ _ h => h) (Or.inl ⟨by kernel_rfl, ?hc7x4⟩) (by assumption) ?rc7x4
              case hc7x4 => (intro w hSw; (try dsimp only at hSw); go_simp <;> with_reducible rfl)
              try simp only [Act.put, List.setIfInBounds_toArray, List.set_cons_zero, List.set_cons_succ]
              refine wpAnyH_take (i := 5) (oi := { dst := some 178, op := Op.load 24 (Operand.tmp 25), type := 24, pos := "outright.go:82", after := #[{ on := 3, ground := Ground.guard }], guard := some (3, false) }) (v := ?vc7x5) rfl (by kernel_rfl) (by kernel_rfl) (by kernel_rfl) (fun _ _ _ h => h) (Or.inl ⟨by kernel_rfl, ?hc7x5⟩) (by assumption) ?rc7x5
              case hc7x5 => (intro w hSw; (try dsimp only at hSw); go_simp <;> with_reducible rfl)
              try simp only [Act.put, List.setIfInBounds_toArray, List.set_cons_zero, List.set_cons_succ]
              refine wpAnyH_take (i := 6) (oi := { dst := some 179, op := Op.binOp BinOp.neq 24 (Operand.tmp 177) (Operand.tmp 178) 24, type := 4, pos := "outright.go:82", after := #[{ on := 4, ground := Ground.data }, { on := 5, ground := Ground.data }, { on := 3, ground := Ground.guard }], guard := some (3, false) }) (v := ?vc7x6) rfl (by kernel_rfl) (by kernel_rfl) (by kernel_rfl) (fun _ _ _ h => h) (Or.inl ⟨by kernel_rfl, ?hc7x6⟩) (by assumption) ?rc7x6
              case hc7x6 => (intro w hSw; (try dsimp only at hSw); go_simp <;> with_reducible rfl)
              try simp only [Act.put, List.setIfInBounds_toArray, List.set_cons_zero, List.set_cons_succ]
              refine wpAnyH_take (i := 7) (oi := { dst := some 180, op := Op.pick (Operand.tmp 176) (Operand.const (Value.bool true)) (Operand.tmp 179), type := 4, pos := "outright.go:82", after := #[{ on := 3, ground := Ground.data }, { on := 6, ground := Ground.data }], guard := none }) (v := ?vc7x7) rfl (by kernel_rfl) (by kernel_rfl) (by kernel_rfl) (fun _ _ _ h => h) (Or.inl ⟨by kernel_rfl, ?hc7x7⟩) (by assumption) ?rc7x7
              case hc7x7 => (intro w hSw; (try dsimp only at hSw); go_simp <;> with_reducible rfl)
              try simp only [Act.put, List.setIfInBounds_toArray, List.set_cons_zero, List.set_cons_succ]
              refine wpAnyH_take (i := 8) (oi := { dst := some 181, op := Op.move (Operand.tmp 180), type := 4, pos := "outright.go:82", after := #[{ on := 7, ground := Ground.data }, { on := 3, ground := Ground.chain }], guard := none }) (v := ?vc7x8) rfl (by kernel_rfl) (by kernel_rfl) (by kernel_rfl) (fun _ _ _ h => h) (Or.inl ⟨by kernel_rfl, ?hc7x8⟩) (by assumption) ?rc7x8
              case hc7x8 => (intro w hSw; (try dsimp only at hSw); go_simp <;> with_reducible rfl)
              try simp only [Act.put, List.setIfInBounds_toArray, List.set_cons_zero, List.set_cons_succ]
              refine wpAnyH_take (i := 9) (oi := { dst := some 182, op := Op.load 24 (Operand.tmp 24), type := 24, pos := "outright.go:82", after := #[{ on := 8, ground := Ground.guard }], guard := some (8, false) }) (v := ?vc7x9) rfl (by kernel_rfl) (by kernel_rfl) (by kernel_rfl) (fun _ _ _ h => h) (Or.inl ⟨by kernel_rfl, ?hc7x9⟩) (by assumption) ?rc7x9
              case hc7x9 => (intro w hSw; (try dsimp only at hSw); go_simp <;> with_reducible rfl)
              try simp only [Act.put, List.setIfInBounds_toArray, List.set_cons_zero, List.set_cons_succ]
              refine wpAnyH_take (i := 10) (oi := { dst := some 183, op := Op.move (Operand.tmp 3), type := 22, pos := "outright.go:82", after := #[{ on := 8, ground := Ground.guard }], guard := some (8, false) }) (v := ?vc7x10) rfl (by kernel_rfl) (by kernel_rfl) (by kernel_rfl) (fun _ _ _ h => h) (Or.inl ⟨by kernel_rfl, ?hc7x10⟩) (by assumption) ?rc7x10
              case hc7x10 => (intro w hSw; (try dsimp only at hSw); go_simp <;> with_reducible rfl)
              try simp only [Act.put, List.setIfInBounds_toArray, List.set_cons_zero, List.set_cons_succ]
              refine wpAnyH_take (i := 12) (oi := { dst := some 185, op := Op.load 24 (Operand.tmp 9), type := 24, pos := "outright.go:82", after := #[{ on := 8, ground := Ground.guard }], guard := some (8, false) }) (v := ?vc7x12) rfl (by kernel_rfl) (by kernel_rfl) (by kernel_rfl) (fun _ _ _ h => h) (Or.inl ⟨by kernel_rfl, ?hc7x12⟩) (by assumption) ?rc7x12
              case hc7x12 => (intro w hSw; (try dsimp only at hSw); go_simp <;> with_reducible rfl)
              try simp only [Act.put, List.setIfInBounds_toArray, List.set_cons_zero, List.set_cons_succ]
              refine wpAnyH_take (i := 13) (oi := { dst := some 186, op := Op.move (Operand.tmp 3), type := 22, pos := "outright.go:82", after := #[{ on := 8, ground := Ground.guard }], guard := some (8, false) }) (v := ?vc7x13) rfl (by kernel_rfl) (by kernel_rfl) (by kernel_rfl) (fun _ _ _ h => h) (Or.inl ⟨by kernel_rfl, ?hc7x13⟩) (by assumption) ?rc7x13
              case hc7x13 => (intro w hSw; (try dsimp only at hSw); go_simp <;> with_reducible rfl)
              try simp only [Act.put, List.setIfInBounds_toArray, List.set_cons_zero, List.set_cons_succ]
              refine wpAnyH_ready (rs := [11]) (by kernel_rfl) (by simp) ?_
              refine AllReadyH.cons (o := { dst := some 184, op := Op.call { callee := Callee.value (Operand.func 8), args := #[Operand.tmp 182, Operand.tmp 183], argTypes := #[24, 22] }, type := 4, pos := "outright.go:82", after := #[{ on := 9, ground := Ground.data }, { on := 10, ground := Ground.data }, { on := 8, ground := Ground.chain }, { on := 8, ground := Ground.guard }], guard := some (8, false) }) rfl (fun K hK => ?_) AllReadyH.nil
              go_simp
              go_at_call 8; refine (HHg.out _ _ p64 hHeld.1).mono ?_; rintro e w9 ⟨he, hk⟩; rw [hP] at he; subst he
              obtain ⟨p0, p1, p2, p3, p4⟩ := (hk.at (gp, p) (by simp)).c
              obtain ⟨q0, q1, q2, q3, q4⟩ := (hk.at (gq, p) (by simp)).c
              obtain ⟨a0, a1, a2, a3, a4⟩ := (hk.at (ga, a) (by simp)).c
              obtain ⟨b0, b1, b2, b3, b4⟩ := (hk.at (gb, b) (by simp)).c
              clear hHeld
              refine hK.out _ _ ⟨hk, p0, p1, p2, p3, p4, q0, q1, q2, q3, q4, a0, a1, a2, a3, a4, b0, b1, b2, b3, b4⟩ (fun hHeld => ?_)
              clear hK K hk p0 p1 p2 p3 p4 q0 q1 q2 q3 q4 a0 a1 a2 a3 a4 b0 b1 b2 b3 b4
              try simp only [Act.put, List.setIfInBounds_toArray, List.set_cons_zero, List.set_cons_succ]
              refine wpAnyH_ready (rs := [14]) (by kernel_rfl) (by simp) ?_
              refine AllReadyH.cons (o := { dst := some 187, op := Op.call { callee := Callee.value (Operand.func 8), args := #[Operand.tmp 185, Operand.tmp 186], argTypes := #[24, 22] }, type := 4, pos := "outright.go:82", after := #[{ on := 12, ground := Ground.data }, { on := 13, ground := Ground.data }, { on := 11, ground := Ground.chain }, { on := 8, ground := Ground.guard }], guard := some (8, false) }) rfl (fun K hK => ?_) AllReadyH.nil
              go_simp
              go_at_call 8; refine (HHg.out _ _ a64 hHeld.1).mono ?_; rintro e w9 ⟨he, hk⟩; rw [hA] at he; subst he
              obtain ⟨p0, p1, p2, p3, p4⟩ := (hk.at (gp, p) (by simp)).c
              obtain ⟨q0, q1, q2, q3, q4⟩ := (hk.at (gq, p) (by simp)).c
              obtain ⟨a0, a1, a2, a3, a4⟩ := (hk.at (ga, a) (by simp)).c
              obtain ⟨b0, b1, b2, b3, b4⟩ := (hk.at (gb, b) (by simp)).c
              clear hHeld
              refine hK.out _ _ ⟨hk, p0, p1, p2, p3, p4, q0, q1, q2, q3, q4, a0, a1, a2, a3, a4, b0, b1, b2, b3, b4⟩ (fun hHeld => ?_)
              clear hK K hk p0 p1 p2 p3 p4 q0 q1 q2 q3 q4 a0 a1 a2 a3 a4 b0 b1 b2 b3 b4
              try simp only [Act.put, List.setIfInBounds_toArray, List.set_cons_zero, List.set_cons_succ]
              refine wpAnyH_take (i := 15) (oi := { dst := some 188, op := Op.move (Operand.tmp 187), type := 4, pos := "outright.go:82", after := #[{ on := 14, ground := Ground.data }, { on := 14, ground := Ground.chain }, { on := 8, ground := Ground.guard }], guard := some (8, false) }) (v := ?vc7x15) rfl (by kernel_rfl) (by kernel_rfl) (by kernel_rfl) (fun _ _ _ h => h) (Or.inl ⟨by kernel_rfl, ?hc7x15⟩) (by assumption) ?rc7x15
              case hc7x15 => (intro w hSw; (try dsimp only at hSw); go_simp <;> with_reducible rfl)
              try simp only [Act.put, List.setIfInBounds_toArray, List.set_cons_zero, List.set_cons_succ]
              refine wpAnyH_take (i := 16) (oi := { dst := some 189, op := Op.load 24 (Operand.tmp 11), type := 24, pos := "outright.go:82", after := #[{ on := 15, ground := Ground.guard }], guard := some (15, true) }) (v := ?vc7x16) rfl (by kernel_rfl) (by kernel_rfl) (by kernel_rfl) (fun _ _ _ h => h) (Or.inl ⟨by kernel_rfl, ?hc7x16⟩) (by assumption) ?rc7x16
              case hc7x16 => (intro w hSw; (try dsimp only at hSw); go_simp <;> with_reducible rfl)
              try simp only [Act.put, List.setIfInBounds_toArray, List.set_cons_zero, List.set_cons_succ]
              refine wpAnyH_take (i := 17) (oi := { dst := some 190, op := Op.move (Operand.tmp 3), type := 22, pos := "outright.go:82", after := #[{ on := 15, ground := Ground.guard }], guard := some (15, true) }) (v := ?vc7x17) rfl (by kernel_rfl) (by kernel_rfl) (by kernel_rfl) (fun _ _ _ h => h) (Or.inl ⟨by kernel_rfl, ?hc7x17⟩) (by assumption) ?rc7x17
              case hc7x17 => (intro w hSw; (try dsimp only at hSw); go_simp <;> with_reducible rfl)
              try simp only [Act.put, List.setIfInBounds_toArray, List.set_cons_zero, List.set_cons_succ]
              refine wpAnyH_ready (rs := [18]) (by kernel_rfl) (by simp) ?_
              refine AllReadyH.cons (o := { dst := some 191, op := Op.call { callee := Callee.value (Operand.func 8), args := #[Operand.tmp 189, Operand.tmp 190], argTypes := #[24, 22] }, type := 4, pos := "outright.go:82", after := #[{ on := 16, ground := Ground.data }, { on := 17, ground := Ground.data }, { on := 15, ground := Ground.chain }, { on := 15, ground := Ground.guard }], guard := some (15, true) }) rfl (fun K hK => ?_) AllReadyH.nil
              go_simp
              go_at_call 8; refine (HHg.out _ _ b64 hHeld.1).mono ?_; rintro e w9 ⟨he, hk⟩; rw [hB] at he; subst he
              obtain ⟨p0, p1, p2, p3, p4⟩ := (hk.at (gp, p) (by simp)).c
              obtain ⟨q0, q1, q2, q3, q4⟩ := (hk.at (gq, p) (by simp)).c
              obtain ⟨a0, a1, a2, a3, a4⟩ := (hk.at (ga, a) (by simp)).c
              obtain ⟨b0, b1, b2, b3, b4⟩ := (hk.at (gb, b) (by simp)).c
              clear hHeld
              refine hK.out _ _ ⟨hk, p0, p1, p2, p3, p4, q0, q1, q2, q3, q4, a0, a1, a2, a3, a4, b0, b1, b2, b3, b4⟩ (fun hHeld => ?_)
              clear hK K hk p0 p1 p2 p3 p4 q0 q1 q2 q3 q4 a0 a1 a2 a3 a4 b0 b1 b2 b3 b4
              try simp only [Act.put, List.setIfInBounds_toArray, List.set_cons_zero, List.set_cons_succ]
              refine wpAnyH_take (i := 19) (oi := { dst := some 192, op := Op.pick (Operand.tmp 188) (Operand.tmp 191) (Operand.const (Value.bool false)), type := 4, pos := "outright.go:82", after := #[{ on := 15, ground := Ground.data }, { on := 18, ground := Ground.data }, { on := 8, ground := Ground.guard }], guard := some (8, false) }) (v := ?vc7x19) rfl (by kernel_rfl) (by kernel_rfl) (by kernel_rfl) (fun _ _ _ h => h) (Or.inl ⟨by kernel_rfl, ?hc7x19⟩) (by assumption) ?rc7x19
              case hc7x19 => (intro w hSw; (try dsimp only at hSw); go_simp <;> with_reducible rfl)
              try simp only [Act.put, List.setIfInBounds_toArray, List.set_cons_zero, List.set_cons_succ]
              refine wpAnyH_take (i := 20) (oi := { dst := some 193, op := Op.binOp BinOp.neq 4 (Operand.tmp 184) (Operand.tmp 192) 4, type := 4, pos := "outright.go:82", after := #[{ on := 11, ground := Ground.data }, { on := 19, ground := Ground.data }, { on := 8, ground := Ground.guard }], guard := some (8, false) }) (v := ?vc7x20) rfl (by kernel_rfl) (by kernel_rfl) (by kernel_rfl) (fun _ _ _ h => h) (Or.inl ⟨by kernel_rfl, ?hc7x20⟩) (by assumption) ?rc7x20
              case hc7x20 => (intro w hSw; (try dsimp only at hSw); go_simp <;> with_reducible rfl)
              try simp only [Act.put, List.setIfInBounds_toArray, List.set_cons_zero, List.set_cons_succ]
              refine wpAnyH_take (i := 21) (oi := { dst := some 194, op := Op.move (Operand.tmp 193), type := 4, pos := "outright.go:82", after := #[{ on := 20, ground := Ground.data }, { on := 18, ground := Ground.chain }, { on := 8, ground := Ground.guard }], guard := some (8, false) }) (v := ?vc7x21) rfl (by kernel_rfl) (by kernel_rfl) (by kernel_rfl) (fun _ _ _ h => h) (Or.inl ⟨by kernel_rfl, ?hc7x21⟩) (by assumption) ?rc7x21
              case hc7x21 => (intro w hSw; (try dsimp only at hSw); go_simp <;> with_reducible rfl)
              try simp only [Act.put, List.setIfInBounds_toArray, List.set_cons_zero, List.set_cons_succ]
              refine wpAnyH_take (i := 22) (oi := { dst := some 195, op := Op.move (Operand.tmp 16), type := 28, pos := "outright.go:82", after := #[{ on := 21, ground := Ground.guard }], guard := some (21, true) }) (v := ?vc7x22) rfl (by kernel_rfl) (by kernel_rfl) (by kernel_rfl) (fun _ _ _ h => h) (Or.inl ⟨by kernel_rfl, ?hc7x22⟩) (by assumption) ?rc7x22
              case hc7x22 => (intro w hSw; (try dsimp only at hSw); go_simp <;> with_reducible rfl)
              try simp only [Act.put, List.setIfInBounds_toArray, List.set_cons_zero, List.set_cons_succ]
              refine wpAnyH_ready (rs := [23]) (by kernel_rfl) (by simp) ?_
              refine AllReadyH.cons (o := { dst := some 196, op := Op.call { callee := Callee.value (Operand.func 7), args := #[Operand.tmp 195], argTypes := #[28] }, type := 3, pos := "outright.go:82", after := #[{ on := 22, ground := Ground.data }, { on := 21, ground := Ground.chain }, { on := 21, ground := Ground.guard }], guard := some (21, true) }) rfl (fun K hK => ?_) AllReadyH.nil
              go_simp
              go_at_call 7; refine (HN.out _ _).mono ?_; rintro e w9 ⟨rfl, hw⟩; obtain rfl := hw.symm
              refine hK.out _ _ hHeld (fun _ => ?_)
              clear hK K
              try simp only [Act.put, List.setIfInBounds_toArray, List.set_cons_zero, List.set_cons_succ]
              refine wpAnyH_take (i := 24) (oi := { dst := some 197, op := Op.binOp BinOp.eql 3 (Operand.tmp 196) (Operand.const (Value.int IntKind.i64 0)) 3, type := 4, pos := "outright.go:82", after := #[{ on := 23, ground := Ground.data }, { on := 21, ground := Ground.guard }], guard := some (21, true) }) (v := ?vc7x24) rfl (by kernel_rfl) (by kernel_rfl) (by kernel_rfl) (fun _ _ _ h => h) (Or.inl ⟨by kernel_rfl, ?hc7x24⟩) (by assumption) ?rc7x24
              case hc7x24 => (intro w hSw; (try dsimp only at hSw); go_simp <;> with_reducible rfl)
              try simp only [Act.put, List.setIfInBounds_toArray, List.set_cons_zero, List.set_cons_succ]
              refine wpAnyH_take (i := 25) (oi := { dst := some 198, op := Op.pick (Operand.tmp 194) (Operand.tmp 197) (Operand.const (Value.bool false)), type := 4, pos := "outright.go:82", after := #[{ on := 21, ground := Ground.data }, { on := 24, ground := Ground.data }, { on := 8, ground := Ground.guard }], guard := some (8, false) }) (v := ?vc7x25) rfl (by kernel_rfl) (by kernel_rfl) (by kernel_rfl) (fun _ _ _ h => h) (Or.inl ⟨by kernel_rfl, ?hc7x25⟩) (by assumption) ?rc7x25
              case hc7x25 => (intro w hSw; (try dsimp only at hSw); go_simp <;> with_reducible rfl)
              try simp only [Act.put, List.setIfInBounds_toArray, List.set_cons_zero, List.set_cons_succ]
              refine wpAnyH_take (i := 26) (oi := { dst := some 199, op := Op.pick (Operand.tmp 181) (Operand.const (Value.bool true)) (Operand.tmp 198), type := 4, pos := "outright.go:82", after := #[{ on := 8, ground := Ground.data }, { on := 25, ground := Ground.data }], guard := none }) (v := ?vc7x26) rfl (by kernel_rfl) (by kernel_rfl) (by kernel_rfl) (fun _ _ _ h => h) (Or.inl ⟨by kernel_rfl, ?hc7x26⟩) (by assumption) ?rc7x26
              case hc7x26 => (intro w hSw; (try dsimp only at hSw); go_simp <;> with_reducible rfl)
              try simp only [Act.put, List.setIfInBounds_toArray, List.set_cons_zero, List.set_cons_succ]
              refine wpAnyH_take (i := 27) (oi := { dst := some 200, op := Op.move (Operand.tmp 199), type := 4, pos := "outright.go:82", after := #[{ on := 26, ground := Ground.data }, { on := 23, ground := Ground.chain }], guard := none }) (v := ?vc7x27) rfl (by kernel_rfl) (by kernel_rfl) (by kernel_rfl) (fun _ _ _ h => h) (Or.inl ⟨by kernel_rfl, ?hc7x27⟩) (by assumption) ?rc7x27
              case hc7x27 => (intro w hSw; (try dsimp only at hSw); go_simp <;> with_reducible rfl)
              try simp only [Act.put, List.setIfInBounds_toArray, List.set_cons_zero, List.set_cons_succ]
              refine wpAnyH_take (i := 28) (oi := { dst := some 201, op := Op.move (Operand.tmp 16), type := 28, pos := "outright.go:82", after := #[{ on := 27, ground := Ground.guard }], guard := some (27, false) }) (v := ?vc7x28) rfl (by kernel_rfl) (by kernel_rfl) (by kernel_rfl) (fun _ _ _ h => h) (Or.inl ⟨by kernel_rfl, ?hc7x28⟩) (by assumption) ?rc7x28
              case hc7x28 => (intro w hSw; (try dsimp only at hSw); go_simp <;> with_reducible rfl)
              try simp only [Act.put, List.setIfInBounds_toArray, List.set_cons_zero, List.set_cons_succ]
              refine wpAnyH_ready (rs := [29]) (by kernel_rfl) (by simp) ?_
              refine AllReadyH.cons (o := { dst := some 202, op := Op.call { callee := Callee.value (Operand.func 7), args := #[Operand.tmp 201], argTypes := #[28] }, type := 3, pos := "outright.go:82", after := #[{ on := 28, ground := Ground.data }, { on := 27, ground := Ground.chain }, { on := 27, ground := Ground.guard }], guard := some (27, false) }) rfl (fun K hK => ?_) AllReadyH.nil
              go_simp
              go_at_call 7; refine (HN.out _ _).mono ?_; rintro e w9 ⟨rfl, hw⟩; obtain rfl := hw.symm
              refine hK.out _ _ hHeld (fun _ => ?_)
              clear hK K
              try simp only [Act.put, List.setIfInBounds_toArray, List.set_cons_zero, List.set_cons_succ]
              refine wpAnyH_take (i := 30) (oi := { dst := some 203, op := Op.binOp BinOp.neq 3 (Operand.tmp 202) (Operand.const (Value.int IntKind.i64 0)) 3, type := 4, pos := "outright.go:82", after := #[{ on := 29, ground := Ground.data }, { on := 27, ground := Ground.guard }], guard := some (27, false) }) (v := ?vc7x30) rfl (by kernel_rfl) (by kernel_rfl) (by kernel_rfl) (fun _ _ _ h => h) (Or.inl ⟨by kernel_rfl, ?hc7x30⟩) (by assumption) ?rc7x30
              case hc7x30 => (intro w hSw; (try dsimp only at hSw); go_simp <;> with_reducible rfl)
              try simp only [Act.put, List.setIfInBounds_toArray, List.set_cons_zero, List.set_cons_succ]
              refine wpAnyH_take (i := 31) (oi := { dst := some 204, op := Op.move (Operand.tmp 203), type := 4, pos := "outright.go:82", after := #[{ on := 30, ground := Ground.data }, { on := 29, ground := Ground.chain }, { on := 27, ground := Ground.guard }], guard := some (27, false) }) (v := ?vc7x31) rfl (by kernel_rfl) (by kernel_rfl) (by kernel_rfl) (fun _ _ _ h => h) (Or.inl ⟨by kernel_rfl, ?hc7x31⟩) (by assumption) ?rc7x31
              case hc7x31 => (intro w hSw; (try dsimp only at hSw); go_simp <;> with_reducible rfl)
              try simp only [Act.put, List.setIfInBounds_toArray, List.set_cons_zero, List.set_cons_succ]
              refine wpAnyH_take (i := 32) (oi := { dst := some 205, op := Op.load 24 (Operand.tmp 9), type := 24, pos := "outright.go:82", after := #[{ on := 31, ground := Ground.guard }], guard := some (31, true) }) (v := ?vc7x32) rfl (by kernel_rfl) (by kernel_rfl) (by kernel_rfl) (fun _ _ _ h => h) (Or.inl ⟨by kernel_rfl, ?hc7x32⟩) (by assumption) ?rc7x32
              case hc7x32 => (intro w hSw; (try dsimp only at hSw); go_simp <;> with_reducible rfl)
              try simp only [Act.put, List.setIfInBounds_toArray, List.set_cons_zero, List.set_cons_succ]
              refine wpAnyH_take (i := 33) (oi := { dst := some 206, op := Op.move (Operand.tmp 3), type := 22, pos := "outright.go:82", after := #[{ on := 31, ground := Ground.guard }], guard := some (31, true) }) (v := ?vc7x33) rfl (by kernel_rfl) (by kernel_rfl) (by kernel_rfl) (fun _ _ _ h => h) (Or.inl ⟨by kernel_rfl, ?hc7x33⟩) (by assumption) ?rc7x33
              case hc7x33 => (intro w hSw; (try dsimp only at hSw); go_simp <;> with_reducible rfl)
              try simp only [Act.put, List.setIfInBounds_toArray, List.set_cons_zero, List.set_cons_succ]
              refine wpAnyH_ready (rs := [34]) (by kernel_rfl) (by simp) ?_
              refine AllReadyH.cons (o := { dst := some 207, op := Op.call { callee := Callee.value (Operand.func 8), args := #[Operand.tmp 205, Operand.tmp 206], argTypes := #[24, 22] }, type := 4, pos := "outright.go:82", after := #[{ on := 32, ground := Ground.data }, { on := 33, ground := Ground.data }, { on := 31, ground := Ground.chain }, { on := 31, ground := Ground.guard }], guard := some (31, true) }) rfl (fun K hK => ?_) AllReadyH.nil
              go_simp
              go_at_call 8; refine (HHg.out _ _ a64 hHeld.1).mono ?_; rintro e w9 ⟨he, hk⟩; rw [hA] at he; subst he
              obtain ⟨p0, p1, p2, p3, p4⟩ := (hk.at (gp, p) (by simp)).c
              obtain ⟨q0, q1, q2, q3, q4⟩ := (hk.at (gq, p) (by simp)).c
              obtain ⟨a0, a1, a2, a3, a4⟩ := (hk.at (ga, a) (by simp)).c
              obtain ⟨b0, b1, b2, b3, b4⟩ := (hk.at (gb, b) (by simp)).c
              clear hHeld
              refine hK.out _ _ ⟨hk, p0, p1, p2, p3, p4, q0, q1, q2, q3, q4, a0, a1, a2, a3, a4, b0, b1, b2, b3, b4⟩ (fun hHeld => ?_)
              clear hK K hk p0 p1 p2 p3 p4 q0 q1 q2 q3 q4 a0 a1 a2 a3 a4 b0 b1 b2 b3 b4
              try simp only [Act.put, List.setIfInBounds_toArray, List.set_cons_zero, List.set_cons_succ]
              refine wpAnyH_take (i := 35) (oi := { dst := some 208, op := Op.pick (Operand.tmp 204) (Operand.tmp 207) (Operand.const (Value.bool false)), type := 4, pos := "outright.go:82", after := #[{ on := 31, ground := Ground.data }, { on := 34, ground := Ground.data }, { on := 27, ground := Ground.guard }], guard := some (27, false) }) (v := ?vc7x35) rfl (by kernel_rfl) (by kernel_rfl) (by kernel_rfl) (fun _ _ _ h => h) (Or.inl ⟨by kernel_rfl, ?hc7x35⟩) (by assumption) ?rc7x35
              case hc7x35 => (intro w hSw; (try dsimp only at hSw); go_simp <;> with_reducible rfl)
              try simp only [Act.put, List.setIfInBounds_toArray, List.set_cons_zero, List.set_cons_succ]
              refine wpAnyH_take (i := 36) (oi := { dst := some 209, op := Op.move (Operand.tmp 208), type := 4, pos := "outright.go:82", after := #[{ on := 35, ground := Ground.data }, { on := 34, ground := Ground.chain }, { on := 27, ground := Ground.guard }], guard := some (27, false) }) (v := ?vc7x36) rfl (by kernel_rfl) (by kernel_rfl) (by kernel_rfl) (fun _ _ _ h => h) (Or.inl ⟨by kernel_rfl, ?hc7x36⟩) (by assumption) ?rc7x36
              case hc7x36 => (intro w hSw; (try dsimp only at hSw); go_simp <;> with_reducible rfl)
              try simp only [Act.put, List.setIfInBounds_toArray, List.set_cons_zero, List.set_cons_succ]
              refine wpAnyH_take (i := 37) (oi := { dst := some 210, op := Op.load 24 (Operand.tmp 11), type := 24, pos := "outright.go:82", after := #[{ on := 36, ground := Ground.guard }], guard := some (36, true) }) (v := ?vc7x37) rfl (by kernel_rfl) (by kernel_rfl) (by kernel_rfl) (fun _ _ _ h => h) (Or.inl ⟨by kernel_rfl, ?hc7x37⟩) (by assumption) ?rc7x37
              case hc7x37 => (intro w hSw; (try dsimp only at hSw); go_simp <;> with_reducible rfl)
              try simp only [Act.put, List.setIfInBounds_toArray, List.set_cons_zero, List.set_cons_succ]
              refine wpAnyH_take (i := 38) (oi := { dst := some 211, op := Op.move (Operand.tmp 3), type := 22, pos := "outright.go:82", after := #[{ on := 36, ground := Ground.guard }], guard := some (36, true) }) (v := ?vc7x38) rfl (by kernel_rfl) (by kernel_rfl) (by kernel_rfl) (fun _ _ _ h => h) (Or.inl ⟨by kernel_rfl, ?hc7x38⟩) (by assumption) ?rc7x38
              case hc7x38 => (intro w hSw; (try dsimp only at hSw); go_simp <;> with_reducible rfl)
              try simp only [Act.put, List.setIfInBounds_toArray, List.set_cons_zero, List.set_cons_succ]
              refine wpAnyH_ready (rs := [39]) (by kernel_rfl) (by simp) ?_
              refine AllReadyH.cons (o := { dst := some 212, op := Op.call { callee := Callee.value (Operand.func 8), args := #[Operand.tmp 210, Operand.tmp 211], argTypes := #[24, 22] }, type := 4, pos := "outright.go:82", after := #[{ on := 37, ground := Ground.data }, { on := 38, ground := Ground.data }, { on := 36, ground := Ground.chain }, { on := 36, ground := Ground.guard }], guard := some (36, true) }) rfl (fun K hK => ?_) AllReadyH.nil
              go_simp
              go_at_call 8; refine (HHg.out _ _ b64 hHeld.1).mono ?_; rintro e w9 ⟨he, hk⟩; rw [hB] at he; subst he
              obtain ⟨p0, p1, p2, p3, p4⟩ := (hk.at (gp, p) (by simp)).c
              obtain ⟨q0, q1, q2, q3, q4⟩ := (hk.at (gq, p) (by simp)).c
              obtain ⟨a0, a1, a2, a3, a4⟩ := (hk.at (ga, a) (by simp)).c
              obtain ⟨b0, b1, b2, b3, b4⟩ := (hk.at (gb, b) (by simp)).c
              clear hHeld
              refine hK.out _ _ ⟨hk, p0, p1, p2, p3, p4, q0, q1, q2, q3, q4, a0, a1, a2, a3, a4, b0, b1, b2, b3, b4⟩ (fun hHeld => ?_)
              clear hK K hk p0 p1 p2 p3 p4 q0 q1 q2 q3 q4 a0 a1 a2 a3 a4 b0 b1 b2 b3 b4
              try simp only [Act.put, List.setIfInBounds_toArray, List.set_cons_zero, List.set_cons_succ]
              refine wpAnyH_take (i := 40) (oi := { dst := some 213, op := Op.pick (Operand.tmp 209) (Operand.tmp 212) (Operand.const (Value.bool false)), type := 4, pos := "outright.go:82", after := #[{ on := 36, ground := Ground.data }, { on := 39, ground := Ground.data }, { on := 27, ground := Ground.guard }], guard := some (27, false) }) (v := ?vc7x40) rfl (by kernel_rfl) (by kernel_rfl) (by kernel_rfl) (fun _ _ _ h => h) (Or.inl ⟨by kernel_rfl, ?hc7x40⟩) (by assumption) ?rc7x40
              case hc7x40 => (intro w hSw; (try dsimp only at hSw); go_simp <;> with_reducible rfl)
              try simp only [Act.put, List.setIfInBounds_toArray, List.set_cons_zero, List.set_cons_succ]
              refine wpAnyH_take (i := 41) (oi := { dst := some 214, op := Op.pick (Operand.tmp 200) (Operand.const (Value.bool true)) (Operand.tmp 213), type := 4, pos := "outright.go:82", after := #[{ on := 27, ground := Ground.data }, { on := 40, ground := Ground.data }], guard := none }) (v := ?vc7x41) rfl (by kernel_rfl) (by kernel_rfl) (by kernel_rfl) (fun _ _ _ h => h) (Or.inl ⟨by kernel_rfl, ?hc7x41⟩) (by assumption) ?rc7x41
              case hc7x41 => (intro w hSw; (try dsimp only at hSw); go_simp <;> with_reducible rfl)
              try simp only [Act.put, List.setIfInBounds_toArray, List.set_cons_zero, List.set_cons_succ]
              refine wpAnyH_done (by kernel_rfl) ?_ _
              try go_wp2_with fail
              go_meet
              exact ⟨rfl, hHeld.1⟩
    case rest =>
      obtain ⟨rfl, hkc⟩ := hcut
      have KT0 : Hid (KL w [(gq, p), (gp, p), (go, l0), (gm, m0), (gl, l0), (gs, a), (gk, j), (gj, j), (gc, c), (gb, b), (ga, a), (w.heap.size, f), (w.heap.size + 1, g), (w.heap.size + 1 + 1, h)] wc) := hkc
      clear hkc Kq cA cB cC cJx cKx cSx cLx cMx cOx cPx cQx
      have cA := (KT0.out.at (ga, a) (by simp)).c
      have cB := (KT0.out.at (gb, b) (by simp)).c
      have cC := (KT0.out.at (gc, c) (by simp)).c
      have cPx := (KT0.out.at (gp, p) (by simp)).c
      have nA := fun W => neq_f a W
      obtain ⟨s, hs⟩ : ∃ s, r2.getD zF = s := ⟨_, rfl⟩
      obtain ⟨q2, hq2⟩ : ∃ q2 : Nat, (if r2.isSome then 0 else 1) = q2 := ⟨_, rfl⟩
      have HR2 : Hid (r2.getD zF = s ∧ (if r2.isSome then 0 else 1) = q2) := ⟨hs, hq2⟩
      have HM4 : Hid (∀ W, Calls Tryz.prog 9 #[fV b, fV c] W fun e w' => e = .returned (.tuple #[fV s, .int .i64 (q2 : Int)]) ∧ Below W.heap.size W w') := fun W => by rw [← hs, ← hq2]; exact meet_sd b c W HD.out.2.1.may HD.out.2.2.may HE.out.2 HR1.out.2.1
      clear hs hq2
      go_wp2_with fail
      refine (HM3.out _).mono ?_
      rintro e wcr ⟨rfl, hb⟩
      have Kr0 : Hid (KL w [(gq, p), (gp, p), (go, l0), (gm, m0), (gl, l0), (gs, a), (gk, j), (gj, j), (gc, c), (gb, b), (ga, a), (w.heap.size, f), (w.heap.size + 1, g), (w.heap.size + 1 + 1, h)] wcr) := KT0.out.next hb
      clear hb KT0 cA cB cC cPx
      obtain ⟨gr, hgr⟩ : ∃ gr, wcr.heap.size = gr := ⟨_, rfl⟩
      obtain ⟨wdr, hwdr⟩ : ∃ wdr, wcr.alloc (.cells #[.int .i64 a.w, .int .u64 (a.one : Int), .int .u64 (a.zero : Int), .int .u64 (a.least : Int), .int .u64 (a.top : Int)] 24) = wdr := ⟨_, rfl⟩
      have Kr : Hid (KL w [(gr, a), (gq, p), (gp, p), (go, l0), (gm, m0), (gl, l0), (gs, a), (gk, j), (gj, j), (gc, c), (gb, b), (ga, a), (w.heap.size, f), (w.heap.size + 1, g), (w.heap.size + 1 + 1, h)] wdr) := by rw [← hwdr]; exact Kr0.out.new a hgr
      have mr : gq < gr := by rw [← hgr]; exact Kr0.out.lt (gq, p) (by simp)
      clear Kr0
      have cA := (Kr.out.at (ga, a) (by simp)).c
      have cB := (Kr.out.at (gb, b) (by simp)).c
      have cC := (Kr.out.at (gc, c) (by simp)).c
      have cPx := (Kr.out.at (gp, p) (by simp)).c
      have cRx := (Kr.out.at (gr, a) (by simp)).c
      go_wp2_with (go_at_call 7; refine (HN.out _ _).mono ?_; rintro e w' ⟨rfl, hw⟩; obtain rfl := hw.symm)
      refine (HM4.out _).mono ?_
      rintro e wcv ⟨rfl, hb⟩
      have Kv0 : Hid (KL w [(gr, a), (gq, p), (gp, p), (go, l0), (gm, m0), (gl, l0), (gs, a), (gk, j), (gj, j), (gc, c), (gb, b), (ga, a), (w.heap.size, f), (w.heap.size + 1, g), (w.heap.size + 1 + 1, h)] wcv) := Kr.out.next hb
      clear hb Kr cA cB cC cPx cRx
      obtain ⟨gv, hgv⟩ : ∃ gv, wcv.heap.size = gv := ⟨_, rfl⟩
      obtain ⟨wdv, hwdv⟩ : ∃ wdv, wcv.alloc (.cells #[.int .i64 s.w, .int .u64 (s.one : Int), .int .u64 (s.zero : Int), .int .u64 (s.least : Int), .int .u64 (s.top : Int)] 24) = wdv := ⟨_, rfl⟩
      have Kv : Hid (KL w [(gv, s), (gr, a), (gq, p), (gp, p), (go, l0), (gm, m0), (gl, l0), (gs, a), (gk, j), (gj, j), (gc, c), (gb, b), (ga, a), (w.heap.size, f), (w.heap.size + 1, g), (w.heap.size + 1 + 1, h)] wdv) := by rw [← hwdv]; exact Kv0.out.new s hgv
      have mv : gr < gv := by rw [← hgv]; exact Kv0.out.lt (gr, a) (by simp)
      clear Kv0
      have cA := (Kv.out.at (ga, a) (by simp)).c
      have cB := (Kv.out.at (gb, b) (by simp)).c
      have cC := (Kv.out.at (gc, c) (by simp)).c
      have cPx := (Kv.out.at (gp, p) (by simp)).c
      have cRx := (Kv.out.at (gr, a) (by simp)).c
      have cVx := (Kv.out.at (gv, s) (by simp)).c
      clear cRx
      go_wp2_with fail
      refine (Meet_any p c _).mono ?_
      rintro e wct ⟨t, e2, hma1, rfl, hb⟩
      have Kt0 : Hid (KL w [(gv, s), (gr, a), (gq, p), (gp, p), (go, l0), (gm, m0), (gl, l0), (gs, a), (gk, j), (gj, j), (gc, c), (gb, b), (ga, a), (w.heap.size, f), (w.heap.size + 1, g), (w.heap.size + 1 + 1, h)] wct) := Kv.out.next hb
      have HMA1 : Hid (MA p c t e2) := hma1
      clear hma1
      clear hb Kv cA cB cC cPx cVx
      obtain ⟨gt, hgt⟩ : ∃ gt, wct.heap.size = gt := ⟨_, rfl⟩
      obtain ⟨wdt, hwdt⟩ : ∃ wdt, wct.alloc (.cells #[.int .i64 t.w, .int .u64 (t.one : Int), .int .u64 (t.zero : Int), .int .u64 (t.least : Int), .int .u64 (t.top : Int)] 24) = wdt := ⟨_, rfl⟩
      have Kt : Hid (KL w [(gt, t), (gv, s), (gr, a), (gq, p), (gp, p), (go, l0), (gm, m0), (gl, l0), (gs, a), (gk, j), (gj, j), (gc, c), (gb, b), (ga, a), (w.heap.size, f), (w.heap.size + 1, g), (w.heap.size + 1 + 1, h)] wdt) := by rw [← hwdt]; exact Kt0.out.new t hgt
      have mt : gv < gt := by rw [← hgt]; exact Kt0.out.lt (gv, s) (by simp)
      clear Kt0
      have cA := (Kt.out.at (ga, a) (by simp)).c
      have cB := (Kt.out.at (gb, b) (by simp)).c
      have cC := (Kt.out.at (gc, c) (by simp)).c
      have cPx := (Kt.out.at (gp, p) (by simp)).c
      have cVx := (Kt.out.at (gv, s) (by simp)).c
      have cTx := (Kt.out.at (gt, t) (by simp)).c
      go_wp2_with fail
      refine (Meet_any a s _).mono ?_
      rintro e wcu ⟨u, e3, hma2, rfl, hb⟩
      have Ku0 : Hid (KL w [(gt, t), (gv, s), (gr, a), (gq, p), (gp, p), (go, l0), (gm, m0), (gl, l0), (gs, a), (gk, j), (gj, j), (gc, c), (gb, b), (ga, a), (w.heap.size, f), (w.heap.size + 1, g), (w.heap.size + 1 + 1, h)] wcu) := Kt.out.next hb
      have HMA2 : Hid (MA a s u e3) := hma2
      clear hma2
      clear hb Kt cA cB cC cPx cVx cTx
      obtain ⟨gu, hgu⟩ : ∃ gu, wcu.heap.size = gu := ⟨_, rfl⟩
      obtain ⟨wdu, hwdu⟩ : ∃ wdu, wcu.alloc (.cells #[.int .i64 u.w, .int .u64 (u.one : Int), .int .u64 (u.zero : Int), .int .u64 (u.least : Int), .int .u64 (u.top : Int)] 24) = wdu := ⟨_, rfl⟩
      have Ku : Hid (KL w [(gu, u), (gt, t), (gv, s), (gr, a), (gq, p), (gp, p), (go, l0), (gm, m0), (gl, l0), (gs, a), (gk, j), (gj, j), (gc, c), (gb, b), (ga, a), (w.heap.size, f), (w.heap.size + 1, g), (w.heap.size + 1 + 1, h)] wdu) := by rw [← hwdu]; exact Ku0.out.new u hgu
      have mu : gt < gu := by rw [← hgu]; exact Ku0.out.lt (gt, t) (by simp)
      clear Ku0
      have cA := (Ku.out.at (ga, a) (by simp)).c
      have cB := (Ku.out.at (gb, b) (by simp)).c
      have cC := (Ku.out.at (gc, c) (by simp)).c
      have cPx := (Ku.out.at (gp, p) (by simp)).c
      have cVx := (Ku.out.at (gv, s) (by simp)).c
      have cTx := (Ku.out.at (gt, t) (by simp)).c
      have cUx := (Ku.out.at (gu, u) (by simp)).c
      have hfin := lat_end HD.out.1 HD.out.2.1 HD.out.2.2 HE.out.1 HE.out.2 HR1.out.1 HR1.out.2.1 HR1.out.2.2.1 HR1.out.2.2.2 HR2.out.1 HR2.out.2 HMA1.out HMA2.out
      have hend : Hid (Below w.heap.size w wdu) := Ku.out.out.2
      clear HR1 HR2 HM1 HM2 HM3 HM4 HMA1 HMA2 Ku cA cB cC cPx cVx
      rcases hfin with ⟨rfl, rfl, rfl, rfl, rfl⟩ | ⟨rfl, rfl, rfl, rfl⟩ | ⟨rfl, rfl, rfl⟩ | ⟨rfl, rfl, rfl⟩ | ⟨rfl, rfl⟩
      · have eT := fun W => eq_f t W
        go_wp2_with (go_at_call 7; refine (HN.out _ _).mono ?_; rintro e w' ⟨rfl, hw⟩; obtain rfl := hw.symm)
        go_ret
        exact ⟨rfl, hend.out⟩
      · go_wp2_with (go_at_call 7; refine (HN.out _ _).mono ?_; rintro e w' ⟨rfl, hw⟩; obtain rfl := hw.symm)
        go_ret
        exact ⟨rfl, hend.out⟩
      · go_wp2_with (go_at_call 7; refine (HN.out _ _).mono ?_; rintro e w' ⟨rfl, hw⟩; obtain rfl := hw.symm)
        go_ret
        exact ⟨rfl, hend.out⟩
      · go_wp2_with (go_at_call 7; refine (HN.out _ _).mono ?_; rintro e w' ⟨rfl, hw⟩; obtain rfl := hw.symm)
        go_ret
        exact ⟨rfl, hend.out⟩
      · go_wp2_with (go_at_call 7; refine (HN.out _ _).mono ?_; rintro e w' ⟨rfl, hw⟩; obtain rfl := hw.symm)
        go_ret
        exact ⟨rfl, hend.out⟩
end Go.Proofs.YtopdbhkkmolllaaGreatDoor
