import Derived.Test.YtioaogdandjdbaaGreatDoorKnT
import Derived.Test.YtioaogdandjdbaaGreatDoorKnK
namespace Go.Proofs.YtioaogdandjdbaaGreatDoor
open Go.ChangeShapes Go.WideShapes Go.ChangeAt Go.RowKit Go.Lib Go.Kn

theorem an_mx {a : Int} {x : Nat} (h : x ≤ mx a) : an (mx a) x = mx a - x := by
  apply Nat.eq_of_testBit_eq
  intro i
  rw [an_bit, neg_bit h, mx_bit]
set_option maxHeartbeats 4000000 in
theorem rAll_any (a : Int) (w : World) : Calls Tryz.prog 7 #[.int .i64 a] w fun e w' => ∃ v c, AA a v c ∧ e = .returned (.tuple #[fV v, eV c]) ∧ Below w.heap.size w w' := by
  obtain ⟨w1, hw1⟩ : ∃ w1, w.alloc (.cells #[.int .i64 0, .int .u64 0, .int .u64 0, .int .u64 0, .int .u64 0] 24) = w1 := ⟨_, rfl⟩
  have HS_w1 : Hid (BX w1 w.heap.size zF ∧ Below w.heap.size w w1) := by
    rw [← hw1]
    exact boxes1 w zF
  obtain ⟨z0, z1, z2, z3, z4⟩ := HS_w1.out.1.c
  obtain ⟨y0, y1, y2, y3, y4⟩ := HS_w1.out.1.fz
  by_cases h1 : a < 0
  · have HY : Hid (AA a zF 5) := Or.inl ⟨by omega, rfl, rfl⟩
    go_enter Tryz.func7, Tryz.ntmps7
    go_wp2_with fail
    try rw [hw1]
    refine bodyPost_ret (res2 rfl _ _ w.heap.size _ _ _ _ rfl (set5_at HS_w1.out.1 _ _ _ _ _) rfl rfl) rfl ?_
    exact ⟨zF, 5, HY.out, rfl, (set5_bel HS_w1.out.2 (by omega) _ _ _ _ _)⟩
  by_cases h2 : 64 < a
  · have HY : Hid (AA a zF 5) := Or.inl ⟨by omega, rfl, rfl⟩
    have q1 : decide (a < 0) = false := decide_eq_false h1
    go_enter Tryz.func7, Tryz.ntmps7
    go_wp2_with fail
    try rw [hw1]
    refine bodyPost_ret (res2 rfl _ _ w.heap.size _ _ _ _ rfl (set5_at HS_w1.out.1 _ _ _ _ _) rfl rfl) rfl ?_
    exact ⟨zF, 5, HY.out, rfl, (set5_bel HS_w1.out.2 (by omega) _ _ _ _ _)⟩
  have HO : Hid (∀ W, Calls Tryz.prog 23 #[.int .i64 a] W fun e w' => e = .returned (uV (mx a)) ∧ w' = W) := fun W => rones_any a W (by omega) (by omega)
  have HY : Hid (AA a ⟨a, 0, 0, 0, mx a⟩ 0) := Or.inr ⟨by omega, rfl, rfl⟩
  have q1 : decide (a < 0) = false := decide_eq_false h1
  have q2 : decide (64 < a) = false := decide_eq_false h2
  generalize mx a = m at *
  go_enter Tryz.func7, Tryz.ntmps7
  go_wp2_with (go_at_call 23; refine (HO.out _).mono ?_; rintro e w' ⟨rfl, hw⟩; obtain rfl := hw.symm)
  try rw [hw1]
  refine bodyPost_ret (res2 rfl _ _ w.heap.size _ _ _ _ rfl (set5_at HS_w1.out.1 _ _ _ _ _) rfl rfl) rfl ?_
  exact ⟨⟨a, 0, 0, 0, m⟩, 0, HY.out, rfl, (set5_bel HS_w1.out.2 (by omega) _ _ _ _ _)⟩
set_option maxHeartbeats 4000000 in
theorem rAlone_any (a : Int) (x : Nat) (w : World) (hx : x < 18446744073709551616) : Calls Tryz.prog 11 #[.int .i64 a, uV x] w fun e w' => ∃ v c, AL a x v c ∧ e = .returned (.tuple #[fV v, eV c]) ∧ Below w.heap.size w w' := by
  obtain ⟨w1, hw1⟩ : ∃ w1, w.alloc (.cells #[.int .i64 0, .int .u64 0, .int .u64 0, .int .u64 0, .int .u64 0] 24) = w1 := ⟨_, rfl⟩
  have HS_w1 : Hid (BX w1 w.heap.size zF ∧ Below w.heap.size w w1) := by
    rw [← hw1]
    exact boxes1 w zF
  obtain ⟨z0, z1, z2, z3, z4⟩ := HS_w1.out.1.c
  obtain ⟨y0, y1, y2, y3, y4⟩ := HS_w1.out.1.fz
  by_cases h1 : a < 0
  · have HY : Hid (AL a x zF 5) := Or.inl ⟨by omega, rfl, rfl⟩
    go_enter Tryz.func11, Tryz.ntmps11
    go_wp2_with fail
    try rw [hw1]
    refine bodyPost_ret (res2 rfl _ _ w.heap.size _ _ _ _ rfl (set5_at HS_w1.out.1 _ _ _ _ _) rfl rfl) rfl ?_
    exact ⟨zF, 5, HY.out, rfl, (set5_bel HS_w1.out.2 (by omega) _ _ _ _ _)⟩
  by_cases h2 : 64 < a
  · have HY : Hid (AL a x zF 5) := Or.inl ⟨by omega, rfl, rfl⟩
    have q1 : decide (a < 0) = false := decide_eq_false h1
    go_enter Tryz.func11, Tryz.ntmps11
    go_wp2_with fail
    try rw [hw1]
    refine bodyPost_ret (res2 rfl _ _ w.heap.size _ _ _ _ rfl (set5_at HS_w1.out.1 _ _ _ _ _) rfl rfl) rfl ?_
    exact ⟨zF, 5, HY.out, rfl, (set5_bel HS_w1.out.2 (by omega) _ _ _ _ _)⟩
  have HO : Hid (∀ W, Calls Tryz.prog 23 #[.int .i64 a] W fun e w' => e = .returned (uV (mx a)) ∧ w' = W) := fun W => rones_any a W (by omega) (by omega)
  have q1 : decide (a < 0) = false := decide_eq_false h1
  have q2 : decide (64 < a) = false := decide_eq_false h2
  have hm64 : mx a < 18446744073709551616 := mx64 (by omega)
  by_cases h3 : x ≤ mx a
  · have HY : Hid (AL a x ⟨a, x, mx a - x, x, x⟩ 0) := Or.inr ⟨⟨by omega, h3⟩, rfl, rfl⟩
    have q3 : decide (mx a < x) = false := decide_eq_false (by omega)
    have q4 := andn_u (mx a) x hm64 hx
    rw [an_mx h3] at q4
    generalize mx a - x = z at *
    generalize mx a = m at *
    go_enter Tryz.func11, Tryz.ntmps11
    go_wp2_with (go_at_call 23; refine (HO.out _).mono ?_; rintro e w' ⟨rfl, hw⟩; obtain rfl := hw.symm)
    try rw [hw1]
    refine bodyPost_ret (res2 rfl _ _ w.heap.size _ _ _ _ rfl (set5_at HS_w1.out.1 _ _ _ _ _) rfl rfl) rfl ?_
    exact ⟨⟨a, x, z, x, x⟩, 0, HY.out, rfl, (set5_bel HS_w1.out.2 (by omega) _ _ _ _ _)⟩
  · have HY : Hid (AL a x zF 5) := Or.inl ⟨fun h => h3 h.2, rfl, rfl⟩
    have q3 : decide (mx a < x) = true := decide_eq_true (by omega)
    generalize mx a = m at *
    go_enter Tryz.func11, Tryz.ntmps11
    go_wp2_with (go_at_call 23; refine (HO.out _).mono ?_; rintro e w' ⟨rfl, hw⟩; obtain rfl := hw.symm)
    try rw [hw1]
    refine bodyPost_ret (res2 rfl _ _ w.heap.size _ _ _ _ rfl (set5_at HS_w1.out.1 _ _ _ _ _) rfl rfl) rfl ?_
    exact ⟨zF, 5, HY.out, rfl, (set5_bel HS_w1.out.2 (by omega) _ _ _ _ _)⟩
theorem res3 {fn : Func} {p q u : Tmp} (h : fn.results = #[.cell p 24, .cell q 24, .tmp u]) (tmps : Array Value) (w : World) (g1 g2 : Nat) (t1 t2 : TypeId) (cs ds : Array Value) (fr1 fr2 : Nat × Nat) (x : Value)
    (hp : tmps.getD p undef = .pointer (some ⟨g1, 0, none⟩)) (hg1 : w.heap[g1]? = some (.cells cs t1 fr1)) (hi1 : cs.size = 5)
    (hq : tmps.getD q undef = .pointer (some ⟨g2, 0, none⟩)) (hg2 : w.heap[g2]? = some (.cells ds t2 fr2)) (hi2 : ds.size = 5) (hx : tmps.getD u undef = x) :
    (results fn tmps).run Tryz.prog w = .ok (.tuple #[.agg cs, .agg ds, x]) w := by
  have e1 : (Tryz.prog.info? 24).map (·.size) = some cs.size := by rw [hi1]; kernel_rfl
  have e2 : (Tryz.prog.info? 24).map (·.size) = some ds.size := by rw [hi2]; kernel_rfl
  simp only [results, h]
  simp [Sem.run_bind, Result.andThen]
  rw [show tmps[p]?.getD undef = tmps.getD p undef by simp, show tmps[q]?.getD undef = tmps.getD q undef by simp, show tmps[u]?.getD undef = tmps.getD u undef by simp, hp, hq, hx]
  simp [asAddr, run_loadVar_row w g1 t1 24 cs fr1 _ hg1 Tryz.underlying24 rfl e1, run_loadVar_row w g2 t2 24 ds fr2 _ hg2 Tryz.underlying24 rfl e2]
theorem boxes4 (w : World) (f g h i : Fc) : BX ((((w.alloc (.cells #[.int .i64 f.w, uV f.one, uV f.zero, uV f.least, uV f.top] 24)).alloc (.cells #[.int .i64 g.w, uV g.one, uV g.zero, uV g.least, uV g.top] 24)).alloc (.cells #[.int .i64 h.w, uV h.one, uV h.zero, uV h.least, uV h.top] 24)).alloc (.cells #[.int .i64 i.w, uV i.one, uV i.zero, uV i.least, uV i.top] 24)) w.heap.size f ∧ BX ((((w.alloc (.cells #[.int .i64 f.w, uV f.one, uV f.zero, uV f.least, uV f.top] 24)).alloc (.cells #[.int .i64 g.w, uV g.one, uV g.zero, uV g.least, uV g.top] 24)).alloc (.cells #[.int .i64 h.w, uV h.one, uV h.zero, uV h.least, uV h.top] 24)).alloc (.cells #[.int .i64 i.w, uV i.one, uV i.zero, uV i.least, uV i.top] 24)) (w.heap.size + 1) g ∧ BX ((((w.alloc (.cells #[.int .i64 f.w, uV f.one, uV f.zero, uV f.least, uV f.top] 24)).alloc (.cells #[.int .i64 g.w, uV g.one, uV g.zero, uV g.least, uV g.top] 24)).alloc (.cells #[.int .i64 h.w, uV h.one, uV h.zero, uV h.least, uV h.top] 24)).alloc (.cells #[.int .i64 i.w, uV i.one, uV i.zero, uV i.least, uV i.top] 24)) (w.heap.size + 1 + 1) h ∧ BX ((((w.alloc (.cells #[.int .i64 f.w, uV f.one, uV f.zero, uV f.least, uV f.top] 24)).alloc (.cells #[.int .i64 g.w, uV g.one, uV g.zero, uV g.least, uV g.top] 24)).alloc (.cells #[.int .i64 h.w, uV h.one, uV h.zero, uV h.least, uV h.top] 24)).alloc (.cells #[.int .i64 i.w, uV i.one, uV i.zero, uV i.least, uV i.top] 24)) (w.heap.size + 1 + 1 + 1) i ∧ Below w.heap.size w ((((w.alloc (.cells #[.int .i64 f.w, uV f.one, uV f.zero, uV f.least, uV f.top] 24)).alloc (.cells #[.int .i64 g.w, uV g.one, uV g.zero, uV g.least, uV g.top] 24)).alloc (.cells #[.int .i64 h.w, uV h.one, uV h.zero, uV h.least, uV h.top] 24)).alloc (.cells #[.int .i64 i.w, uV i.one, uV i.zero, uV i.least, uV i.top] 24)) := by
  refine ⟨(((BX.new _ _).alloc _).alloc _).alloc _, (BX.alloc (hp2 _ _ _) _).alloc _, BX.alloc (hp3 _ _ _ _) _, ?_, nxa (bel3 _ _ _ _) _⟩
  have := BX.new (((w.alloc (.cells #[.int .i64 f.w, uV f.one, uV f.zero, uV f.least, uV f.top] 24)).alloc (.cells #[.int .i64 g.w, uV g.one, uV g.zero, uV g.least, uV g.top] 24)).alloc (.cells #[.int .i64 h.w, uV h.one, uV h.zero, uV h.least, uV h.top] 24)) i
  simp at this
  exact this
theorem bx_drew {W : World} {g : Nat} {f : Fc} (h : BX W g f) : BX W.drew g f := h
theorem two_set {W w : World} {a b : Nat} {x y : Fc} (hx : BX W a x) (hy : BX W b y) (hb : Below w.heap.size w W) (hab : a ≠ b) (ha : w.heap.size ≤ a) (hbb : w.heap.size ≤ b) (f g : Fc) :
    BX ((((((((((W.setCell ⟨a, 0, none⟩ (.int .i64 f.w)).setCell ⟨a, 1, none⟩ (.int .u64 (f.one : Int))).setCell ⟨a, 2, none⟩ (.int .u64 (f.zero : Int))).setCell ⟨a, 3, none⟩ (.int .u64 (f.least : Int))).setCell ⟨a, 4, none⟩ (.int .u64 (f.top : Int))).setCell ⟨b, 0, none⟩ (.int .i64 g.w)).setCell ⟨b, 1, none⟩ (.int .u64 (g.one : Int))).setCell ⟨b, 2, none⟩ (.int .u64 (g.zero : Int))).setCell ⟨b, 3, none⟩ (.int .u64 (g.least : Int))).setCell ⟨b, 4, none⟩ (.int .u64 (g.top : Int))).drew a f ∧ BX ((((((((((W.setCell ⟨a, 0, none⟩ (.int .i64 f.w)).setCell ⟨a, 1, none⟩ (.int .u64 (f.one : Int))).setCell ⟨a, 2, none⟩ (.int .u64 (f.zero : Int))).setCell ⟨a, 3, none⟩ (.int .u64 (f.least : Int))).setCell ⟨a, 4, none⟩ (.int .u64 (f.top : Int))).setCell ⟨b, 0, none⟩ (.int .i64 g.w)).setCell ⟨b, 1, none⟩ (.int .u64 (g.one : Int))).setCell ⟨b, 2, none⟩ (.int .u64 (g.zero : Int))).setCell ⟨b, 3, none⟩ (.int .u64 (g.least : Int))).setCell ⟨b, 4, none⟩ (.int .u64 (g.top : Int))).drew b g ∧ Below w.heap.size w ((((((((((W.setCell ⟨a, 0, none⟩ (.int .i64 f.w)).setCell ⟨a, 1, none⟩ (.int .u64 (f.one : Int))).setCell ⟨a, 2, none⟩ (.int .u64 (f.zero : Int))).setCell ⟨a, 3, none⟩ (.int .u64 (f.least : Int))).setCell ⟨a, 4, none⟩ (.int .u64 (f.top : Int))).setCell ⟨b, 0, none⟩ (.int .i64 g.w)).setCell ⟨b, 1, none⟩ (.int .u64 (g.one : Int))).setCell ⟨b, 2, none⟩ (.int .u64 (g.zero : Int))).setCell ⟨b, 3, none⟩ (.int .u64 (g.least : Int))).setCell ⟨b, 4, none⟩ (.int .u64 (g.top : Int))).drew := by
  have hA : BX (((((W.setCell ⟨a, 0, none⟩ (.int .i64 f.w)).setCell ⟨a, 1, none⟩ (.int .u64 (f.one : Int))).setCell ⟨a, 2, none⟩ (.int .u64 (f.zero : Int))).setCell ⟨a, 3, none⟩ (.int .u64 (f.least : Int))).setCell ⟨a, 4, none⟩ (.int .u64 (f.top : Int))) a f := set5_at hx _ _ _ _ _
  have hB : BX (((((W.setCell ⟨a, 0, none⟩ (.int .i64 f.w)).setCell ⟨a, 1, none⟩ (.int .u64 (f.one : Int))).setCell ⟨a, 2, none⟩ (.int .u64 (f.zero : Int))).setCell ⟨a, 3, none⟩ (.int .u64 (f.least : Int))).setCell ⟨a, 4, none⟩ (.int .u64 (f.top : Int))) b y := set5_o hy (fun e => hab e.symm) _ _ _ _ _
  have hC : Below w.heap.size w (((((W.setCell ⟨a, 0, none⟩ (.int .i64 f.w)).setCell ⟨a, 1, none⟩ (.int .u64 (f.one : Int))).setCell ⟨a, 2, none⟩ (.int .u64 (f.zero : Int))).setCell ⟨a, 3, none⟩ (.int .u64 (f.least : Int))).setCell ⟨a, 4, none⟩ (.int .u64 (f.top : Int))) := set5_bel hb ha _ _ _ _ _
  generalize (((((W.setCell ⟨a, 0, none⟩ (.int .i64 f.w)).setCell ⟨a, 1, none⟩ (.int .u64 (f.one : Int))).setCell ⟨a, 2, none⟩ (.int .u64 (f.zero : Int))).setCell ⟨a, 3, none⟩ (.int .u64 (f.least : Int))).setCell ⟨a, 4, none⟩ (.int .u64 (f.top : Int))) = W1 at *
  exact ⟨bx_drew (set5_o hA hab _ _ _ _ _), bx_drew (set5_at hB _ _ _ _ _), (set5_bel hC hbb _ _ _ _ _).drew⟩
/-- what both answers -/
def BP (f g va vb : Fc) (c : Nat) : Prop := (¬ (f.may ∧ g.may ∧ f.w = g.w) ∧ c = 5) ∨ ((f.may ∧ g.may ∧ f.w = g.w) ∧ ((∀ y, ¬ f.word y) ∨ (∀ y, ¬ g.word y)) ∧ c = 1) ∨ ((f.may ∧ g.may ∧ f.w = g.w) ∧ SET f va ∧ SET g vb ∧ c = 0)
set_option maxHeartbeats 4000000 in
theorem rboth_any (f g : Fc) (w : World) (hf64 : F64 f) (hg64 : F64 g) : Calls Tryz.prog 35 #[fV f, fV g] w fun e w' => ∃ va vb c, BP f g va vb c ∧ e = .returned (.tuple #[fV va, fV vb, eV c]) ∧ Below w.heap.size w w' := by
  have HMf : Hid (∀ W, Calls Tryz.prog 13 #[fV f] W fun e w' => ∃ b : Bool, (b = true ↔ f.may) ∧ e = .returned (.bool b) ∧ Below W.heap.size W w') := fun W => rmay_any f W
  have HMg : Hid (∀ W, Calls Tryz.prog 13 #[fV g] W fun e w' => ∃ b : Bool, (b = true ↔ g.may) ∧ e = .returned (.bool b) ∧ Below W.heap.size W w') := fun W => rmay_any g W
  have HSf : Hid (∀ W, Calls Tryz.prog 17 #[fV f] W fun e w' => ∃ v c, SA f v c ∧ e = .returned (.tuple #[fV v, eV c]) ∧ Below W.heap.size W w') := fun W => rSettle_any f W hf64
  have HSg : Hid (∀ W, Calls Tryz.prog 17 #[fV g] W fun e w' => ∃ v c, SA g v c ∧ e = .returned (.tuple #[fV v, eV c]) ∧ Below W.heap.size W w') := fun W => rSettle_any g W hg64
  clear hf64 hg64
  obtain ⟨w1, hw1⟩ : ∃ w1, (((w.alloc (.cells #[.int .i64 f.w, uV f.one, uV f.zero, uV f.least, uV f.top] 24)).alloc (.cells #[.int .i64 g.w, uV g.one, uV g.zero, uV g.least, uV g.top] 24)).alloc (.cells #[.int .i64 0, .int .u64 0, .int .u64 0, .int .u64 0, .int .u64 0] 24)).alloc (.cells #[.int .i64 0, .int .u64 0, .int .u64 0, .int .u64 0, .int .u64 0] 24) = w1 := ⟨_, rfl⟩
  have HS_w1 : Hid (BX w1 w.heap.size f ∧ BX w1 (w.heap.size + 1) g ∧ BX w1 (w.heap.size + 1 + 1) zF ∧ BX w1 (w.heap.size + 1 + 1 + 1) zF ∧ Below w.heap.size w w1) := by
    rw [← hw1]
    exact boxes4 w f g zF zF
  obtain ⟨c0, c1, c2, c3, c4⟩ := HS_w1.out.1.c
  obtain ⟨d0, d1, d2, d3, d4⟩ := HS_w1.out.2.1.c
  go_enter Tryz.func35, Tryz.ntmps35
  go_wp2_with fail
  try rw [hw1]
  refine (HMf.out _).mono ?_
  rintro e w2 ⟨b, hbm, rfl, hb⟩
  have HS_w2 : Hid (BX w2 w.heap.size f ∧ BX w2 (w.heap.size + 1) g ∧ BX w2 (w.heap.size + 1 + 1) zF ∧ BX w2 (w.heap.size + 1 + 1 + 1) zF ∧ Below w.heap.size w w2) := ⟨HS_w1.out.1.next hb, HS_w1.out.2.1.next hb, HS_w1.out.2.2.1.next hb, HS_w1.out.2.2.2.1.next hb, nx HS_w1.out.2.2.2.2 hb⟩
  have HBM : Hid (b = true ↔ f.may) := hbm
  clear c0 c1 c2 c3 c4 d0 d1 d2 d3 d4 hb hbm HS_w1 hw1 w1
  obtain ⟨c0, c1, c2, c3, c4⟩ := HS_w2.out.1.c
  obtain ⟨d0, d1, d2, d3, d4⟩ := HS_w2.out.2.1.c
  have z2 := HS_w2.out.2.2.1.c
  have y2 := HS_w2.out.2.2.1.fz
  have z3 := HS_w2.out.2.2.2.1.c
  have y3 := HS_w2.out.2.2.2.1.fz
  cases b with
  | false =>
    have HNO : Hid (∀ va vb, BP f g va vb 5) := fun va vb => Or.inl ⟨fun h => absurd (HBM.out.2 h.1) (by simp), rfl⟩
    go_wp2_with fail
    first | go_region | fail
    all_goals go_wp2_with fail
    all_goals
      (have HZ : Hid (BX ((((((((((w2.setCell ⟨w.heap.size + 1 + 1, 0, none⟩ (.int .i64 f.w)).setCell ⟨w.heap.size + 1 + 1, 1, none⟩ (.int .u64 (f.one : Int))).setCell ⟨w.heap.size + 1 + 1, 2, none⟩ (.int .u64 (f.zero : Int))).setCell ⟨w.heap.size + 1 + 1, 3, none⟩ (.int .u64 (f.least : Int))).setCell ⟨w.heap.size + 1 + 1, 4, none⟩ (.int .u64 (f.top : Int))).setCell ⟨w.heap.size + 1 + 1 + 1, 0, none⟩ (.int .i64 g.w)).setCell ⟨w.heap.size + 1 + 1 + 1, 1, none⟩ (.int .u64 (g.one : Int))).setCell ⟨w.heap.size + 1 + 1 + 1, 2, none⟩ (.int .u64 (g.zero : Int))).setCell ⟨w.heap.size + 1 + 1 + 1, 3, none⟩ (.int .u64 (g.least : Int))).setCell ⟨w.heap.size + 1 + 1 + 1, 4, none⟩ (.int .u64 (g.top : Int))).drew (w.heap.size + 1 + 1) f ∧ BX ((((((((((w2.setCell ⟨w.heap.size + 1 + 1, 0, none⟩ (.int .i64 f.w)).setCell ⟨w.heap.size + 1 + 1, 1, none⟩ (.int .u64 (f.one : Int))).setCell ⟨w.heap.size + 1 + 1, 2, none⟩ (.int .u64 (f.zero : Int))).setCell ⟨w.heap.size + 1 + 1, 3, none⟩ (.int .u64 (f.least : Int))).setCell ⟨w.heap.size + 1 + 1, 4, none⟩ (.int .u64 (f.top : Int))).setCell ⟨w.heap.size + 1 + 1 + 1, 0, none⟩ (.int .i64 g.w)).setCell ⟨w.heap.size + 1 + 1 + 1, 1, none⟩ (.int .u64 (g.one : Int))).setCell ⟨w.heap.size + 1 + 1 + 1, 2, none⟩ (.int .u64 (g.zero : Int))).setCell ⟨w.heap.size + 1 + 1 + 1, 3, none⟩ (.int .u64 (g.least : Int))).setCell ⟨w.heap.size + 1 + 1 + 1, 4, none⟩ (.int .u64 (g.top : Int))).drew (w.heap.size + 1 + 1 + 1) g ∧ Below w.heap.size w ((((((((((w2.setCell ⟨w.heap.size + 1 + 1, 0, none⟩ (.int .i64 f.w)).setCell ⟨w.heap.size + 1 + 1, 1, none⟩ (.int .u64 (f.one : Int))).setCell ⟨w.heap.size + 1 + 1, 2, none⟩ (.int .u64 (f.zero : Int))).setCell ⟨w.heap.size + 1 + 1, 3, none⟩ (.int .u64 (f.least : Int))).setCell ⟨w.heap.size + 1 + 1, 4, none⟩ (.int .u64 (f.top : Int))).setCell ⟨w.heap.size + 1 + 1 + 1, 0, none⟩ (.int .i64 g.w)).setCell ⟨w.heap.size + 1 + 1 + 1, 1, none⟩ (.int .u64 (g.one : Int))).setCell ⟨w.heap.size + 1 + 1 + 1, 2, none⟩ (.int .u64 (g.zero : Int))).setCell ⟨w.heap.size + 1 + 1 + 1, 3, none⟩ (.int .u64 (g.least : Int))).setCell ⟨w.heap.size + 1 + 1 + 1, 4, none⟩ (.int .u64 (g.top : Int))).drew) := two_set HS_w2.out.2.2.1 HS_w2.out.2.2.2.1 HS_w2.out.2.2.2.2 (by omega) (by omega) (by omega) f g
       generalize ((((((((((w2.setCell ⟨w.heap.size + 1 + 1, 0, none⟩ (.int .i64 f.w)).setCell ⟨w.heap.size + 1 + 1, 1, none⟩ (.int .u64 (f.one : Int))).setCell ⟨w.heap.size + 1 + 1, 2, none⟩ (.int .u64 (f.zero : Int))).setCell ⟨w.heap.size + 1 + 1, 3, none⟩ (.int .u64 (f.least : Int))).setCell ⟨w.heap.size + 1 + 1, 4, none⟩ (.int .u64 (f.top : Int))).setCell ⟨w.heap.size + 1 + 1 + 1, 0, none⟩ (.int .i64 g.w)).setCell ⟨w.heap.size + 1 + 1 + 1, 1, none⟩ (.int .u64 (g.one : Int))).setCell ⟨w.heap.size + 1 + 1 + 1, 2, none⟩ (.int .u64 (g.zero : Int))).setCell ⟨w.heap.size + 1 + 1 + 1, 3, none⟩ (.int .u64 (g.least : Int))).setCell ⟨w.heap.size + 1 + 1 + 1, 4, none⟩ (.int .u64 (g.top : Int))).drew = wz at HZ ⊢
       refine bodyPost_ret (res3 rfl _ _ (w.heap.size + 1 + 1) (w.heap.size + 1 + 1 + 1) _ _ _ _ _ _ _ rfl HZ.out.1 rfl rfl HZ.out.2.1 rfl rfl) rfl ?_
       exact ⟨f, g, 5, HNO.out _ _, rfl, HZ.out.2.2⟩)
  | true =>
    have HMM : Hid f.may := HBM.out.1 rfl
    go_wp2_with fail
    refine (HMg.out _).mono ?_
    rintro e w3 ⟨b, hbm, rfl, hb⟩
    have HS_w3 : Hid (BX w3 w.heap.size f ∧ BX w3 (w.heap.size + 1) g ∧ BX w3 (w.heap.size + 1 + 1) zF ∧ BX w3 (w.heap.size + 1 + 1 + 1) zF ∧ Below w.heap.size w w3) := ⟨HS_w2.out.1.next hb, HS_w2.out.2.1.next hb, HS_w2.out.2.2.1.next hb, HS_w2.out.2.2.2.1.next hb, nx HS_w2.out.2.2.2.2 hb⟩
    have HBG : Hid (b = true ↔ g.may) := hbm
    clear c0 c1 c2 c3 c4 d0 d1 d2 d3 d4 z2 y2 z3 y3 hb hbm HS_w2 w2
    obtain ⟨c0, c1, c2, c3, c4⟩ := HS_w3.out.1.c
    obtain ⟨d0, d1, d2, d3, d4⟩ := HS_w3.out.2.1.c
    have z2 := HS_w3.out.2.2.1.c
    have y2 := HS_w3.out.2.2.1.fz
    have z3 := HS_w3.out.2.2.2.1.c
    have y3 := HS_w3.out.2.2.2.1.fz
    cases b with
    | false =>
      have HNO : Hid (∀ va vb, BP f g va vb 5) := fun va vb => Or.inl ⟨fun h => absurd (HBG.out.2 h.2.1) (by simp), rfl⟩
      go_wp2_with fail
      first | go_region | fail
      all_goals go_wp2_with fail
      all_goals
        (have HZ : Hid (BX ((((((((((w3.setCell ⟨w.heap.size + 1 + 1, 0, none⟩ (.int .i64 f.w)).setCell ⟨w.heap.size + 1 + 1, 1, none⟩ (.int .u64 (f.one : Int))).setCell ⟨w.heap.size + 1 + 1, 2, none⟩ (.int .u64 (f.zero : Int))).setCell ⟨w.heap.size + 1 + 1, 3, none⟩ (.int .u64 (f.least : Int))).setCell ⟨w.heap.size + 1 + 1, 4, none⟩ (.int .u64 (f.top : Int))).setCell ⟨w.heap.size + 1 + 1 + 1, 0, none⟩ (.int .i64 g.w)).setCell ⟨w.heap.size + 1 + 1 + 1, 1, none⟩ (.int .u64 (g.one : Int))).setCell ⟨w.heap.size + 1 + 1 + 1, 2, none⟩ (.int .u64 (g.zero : Int))).setCell ⟨w.heap.size + 1 + 1 + 1, 3, none⟩ (.int .u64 (g.least : Int))).setCell ⟨w.heap.size + 1 + 1 + 1, 4, none⟩ (.int .u64 (g.top : Int))).drew (w.heap.size + 1 + 1) f ∧ BX ((((((((((w3.setCell ⟨w.heap.size + 1 + 1, 0, none⟩ (.int .i64 f.w)).setCell ⟨w.heap.size + 1 + 1, 1, none⟩ (.int .u64 (f.one : Int))).setCell ⟨w.heap.size + 1 + 1, 2, none⟩ (.int .u64 (f.zero : Int))).setCell ⟨w.heap.size + 1 + 1, 3, none⟩ (.int .u64 (f.least : Int))).setCell ⟨w.heap.size + 1 + 1, 4, none⟩ (.int .u64 (f.top : Int))).setCell ⟨w.heap.size + 1 + 1 + 1, 0, none⟩ (.int .i64 g.w)).setCell ⟨w.heap.size + 1 + 1 + 1, 1, none⟩ (.int .u64 (g.one : Int))).setCell ⟨w.heap.size + 1 + 1 + 1, 2, none⟩ (.int .u64 (g.zero : Int))).setCell ⟨w.heap.size + 1 + 1 + 1, 3, none⟩ (.int .u64 (g.least : Int))).setCell ⟨w.heap.size + 1 + 1 + 1, 4, none⟩ (.int .u64 (g.top : Int))).drew (w.heap.size + 1 + 1 + 1) g ∧ Below w.heap.size w ((((((((((w3.setCell ⟨w.heap.size + 1 + 1, 0, none⟩ (.int .i64 f.w)).setCell ⟨w.heap.size + 1 + 1, 1, none⟩ (.int .u64 (f.one : Int))).setCell ⟨w.heap.size + 1 + 1, 2, none⟩ (.int .u64 (f.zero : Int))).setCell ⟨w.heap.size + 1 + 1, 3, none⟩ (.int .u64 (f.least : Int))).setCell ⟨w.heap.size + 1 + 1, 4, none⟩ (.int .u64 (f.top : Int))).setCell ⟨w.heap.size + 1 + 1 + 1, 0, none⟩ (.int .i64 g.w)).setCell ⟨w.heap.size + 1 + 1 + 1, 1, none⟩ (.int .u64 (g.one : Int))).setCell ⟨w.heap.size + 1 + 1 + 1, 2, none⟩ (.int .u64 (g.zero : Int))).setCell ⟨w.heap.size + 1 + 1 + 1, 3, none⟩ (.int .u64 (g.least : Int))).setCell ⟨w.heap.size + 1 + 1 + 1, 4, none⟩ (.int .u64 (g.top : Int))).drew) := two_set HS_w3.out.2.2.1 HS_w3.out.2.2.2.1 HS_w3.out.2.2.2.2 (by omega) (by omega) (by omega) f g
         generalize ((((((((((w3.setCell ⟨w.heap.size + 1 + 1, 0, none⟩ (.int .i64 f.w)).setCell ⟨w.heap.size + 1 + 1, 1, none⟩ (.int .u64 (f.one : Int))).setCell ⟨w.heap.size + 1 + 1, 2, none⟩ (.int .u64 (f.zero : Int))).setCell ⟨w.heap.size + 1 + 1, 3, none⟩ (.int .u64 (f.least : Int))).setCell ⟨w.heap.size + 1 + 1, 4, none⟩ (.int .u64 (f.top : Int))).setCell ⟨w.heap.size + 1 + 1 + 1, 0, none⟩ (.int .i64 g.w)).setCell ⟨w.heap.size + 1 + 1 + 1, 1, none⟩ (.int .u64 (g.one : Int))).setCell ⟨w.heap.size + 1 + 1 + 1, 2, none⟩ (.int .u64 (g.zero : Int))).setCell ⟨w.heap.size + 1 + 1 + 1, 3, none⟩ (.int .u64 (g.least : Int))).setCell ⟨w.heap.size + 1 + 1 + 1, 4, none⟩ (.int .u64 (g.top : Int))).drew = wz at HZ ⊢
         refine bodyPost_ret (res3 rfl _ _ (w.heap.size + 1 + 1) (w.heap.size + 1 + 1 + 1) _ _ _ _ _ _ _ rfl HZ.out.1 rfl rfl HZ.out.2.1 rfl rfl) rfl ?_
         exact ⟨f, g, 5, HNO.out _ _, rfl, HZ.out.2.2⟩)
    | true =>
      have HMG : Hid g.may := HBG.out.1 rfl
      by_cases hw : f.w = g.w
      · have HGD : Hid (f.may ∧ g.may ∧ f.w = g.w) := ⟨HMM.out, HMG.out, hw⟩
        have q : (f.w != g.w) = false := by simp [hw]
        clear hw
        go_wp2_with fail
        refine (HSf.out _).mono ?_
        rintro e w4 ⟨va, c, hv, rfl, hb⟩
        have HS_w4 : Hid (BX w4 w.heap.size f ∧ BX w4 (w.heap.size + 1) g ∧ BX w4 (w.heap.size + 1 + 1) zF ∧ BX w4 (w.heap.size + 1 + 1 + 1) zF ∧ Below w.heap.size w w4) := ⟨HS_w3.out.1.next hb, HS_w3.out.2.1.next hb, HS_w3.out.2.2.1.next hb, HS_w3.out.2.2.2.1.next hb, nx HS_w3.out.2.2.2.2 hb⟩
        have HVA : Hid (SA f va c) := hv
        clear c0 c1 c2 c3 c4 d0 d1 d2 d3 d4 z2 y2 z3 y3 hb hv HS_w3 w3
        obtain ⟨c0, c1, c2, c3, c4⟩ := HS_w4.out.1.c
        obtain ⟨d0, d1, d2, d3, d4⟩ := HS_w4.out.2.1.c
        have z2 := HS_w4.out.2.2.1.c
        have y2 := HS_w4.out.2.2.1.fz
        have z3 := HS_w4.out.2.2.2.1.c
        have y3 := HS_w4.out.2.2.2.1.fz
        have hl4 : w.heap.size + 1 + 1 + 1 < w4.heap.size := HS_w4.out.2.2.2.1.lt
        have hn1 : ¬ w.heap.size = w4.heap.size := by omega
        have hn2 : ¬ w.heap.size + 1 = w4.heap.size := by omega
        have hn3 : ¬ w.heap.size + 1 + 1 = w4.heap.size := by omega
        have hn4 : ¬ w.heap.size + 1 + 1 + 1 = w4.heap.size := by omega
        rcases HVA.out with ⟨a, -⟩ | ⟨-, r, hr, rfl, rfl⟩
        · exact absurd HGD.out.1 a
        · obtain ⟨w5, hw5⟩ : ∃ w5, w4.alloc (.cells #[.int .i64 (r.getD zF).w, uV (r.getD zF).one, uV (r.getD zF).zero, uV (r.getD zF).least, uV (r.getD zF).top] 24) = w5 := ⟨_, rfl⟩
          have HS_w5 : Hid (BX w5 w.heap.size f ∧ BX w5 (w.heap.size + 1) g ∧ BX w5 (w.heap.size + 1 + 1) zF ∧ BX w5 (w.heap.size + 1 + 1 + 1) zF ∧ Below w.heap.size w w5) := by
            rw [← hw5]; exact ⟨HS_w4.out.1.alloc _, HS_w4.out.2.1.alloc _, HS_w4.out.2.2.1.alloc _, HS_w4.out.2.2.2.1.alloc _, nxa HS_w4.out.2.2.2.2 _⟩
          have HVA5 : Hid (BX w5 w4.heap.size (r.getD zF)) := by rw [← hw5]; exact BX.new _ _
          clear c0 c1 c2 c3 c4 d0 d1 d2 d3 d4 z2 y2 z3 y3
          obtain ⟨c0, c1, c2, c3, c4⟩ := HS_w5.out.1.c
          obtain ⟨d0, d1, d2, d3, d4⟩ := HS_w5.out.2.1.c
          have z2 := HS_w5.out.2.2.1.c
          have y2 := HS_w5.out.2.2.1.fz
          have z3 := HS_w5.out.2.2.2.1.c
          have y3 := HS_w5.out.2.2.2.1.fz
          cases r with
          | none =>
            have HNO : Hid (∀ va vb, BP f g va vb 1) := fun va vb => Or.inr (Or.inl ⟨HGD.out, Or.inl hr, rfl⟩)
            dsimp only [Option.getD, Option.isSome] at hw5 HVA5 ⊢
            go_wp2_with fail
            try rw [hw5]
            first | go_region | fail
            all_goals go_wp2_with fail
            all_goals
              (have HZ : Hid (BX ((((((((((w5.setCell ⟨w.heap.size + 1 + 1, 0, none⟩ (.int .i64 f.w)).setCell ⟨w.heap.size + 1 + 1, 1, none⟩ (.int .u64 (f.one : Int))).setCell ⟨w.heap.size + 1 + 1, 2, none⟩ (.int .u64 (f.zero : Int))).setCell ⟨w.heap.size + 1 + 1, 3, none⟩ (.int .u64 (f.least : Int))).setCell ⟨w.heap.size + 1 + 1, 4, none⟩ (.int .u64 (f.top : Int))).setCell ⟨w.heap.size + 1 + 1 + 1, 0, none⟩ (.int .i64 g.w)).setCell ⟨w.heap.size + 1 + 1 + 1, 1, none⟩ (.int .u64 (g.one : Int))).setCell ⟨w.heap.size + 1 + 1 + 1, 2, none⟩ (.int .u64 (g.zero : Int))).setCell ⟨w.heap.size + 1 + 1 + 1, 3, none⟩ (.int .u64 (g.least : Int))).setCell ⟨w.heap.size + 1 + 1 + 1, 4, none⟩ (.int .u64 (g.top : Int))).drew (w.heap.size + 1 + 1) f ∧ BX ((((((((((w5.setCell ⟨w.heap.size + 1 + 1, 0, none⟩ (.int .i64 f.w)).setCell ⟨w.heap.size + 1 + 1, 1, none⟩ (.int .u64 (f.one : Int))).setCell ⟨w.heap.size + 1 + 1, 2, none⟩ (.int .u64 (f.zero : Int))).setCell ⟨w.heap.size + 1 + 1, 3, none⟩ (.int .u64 (f.least : Int))).setCell ⟨w.heap.size + 1 + 1, 4, none⟩ (.int .u64 (f.top : Int))).setCell ⟨w.heap.size + 1 + 1 + 1, 0, none⟩ (.int .i64 g.w)).setCell ⟨w.heap.size + 1 + 1 + 1, 1, none⟩ (.int .u64 (g.one : Int))).setCell ⟨w.heap.size + 1 + 1 + 1, 2, none⟩ (.int .u64 (g.zero : Int))).setCell ⟨w.heap.size + 1 + 1 + 1, 3, none⟩ (.int .u64 (g.least : Int))).setCell ⟨w.heap.size + 1 + 1 + 1, 4, none⟩ (.int .u64 (g.top : Int))).drew (w.heap.size + 1 + 1 + 1) g ∧ Below w.heap.size w ((((((((((w5.setCell ⟨w.heap.size + 1 + 1, 0, none⟩ (.int .i64 f.w)).setCell ⟨w.heap.size + 1 + 1, 1, none⟩ (.int .u64 (f.one : Int))).setCell ⟨w.heap.size + 1 + 1, 2, none⟩ (.int .u64 (f.zero : Int))).setCell ⟨w.heap.size + 1 + 1, 3, none⟩ (.int .u64 (f.least : Int))).setCell ⟨w.heap.size + 1 + 1, 4, none⟩ (.int .u64 (f.top : Int))).setCell ⟨w.heap.size + 1 + 1 + 1, 0, none⟩ (.int .i64 g.w)).setCell ⟨w.heap.size + 1 + 1 + 1, 1, none⟩ (.int .u64 (g.one : Int))).setCell ⟨w.heap.size + 1 + 1 + 1, 2, none⟩ (.int .u64 (g.zero : Int))).setCell ⟨w.heap.size + 1 + 1 + 1, 3, none⟩ (.int .u64 (g.least : Int))).setCell ⟨w.heap.size + 1 + 1 + 1, 4, none⟩ (.int .u64 (g.top : Int))).drew) := two_set HS_w5.out.2.2.1 HS_w5.out.2.2.2.1 HS_w5.out.2.2.2.2 (by omega) (by omega) (by omega) f g
               generalize ((((((((((w5.setCell ⟨w.heap.size + 1 + 1, 0, none⟩ (.int .i64 f.w)).setCell ⟨w.heap.size + 1 + 1, 1, none⟩ (.int .u64 (f.one : Int))).setCell ⟨w.heap.size + 1 + 1, 2, none⟩ (.int .u64 (f.zero : Int))).setCell ⟨w.heap.size + 1 + 1, 3, none⟩ (.int .u64 (f.least : Int))).setCell ⟨w.heap.size + 1 + 1, 4, none⟩ (.int .u64 (f.top : Int))).setCell ⟨w.heap.size + 1 + 1 + 1, 0, none⟩ (.int .i64 g.w)).setCell ⟨w.heap.size + 1 + 1 + 1, 1, none⟩ (.int .u64 (g.one : Int))).setCell ⟨w.heap.size + 1 + 1 + 1, 2, none⟩ (.int .u64 (g.zero : Int))).setCell ⟨w.heap.size + 1 + 1 + 1, 3, none⟩ (.int .u64 (g.least : Int))).setCell ⟨w.heap.size + 1 + 1 + 1, 4, none⟩ (.int .u64 (g.top : Int))).drew = wz at HZ ⊢
               refine bodyPost_ret (res3 rfl _ _ (w.heap.size + 1 + 1) (w.heap.size + 1 + 1 + 1) _ _ _ _ _ _ _ rfl HZ.out.1 rfl rfl HZ.out.2.1 rfl rfl) rfl ?_
               exact ⟨f, g, 1, HNO.out _ _, rfl, HZ.out.2.2⟩)
          | some va =>
            have HSA : Hid (SET f va) := hr
            dsimp only [Option.getD, Option.isSome] at hw5 HVA5 ⊢
            go_wp2_with fail
            try rw [hw5]
            refine (HSg.out _).mono ?_
            rintro e w6 ⟨vb, c, hv, rfl, hb⟩
            have HS_w6 : Hid (BX w6 w.heap.size f ∧ BX w6 (w.heap.size + 1) g ∧ BX w6 (w.heap.size + 1 + 1) zF ∧ BX w6 (w.heap.size + 1 + 1 + 1) zF ∧ Below w.heap.size w w6) := ⟨HS_w5.out.1.next hb, HS_w5.out.2.1.next hb, HS_w5.out.2.2.1.next hb, HS_w5.out.2.2.2.1.next hb, nx HS_w5.out.2.2.2.2 hb⟩
            have HVA6 : Hid (BX w6 w4.heap.size va) := HVA5.out.next hb
            have hl6 : w4.heap.size < w6.heap.size := HVA6.out.lt
            clear c0 c1 c2 c3 c4 d0 d1 d2 d3 d4 z2 y2 z3 y3 hb
            rcases hv with ⟨a, -⟩ | ⟨-, r, hr2, rfl, rfl⟩
            · exact absurd HGD.out.2.1 a
            · obtain ⟨w7, hw7⟩ : ∃ w7, w6.alloc (.cells #[.int .i64 (r.getD zF).w, uV (r.getD zF).one, uV (r.getD zF).zero, uV (r.getD zF).least, uV (r.getD zF).top] 24) = w7 := ⟨_, rfl⟩
              have HS_w7 : Hid (BX w7 w.heap.size f ∧ BX w7 (w.heap.size + 1) g ∧ BX w7 (w.heap.size + 1 + 1) zF ∧ BX w7 (w.heap.size + 1 + 1 + 1) zF ∧ Below w.heap.size w w7) := by
                rw [← hw7]; exact ⟨HS_w6.out.1.alloc _, HS_w6.out.2.1.alloc _, HS_w6.out.2.2.1.alloc _, HS_w6.out.2.2.2.1.alloc _, nxa HS_w6.out.2.2.2.2 _⟩
              have HVA7 : Hid (BX w7 w4.heap.size va) := by rw [← hw7]; exact HVA6.out.alloc _
              have HVB7 : Hid (BX w7 w6.heap.size (r.getD zF)) := by rw [← hw7]; exact BX.new _ _
              have k1 : ¬ w4.heap.size = w.heap.size + 1 + 1 := by omega
              have k2 : ¬ w4.heap.size = w.heap.size + 1 + 1 + 1 := by omega
              have k3 : ¬ w6.heap.size = w.heap.size + 1 + 1 := by omega
              have k4 : ¬ w6.heap.size = w.heap.size + 1 + 1 + 1 := by omega
              have a7 := HVA7.out.c
              have z2 := HS_w7.out.2.2.1.c
              have y2 := HS_w7.out.2.2.1.fz
              have z3 := HS_w7.out.2.2.2.1.c
              have y3 := HS_w7.out.2.2.2.1.fz
              cases r with
              | none =>
                have HBP : Hid (BP f g va zF 1) := Or.inr (Or.inl ⟨HGD.out, Or.inr hr2, rfl⟩)
                dsimp only [Option.getD, Option.isSome] at hw7 HVB7 ⊢
                have b7 := HVB7.out.c
                go_wp2_with fail
                try rw [hw7]
                first | go_region | fail
                all_goals go_wp2_with fail
                all_goals
                  (have HZ : Hid (BX ((((((((((w7.setCell ⟨w.heap.size + 1 + 1, 0, none⟩ (.int .i64 va.w)).setCell ⟨w.heap.size + 1 + 1, 1, none⟩ (.int .u64 (va.one : Int))).setCell ⟨w.heap.size + 1 + 1, 2, none⟩ (.int .u64 (va.zero : Int))).setCell ⟨w.heap.size + 1 + 1, 3, none⟩ (.int .u64 (va.least : Int))).setCell ⟨w.heap.size + 1 + 1, 4, none⟩ (.int .u64 (va.top : Int))).setCell ⟨w.heap.size + 1 + 1 + 1, 0, none⟩ (.int .i64 zF.w)).setCell ⟨w.heap.size + 1 + 1 + 1, 1, none⟩ (.int .u64 (zF.one : Int))).setCell ⟨w.heap.size + 1 + 1 + 1, 2, none⟩ (.int .u64 (zF.zero : Int))).setCell ⟨w.heap.size + 1 + 1 + 1, 3, none⟩ (.int .u64 (zF.least : Int))).setCell ⟨w.heap.size + 1 + 1 + 1, 4, none⟩ (.int .u64 (zF.top : Int))).drew (w.heap.size + 1 + 1) va ∧ BX ((((((((((w7.setCell ⟨w.heap.size + 1 + 1, 0, none⟩ (.int .i64 va.w)).setCell ⟨w.heap.size + 1 + 1, 1, none⟩ (.int .u64 (va.one : Int))).setCell ⟨w.heap.size + 1 + 1, 2, none⟩ (.int .u64 (va.zero : Int))).setCell ⟨w.heap.size + 1 + 1, 3, none⟩ (.int .u64 (va.least : Int))).setCell ⟨w.heap.size + 1 + 1, 4, none⟩ (.int .u64 (va.top : Int))).setCell ⟨w.heap.size + 1 + 1 + 1, 0, none⟩ (.int .i64 zF.w)).setCell ⟨w.heap.size + 1 + 1 + 1, 1, none⟩ (.int .u64 (zF.one : Int))).setCell ⟨w.heap.size + 1 + 1 + 1, 2, none⟩ (.int .u64 (zF.zero : Int))).setCell ⟨w.heap.size + 1 + 1 + 1, 3, none⟩ (.int .u64 (zF.least : Int))).setCell ⟨w.heap.size + 1 + 1 + 1, 4, none⟩ (.int .u64 (zF.top : Int))).drew (w.heap.size + 1 + 1 + 1) zF ∧ Below w.heap.size w ((((((((((w7.setCell ⟨w.heap.size + 1 + 1, 0, none⟩ (.int .i64 va.w)).setCell ⟨w.heap.size + 1 + 1, 1, none⟩ (.int .u64 (va.one : Int))).setCell ⟨w.heap.size + 1 + 1, 2, none⟩ (.int .u64 (va.zero : Int))).setCell ⟨w.heap.size + 1 + 1, 3, none⟩ (.int .u64 (va.least : Int))).setCell ⟨w.heap.size + 1 + 1, 4, none⟩ (.int .u64 (va.top : Int))).setCell ⟨w.heap.size + 1 + 1 + 1, 0, none⟩ (.int .i64 zF.w)).setCell ⟨w.heap.size + 1 + 1 + 1, 1, none⟩ (.int .u64 (zF.one : Int))).setCell ⟨w.heap.size + 1 + 1 + 1, 2, none⟩ (.int .u64 (zF.zero : Int))).setCell ⟨w.heap.size + 1 + 1 + 1, 3, none⟩ (.int .u64 (zF.least : Int))).setCell ⟨w.heap.size + 1 + 1 + 1, 4, none⟩ (.int .u64 (zF.top : Int))).drew) := two_set HS_w7.out.2.2.1 HS_w7.out.2.2.2.1 HS_w7.out.2.2.2.2 (by omega) (by omega) (by omega) va zF
                   generalize ((((((((((w7.setCell ⟨w.heap.size + 1 + 1, 0, none⟩ (.int .i64 va.w)).setCell ⟨w.heap.size + 1 + 1, 1, none⟩ (.int .u64 (va.one : Int))).setCell ⟨w.heap.size + 1 + 1, 2, none⟩ (.int .u64 (va.zero : Int))).setCell ⟨w.heap.size + 1 + 1, 3, none⟩ (.int .u64 (va.least : Int))).setCell ⟨w.heap.size + 1 + 1, 4, none⟩ (.int .u64 (va.top : Int))).setCell ⟨w.heap.size + 1 + 1 + 1, 0, none⟩ (.int .i64 zF.w)).setCell ⟨w.heap.size + 1 + 1 + 1, 1, none⟩ (.int .u64 (zF.one : Int))).setCell ⟨w.heap.size + 1 + 1 + 1, 2, none⟩ (.int .u64 (zF.zero : Int))).setCell ⟨w.heap.size + 1 + 1 + 1, 3, none⟩ (.int .u64 (zF.least : Int))).setCell ⟨w.heap.size + 1 + 1 + 1, 4, none⟩ (.int .u64 (zF.top : Int))).drew = wz at HZ ⊢
                   refine bodyPost_ret (res3 rfl _ _ (w.heap.size + 1 + 1) (w.heap.size + 1 + 1 + 1) _ _ _ _ _ _ _ rfl HZ.out.1 rfl rfl HZ.out.2.1 rfl rfl) rfl ?_
                   exact ⟨va, zF, 1, HBP.out, rfl, HZ.out.2.2⟩)
              | some vb =>
                have HBP : Hid (BP f g va vb 0) := Or.inr (Or.inr ⟨HGD.out, HSA.out, hr2, rfl⟩)
                dsimp only [Option.getD, Option.isSome] at hw7 HVB7 ⊢
                have b7 := HVB7.out.c
                go_wp2_with fail
                try rw [hw7]
                first | go_region | fail
                all_goals go_wp2_with fail
                all_goals
                  (have HZ : Hid (BX ((((((((((w7.setCell ⟨w.heap.size + 1 + 1, 0, none⟩ (.int .i64 va.w)).setCell ⟨w.heap.size + 1 + 1, 1, none⟩ (.int .u64 (va.one : Int))).setCell ⟨w.heap.size + 1 + 1, 2, none⟩ (.int .u64 (va.zero : Int))).setCell ⟨w.heap.size + 1 + 1, 3, none⟩ (.int .u64 (va.least : Int))).setCell ⟨w.heap.size + 1 + 1, 4, none⟩ (.int .u64 (va.top : Int))).setCell ⟨w.heap.size + 1 + 1 + 1, 0, none⟩ (.int .i64 vb.w)).setCell ⟨w.heap.size + 1 + 1 + 1, 1, none⟩ (.int .u64 (vb.one : Int))).setCell ⟨w.heap.size + 1 + 1 + 1, 2, none⟩ (.int .u64 (vb.zero : Int))).setCell ⟨w.heap.size + 1 + 1 + 1, 3, none⟩ (.int .u64 (vb.least : Int))).setCell ⟨w.heap.size + 1 + 1 + 1, 4, none⟩ (.int .u64 (vb.top : Int))).drew (w.heap.size + 1 + 1) va ∧ BX ((((((((((w7.setCell ⟨w.heap.size + 1 + 1, 0, none⟩ (.int .i64 va.w)).setCell ⟨w.heap.size + 1 + 1, 1, none⟩ (.int .u64 (va.one : Int))).setCell ⟨w.heap.size + 1 + 1, 2, none⟩ (.int .u64 (va.zero : Int))).setCell ⟨w.heap.size + 1 + 1, 3, none⟩ (.int .u64 (va.least : Int))).setCell ⟨w.heap.size + 1 + 1, 4, none⟩ (.int .u64 (va.top : Int))).setCell ⟨w.heap.size + 1 + 1 + 1, 0, none⟩ (.int .i64 vb.w)).setCell ⟨w.heap.size + 1 + 1 + 1, 1, none⟩ (.int .u64 (vb.one : Int))).setCell ⟨w.heap.size + 1 + 1 + 1, 2, none⟩ (.int .u64 (vb.zero : Int))).setCell ⟨w.heap.size + 1 + 1 + 1, 3, none⟩ (.int .u64 (vb.least : Int))).setCell ⟨w.heap.size + 1 + 1 + 1, 4, none⟩ (.int .u64 (vb.top : Int))).drew (w.heap.size + 1 + 1 + 1) vb ∧ Below w.heap.size w ((((((((((w7.setCell ⟨w.heap.size + 1 + 1, 0, none⟩ (.int .i64 va.w)).setCell ⟨w.heap.size + 1 + 1, 1, none⟩ (.int .u64 (va.one : Int))).setCell ⟨w.heap.size + 1 + 1, 2, none⟩ (.int .u64 (va.zero : Int))).setCell ⟨w.heap.size + 1 + 1, 3, none⟩ (.int .u64 (va.least : Int))).setCell ⟨w.heap.size + 1 + 1, 4, none⟩ (.int .u64 (va.top : Int))).setCell ⟨w.heap.size + 1 + 1 + 1, 0, none⟩ (.int .i64 vb.w)).setCell ⟨w.heap.size + 1 + 1 + 1, 1, none⟩ (.int .u64 (vb.one : Int))).setCell ⟨w.heap.size + 1 + 1 + 1, 2, none⟩ (.int .u64 (vb.zero : Int))).setCell ⟨w.heap.size + 1 + 1 + 1, 3, none⟩ (.int .u64 (vb.least : Int))).setCell ⟨w.heap.size + 1 + 1 + 1, 4, none⟩ (.int .u64 (vb.top : Int))).drew) := two_set HS_w7.out.2.2.1 HS_w7.out.2.2.2.1 HS_w7.out.2.2.2.2 (by omega) (by omega) (by omega) va vb
                   generalize ((((((((((w7.setCell ⟨w.heap.size + 1 + 1, 0, none⟩ (.int .i64 va.w)).setCell ⟨w.heap.size + 1 + 1, 1, none⟩ (.int .u64 (va.one : Int))).setCell ⟨w.heap.size + 1 + 1, 2, none⟩ (.int .u64 (va.zero : Int))).setCell ⟨w.heap.size + 1 + 1, 3, none⟩ (.int .u64 (va.least : Int))).setCell ⟨w.heap.size + 1 + 1, 4, none⟩ (.int .u64 (va.top : Int))).setCell ⟨w.heap.size + 1 + 1 + 1, 0, none⟩ (.int .i64 vb.w)).setCell ⟨w.heap.size + 1 + 1 + 1, 1, none⟩ (.int .u64 (vb.one : Int))).setCell ⟨w.heap.size + 1 + 1 + 1, 2, none⟩ (.int .u64 (vb.zero : Int))).setCell ⟨w.heap.size + 1 + 1 + 1, 3, none⟩ (.int .u64 (vb.least : Int))).setCell ⟨w.heap.size + 1 + 1 + 1, 4, none⟩ (.int .u64 (vb.top : Int))).drew = wz at HZ ⊢
                   refine bodyPost_ret (res3 rfl _ _ (w.heap.size + 1 + 1) (w.heap.size + 1 + 1 + 1) _ _ _ _ _ _ _ rfl HZ.out.1 rfl rfl HZ.out.2.1 rfl rfl) rfl ?_
                   exact ⟨va, vb, 0, HBP.out, rfl, HZ.out.2.2⟩)
      · have HNO : Hid (∀ va vb, BP f g va vb 5) := fun va vb => Or.inl ⟨fun h => hw h.2.2, rfl⟩
        have q : (f.w != g.w) = true := by simp [hw]
        clear hw
        go_wp2_with fail
        first | go_region | fail
        all_goals go_wp2_with fail
        all_goals
          (have HZ : Hid (BX ((((((((((w3.setCell ⟨w.heap.size + 1 + 1, 0, none⟩ (.int .i64 f.w)).setCell ⟨w.heap.size + 1 + 1, 1, none⟩ (.int .u64 (f.one : Int))).setCell ⟨w.heap.size + 1 + 1, 2, none⟩ (.int .u64 (f.zero : Int))).setCell ⟨w.heap.size + 1 + 1, 3, none⟩ (.int .u64 (f.least : Int))).setCell ⟨w.heap.size + 1 + 1, 4, none⟩ (.int .u64 (f.top : Int))).setCell ⟨w.heap.size + 1 + 1 + 1, 0, none⟩ (.int .i64 g.w)).setCell ⟨w.heap.size + 1 + 1 + 1, 1, none⟩ (.int .u64 (g.one : Int))).setCell ⟨w.heap.size + 1 + 1 + 1, 2, none⟩ (.int .u64 (g.zero : Int))).setCell ⟨w.heap.size + 1 + 1 + 1, 3, none⟩ (.int .u64 (g.least : Int))).setCell ⟨w.heap.size + 1 + 1 + 1, 4, none⟩ (.int .u64 (g.top : Int))).drew (w.heap.size + 1 + 1) f ∧ BX ((((((((((w3.setCell ⟨w.heap.size + 1 + 1, 0, none⟩ (.int .i64 f.w)).setCell ⟨w.heap.size + 1 + 1, 1, none⟩ (.int .u64 (f.one : Int))).setCell ⟨w.heap.size + 1 + 1, 2, none⟩ (.int .u64 (f.zero : Int))).setCell ⟨w.heap.size + 1 + 1, 3, none⟩ (.int .u64 (f.least : Int))).setCell ⟨w.heap.size + 1 + 1, 4, none⟩ (.int .u64 (f.top : Int))).setCell ⟨w.heap.size + 1 + 1 + 1, 0, none⟩ (.int .i64 g.w)).setCell ⟨w.heap.size + 1 + 1 + 1, 1, none⟩ (.int .u64 (g.one : Int))).setCell ⟨w.heap.size + 1 + 1 + 1, 2, none⟩ (.int .u64 (g.zero : Int))).setCell ⟨w.heap.size + 1 + 1 + 1, 3, none⟩ (.int .u64 (g.least : Int))).setCell ⟨w.heap.size + 1 + 1 + 1, 4, none⟩ (.int .u64 (g.top : Int))).drew (w.heap.size + 1 + 1 + 1) g ∧ Below w.heap.size w ((((((((((w3.setCell ⟨w.heap.size + 1 + 1, 0, none⟩ (.int .i64 f.w)).setCell ⟨w.heap.size + 1 + 1, 1, none⟩ (.int .u64 (f.one : Int))).setCell ⟨w.heap.size + 1 + 1, 2, none⟩ (.int .u64 (f.zero : Int))).setCell ⟨w.heap.size + 1 + 1, 3, none⟩ (.int .u64 (f.least : Int))).setCell ⟨w.heap.size + 1 + 1, 4, none⟩ (.int .u64 (f.top : Int))).setCell ⟨w.heap.size + 1 + 1 + 1, 0, none⟩ (.int .i64 g.w)).setCell ⟨w.heap.size + 1 + 1 + 1, 1, none⟩ (.int .u64 (g.one : Int))).setCell ⟨w.heap.size + 1 + 1 + 1, 2, none⟩ (.int .u64 (g.zero : Int))).setCell ⟨w.heap.size + 1 + 1 + 1, 3, none⟩ (.int .u64 (g.least : Int))).setCell ⟨w.heap.size + 1 + 1 + 1, 4, none⟩ (.int .u64 (g.top : Int))).drew) := two_set HS_w3.out.2.2.1 HS_w3.out.2.2.2.1 HS_w3.out.2.2.2.2 (by omega) (by omega) (by omega) f g
           generalize ((((((((((w3.setCell ⟨w.heap.size + 1 + 1, 0, none⟩ (.int .i64 f.w)).setCell ⟨w.heap.size + 1 + 1, 1, none⟩ (.int .u64 (f.one : Int))).setCell ⟨w.heap.size + 1 + 1, 2, none⟩ (.int .u64 (f.zero : Int))).setCell ⟨w.heap.size + 1 + 1, 3, none⟩ (.int .u64 (f.least : Int))).setCell ⟨w.heap.size + 1 + 1, 4, none⟩ (.int .u64 (f.top : Int))).setCell ⟨w.heap.size + 1 + 1 + 1, 0, none⟩ (.int .i64 g.w)).setCell ⟨w.heap.size + 1 + 1 + 1, 1, none⟩ (.int .u64 (g.one : Int))).setCell ⟨w.heap.size + 1 + 1 + 1, 2, none⟩ (.int .u64 (g.zero : Int))).setCell ⟨w.heap.size + 1 + 1 + 1, 3, none⟩ (.int .u64 (g.least : Int))).setCell ⟨w.heap.size + 1 + 1 + 1, 4, none⟩ (.int .u64 (g.top : Int))).drew = wz at HZ ⊢
           refine bodyPost_ret (res3 rfl _ _ (w.heap.size + 1 + 1) (w.heap.size + 1 + 1 + 1) _ _ _ _ _ _ _ rfl HZ.out.1 rfl rfl HZ.out.2.1 rfl rfl) rfl ?_
           exact ⟨f, g, 5, HNO.out _ _, rfl, HZ.out.2.2⟩)
end Go.Proofs.YtioaogdandjdbaaGreatDoor
