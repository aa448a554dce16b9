import Derived.Test.YtopdbhkkmolllaaGreatDoorKnG
namespace Go.Proofs.YtopdbhkkmolllaaGreatDoor
open Go.ChangeShapes Go.WideShapes Go.ChangeAt Go.RowKit Go.Lib Go.Kn

theorem bel_drewN {w W : World} {n : Nat} (h : Below n w W) (k : Nat) : Below n w (W.drewN k) := ⟨h.os, h.tape, h.output, h.size, h.block⟩
theorem max4 (t : TypeId) (a b c d : Nat) (W : World) : (Builtin.max_ #[t, t, t, t] t #[uV a, uV b, uV c, uV d]).run Tryz.prog W = .ok (uV (max (max (max a b) c) d)) W := by
  simp [Builtin.max_, Builtin.max2, List.foldlM]
  repeat' split
  all_goals omega
theorem ret_b {a b : Bool} (h : a = b) : Ending.returned (.bool a) = .returned (.bool b) := by rw [h]
set_option maxHeartbeats 4000000 in
theorem may_any (f : Fc) (w : World) : Calls Tryz.prog 15 #[fV f] w fun e w' => ∃ b : Bool, (b = true ↔ f.may) ∧ e = .returned (.bool b) ∧ Below w.heap.size w w' := by
  have HI : Hid (∀ W, Calls Tryz.prog 18 #[.int .i64 f.w] W fun e w' => e = .returned (.bool (decide (0 ≤ f.w ∧ f.w ≤ 64))) ∧ w' = W) := fun W => isw_any f.w W
  by_cases h : 0 ≤ f.w ∧ f.w ≤ 64
  · have HO : Hid (∀ W, Calls Tryz.prog 19 #[.int .i64 f.w] W fun e w' => e = .returned (uV (mx f.w)) ∧ w' = W) := fun W => ones_any f.w W h.1 h.2
    rw [decide_eq_true h] at HI
    have HY : Hid (f.may ↔ f.one ≤ mx f.w ∧ f.zero ≤ mx f.w ∧ f.least ≤ mx f.w ∧ f.top ≤ mx f.w) := ⟨fun a => a.2.2, fun a => ⟨h.1, h.2, a⟩⟩
    generalize mx f.w = m at *
    generalize f.may = PM at *
    clear h
    obtain ⟨fw, f1, f2, f3, f4⟩ := f
    dsimp only at *
    have hx := fun W => max4 22 f1 f2 f3 f4 W
    have HFI : Hid (decide (max (max (max f1 f2) f3) f4 ≤ m) = true ↔ PM) := by
      show _ ↔ _
      rw [HY.out]; simp; omega
    generalize max (max (max f1 f2) f3) f4 = mm at *
    go_enter Tryz.func15, Tryz.ntmps15
    go_wp2_with fail
    go_big_quiet (first | ((go_at_call 18; exact Calls.quiet_of_same (HI.out _))) | ((go_at_call 19; exact Calls.quiet_of_same (HO.out _))))
    go_wp2_with fail
    go_ret
    exact ⟨decide (mm ≤ m), HFI.out, rfl, bel_drewN (bel1 _ _) _⟩
  · rw [decide_eq_false h] at HI
    have HY : Hid (¬ f.may) := fun a => h ⟨a.1, a.2.1⟩
    generalize f.may = PM at *
    clear h
    obtain ⟨fw, f1, f2, f3, f4⟩ := f
    dsimp only at *
    go_enter Tryz.func15, Tryz.ntmps15
    go_wp2_with fail
    go_big_quiet ((go_at_call 18; exact Calls.quiet_of_same (HI.out _)))
    go_wp2_with fail
    go_ret
    exact ⟨false, by simp; exact HY.out, rfl, bel_drewN (bel1 _ _) _⟩
set_option maxHeartbeats 4000000 in
theorem has_any (f : Fc) (x : Nat) (w : World) (h64 : F64 f) (hx : x < 18446744073709551616) : Calls Tryz.prog 8 #[fV f, uV x] w fun e w' => ∃ b : Bool, (b = true ↔ f.may ∧ f.word x) ∧ e = .returned (.bool b) ∧ Below w.heap.size w w' := by
  have HMy : Hid (∀ W, Calls Tryz.prog 15 #[fV f] W fun e w' => ∃ b : Bool, (b = true ↔ f.may) ∧ e = .returned (.bool b) ∧ Below W.heap.size W w') := fun W => may_any f W
  have q1 := and_u x f.one hx h64.one
  have q2 := and_u x f.zero hx h64.zero
  have HY : Hid (f.may ∧ f.word x ↔ f.may ∧ (x &&& f.one = f.one ∧ x &&& f.zero = 0 ∧ f.least ≤ x ∧ x ≤ f.top)) := by
    constructor
    · rintro ⟨a, b⟩; exact ⟨a, b.2.1.1, b.2.1.2, b.2.2.1, b.2.2.2⟩
    · rintro ⟨a, b, c, d, e⟩; exact ⟨a, Nat.le_trans e a.2.2.2.2.2, ⟨b, c⟩, d, e⟩
  clear h64
  generalize (f.may ∧ f.word x) = PW at *
  obtain ⟨w1, hw1⟩ : ∃ w1, w.alloc (.cells #[.int .i64 f.w, uV f.one, uV f.zero, uV f.least, uV f.top] 24) = w1 := ⟨_, rfl⟩
  have HS1 : Hid (BX w1 w.heap.size f ∧ Below w.heap.size w w1) := by
    rw [← hw1]; exact ⟨BX.new _ _, bel1 _ _⟩
  obtain ⟨c0, c1, c2, c3, c4⟩ := HS1.out.1.c
  generalize x &&& f.one = xo at *
  generalize x &&& f.zero = xz at *
  go_enter Tryz.func8, Tryz.ntmps8
  go_wp2_with fail
  refine (HMy.out _).mono ?_
  rintro e w2 ⟨b, hb, rfl, hbel⟩
  have HS2 : Hid (BX w2 w.heap.size f ∧ Below w.heap.size w w2) := ⟨HS1.out.1.next hbel, nx HS1.out.2 hbel⟩
  have HBM : Hid (b = true ↔ f.may) := hb
  clear c0 c1 c2 c3 c4 hb hbel HS1 hw1 w1
  obtain ⟨c0, c1, c2, c3, c4⟩ := HS2.out.1.c
  cases b with
  | false =>
    go_wp2_with fail
    go_ret
    exact ⟨false, by rw [HY.out, ← HBM.out]; simp, rfl, HS2.out.2⟩
  | true =>
    have hmy : f.may := HBM.out.1 rfl
    by_cases a1 : xo = f.one
    · have p1 : ((xo : Int) == (f.one : Int)) = true := by simp; omega
      by_cases a2 : xz = 0
      · have p2 : ((xz : Int) == 0) = true := by simp; omega
        by_cases a3 : f.least ≤ x
        · by_cases a4 : x ≤ f.top
          · have HR : Hid PW := HY.out.2 ⟨hmy, a1, a2, a3, a4⟩
            have p4 : decide (x ≤ f.top) = true := decide_eq_true a4
            have p3 : decide (f.least ≤ x) = true := decide_eq_true a3
            clear a1 a2 hmy
            go_wp2_with fail
            go_ret
            exact ⟨true, ⟨fun _ => HR.out, fun _ => rfl⟩, rfl, HS2.out.2⟩
          · have HR : Hid (¬ PW) := fun a => a4 (HY.out.1 a).2.2.2.2
            have p4 : decide (x ≤ f.top) = false := decide_eq_false a4
            have p3 : decide (f.least ≤ x) = true := decide_eq_true a3
            clear a1 a2 hmy
            go_wp2_with fail
            go_ret
            exact ⟨false, ⟨fun a => absurd a (by simp), fun a => absurd a HR.out⟩, rfl, HS2.out.2⟩
        · have HR : Hid (¬ PW) := fun a => a3 (HY.out.1 a).2.2.2.1
          have p3 : decide (f.least ≤ x) = false := decide_eq_false a3
          clear a1 a2 hmy
          go_wp2_with fail
          go_ret
          exact ⟨false, ⟨fun a => absurd a (by simp), fun a => absurd a HR.out⟩, rfl, HS2.out.2⟩
      · have HR : Hid (¬ PW) := fun a => a2 (HY.out.1 a).2.2.1
        have p2 : ((xz : Int) == 0) = false := by simp; omega
        clear a1 a2 hmy
        go_wp2_with fail
        go_ret
        exact ⟨false, ⟨fun a => absurd a (by simp), fun a => absurd a HR.out⟩, rfl, HS2.out.2⟩
    · have HR : Hid (¬ PW) := fun a => a1 (HY.out.1 a).2.1
      have p1 : ((xo : Int) == (f.one : Int)) = false := by simp; omega
      clear a1 hmy
      go_wp2_with fail
      go_ret
      exact ⟨false, ⟨fun a => absurd a (by simp), fun a => absurd a HR.out⟩, rfl, HS2.out.2⟩
theorem at_alloc {W : World} {g : Nat} {c : Obj} (o : Obj) (h : W.heap[g]? = some c) : (W.alloc o).heap[g]? = some c := ((bel1 W o).block g (Array.getElem?_eq_some_iff.1 h).1).trans h
theorem nxa {w W : World} (h : Below w.heap.size w W) (o : Obj) : Below w.heap.size w (W.alloc o) := h.alloc h.size o
theorem boxes1 (w : World) (f : Fc) : BX (w.alloc (.cells #[.int .i64 f.w, uV f.one, uV f.zero, uV f.least, uV f.top] 24)) w.heap.size f ∧ Below w.heap.size w (w.alloc (.cells #[.int .i64 f.w, uV f.one, uV f.zero, uV f.least, uV f.top] 24)) := ⟨BX.new _ _, bel1 _ _⟩
theorem boxes2 (w : World) (f g : Fc) : BX ((w.alloc (.cells #[.int .i64 f.w, uV f.one, uV f.zero, uV f.least, uV f.top] 24)).alloc (.cells #[.int .i64 g.w, uV g.one, uV g.zero, uV g.least, uV g.top] 24)) w.heap.size f ∧ BX ((w.alloc (.cells #[.int .i64 f.w, uV f.one, uV f.zero, uV f.least, uV f.top] 24)).alloc (.cells #[.int .i64 g.w, uV g.one, uV g.zero, uV g.least, uV g.top] 24)) (w.heap.size + 1) g ∧ Below w.heap.size w ((w.alloc (.cells #[.int .i64 f.w, uV f.one, uV f.zero, uV f.least, uV f.top] 24)).alloc (.cells #[.int .i64 g.w, uV g.one, uV g.zero, uV g.least, uV g.top] 24)) :=
  ⟨(BX.new _ _).alloc _, hp2 _ _ _, bel2 _ _ _⟩
theorem boxes3 (w : World) (f g h : Fc) : BX (((w.alloc (.cells #[.int .i64 f.w, uV f.one, uV f.zero, uV f.least, uV f.top] 24)).alloc (.cells #[.int .i64 g.w, uV g.one, uV g.zero, uV g.least, uV g.top] 24)).alloc (.cells #[.int .i64 h.w, uV h.one, uV h.zero, uV h.least, uV h.top] 24)) w.heap.size f ∧ BX (((w.alloc (.cells #[.int .i64 f.w, uV f.one, uV f.zero, uV f.least, uV f.top] 24)).alloc (.cells #[.int .i64 g.w, uV g.one, uV g.zero, uV g.least, uV g.top] 24)).alloc (.cells #[.int .i64 h.w, uV h.one, uV h.zero, uV h.least, uV h.top] 24)) (w.heap.size + 1) g ∧ BX (((w.alloc (.cells #[.int .i64 f.w, uV f.one, uV f.zero, uV f.least, uV f.top] 24)).alloc (.cells #[.int .i64 g.w, uV g.one, uV g.zero, uV g.least, uV g.top] 24)).alloc (.cells #[.int .i64 h.w, uV h.one, uV h.zero, uV h.least, uV h.top] 24)) (w.heap.size + 1 + 1) h ∧ Below w.heap.size w (((w.alloc (.cells #[.int .i64 f.w, uV f.one, uV f.zero, uV f.least, uV f.top] 24)).alloc (.cells #[.int .i64 g.w, uV g.one, uV g.zero, uV g.least, uV g.top] 24)).alloc (.cells #[.int .i64 h.w, uV h.one, uV h.zero, uV h.least, uV h.top] 24)) :=
  ⟨((BX.new _ _).alloc _).alloc _, BX.alloc (hp2 _ _ _) _, hp3 _ _ _ _, bel3 _ _ _ _⟩
/-- what Settle answers -/
def SA (f v : Fc) (e : Nat) : Prop := (¬ f.may ∧ v = zF ∧ e = 5) ∨ (f.may ∧ ∃ r : Option Fc, ST f r ∧ v = r.getD zF ∧ e = if r.isSome then 0 else 1)
theorem SA.same {f v v' : Fc} {e e' : Nat} (h : SA f v e) (h' : SA f v' e') : v = v' ∧ e = e' := by
  rcases h with ⟨a, rfl, rfl⟩ | ⟨a, r, h, rfl, rfl⟩
  · rcases h' with ⟨b, rfl, rfl⟩ | ⟨b, r, h, rfl, rfl⟩
    · exact ⟨rfl, rfl⟩
    · exact absurd b a
  · rcases h' with ⟨b, rfl, rfl⟩ | ⟨b, r', h', rfl, rfl⟩
    · exact absurd a b
    · obtain rfl := ST.same rfl (fun _ => Iff.rfl) h h'
      exact ⟨rfl, rfl⟩
abbrev eV (e : Nat) : Value := .int .i64 (e : Int)
set_option maxHeartbeats 4000000 in
theorem Settle_any (f : Fc) (w : World) : Calls Tryz.prog 10 #[fV f] w fun e w' => ∃ v c, SA f v c ∧ e = .returned (.tuple #[fV v, eV c]) ∧ Below w.heap.size w w' := by
  have HMy : Hid (∀ W, Calls Tryz.prog 15 #[fV f] W fun e w' => ∃ b : Bool, (b = true ↔ f.may) ∧ e = .returned (.bool b) ∧ Below W.heap.size W w') := fun W => may_any f W
  have HSt : Hid (f.may → ∀ W, Calls Tryz.prog 17 #[fV f] W fun e w' => ∃ r, ST f r ∧ e = .returned (.tuple #[fV (r.getD zF), .bool r.isSome]) ∧ Below W.heap.size W w') := fun h W => settle_any f W h
  obtain ⟨w1, hw1⟩ : ∃ w1, (w.alloc (.cells #[.int .i64 f.w, uV f.one, uV f.zero, uV f.least, uV f.top] 24)).alloc (.cells #[.int .i64 0, .int .u64 0, .int .u64 0, .int .u64 0, .int .u64 0] 24) = w1 := ⟨_, rfl⟩
  have HS_w1 : Hid (BX w1 w.heap.size f ∧ BX w1 (w.heap.size + 1) zF ∧ Below w.heap.size w w1) := by
    rw [← hw1]
    exact boxes2 w f zF
  obtain ⟨c0, c1, c2, c3, c4⟩ := HS_w1.out.1.c
  go_enter Tryz.func10, Tryz.ntmps10
  go_wp2_with fail
  try rw [hw1]
  refine (HMy.out _).mono ?_
  rintro e w2 ⟨b, hbm, rfl, hb⟩
  have HS_w2 : Hid (BX w2 w.heap.size f ∧ BX w2 (w.heap.size + 1) zF ∧ Below w.heap.size w w2) := ⟨HS_w1.out.1.next hb, HS_w1.out.2.1.next hb, nx HS_w1.out.2.2 hb⟩
  have HBM : Hid (b = true ↔ f.may) := hbm
  clear c0 c1 c2 c3 c4 hb hbm HS_w1 hw1 w1
  obtain ⟨c0, c1, c2, c3, c4⟩ := HS_w2.out.1.c
  obtain ⟨z0, z1, z2, z3, z4⟩ := HS_w2.out.2.1.c
  obtain ⟨y0, y1, y2, y3, y4⟩ := HS_w2.out.2.1.fz
  cases b with
  | false =>
    go_wp2_with fail
    refine bodyPost_ret (res2 rfl _ _ (w.heap.size + 1) _ _ _ _ rfl (set5_at HS_w2.out.2.1 _ _ _ _ _) rfl rfl) rfl ?_
    exact ⟨zF, 5, Or.inl ⟨fun h => absurd (HBM.out.2 h) (by simp), rfl, rfl⟩, rfl, set5_bel HS_w2.out.2.2 (by omega) _ _ _ _ _⟩
  | true =>
    have HMM : Hid f.may := HBM.out.1 rfl
    go_wp2_with fail
    refine (HSt.out HMM.out _).mono ?_
    rintro e w3 ⟨r, hr, rfl, hb⟩
    have HS_w3 : Hid (BX w3 w.heap.size f ∧ BX w3 (w.heap.size + 1) zF ∧ Below w.heap.size w w3) := ⟨HS_w2.out.1.next hb, HS_w2.out.2.1.next hb, nx HS_w2.out.2.2 hb⟩
    have HR : Hid (ST f r) := hr
    clear c0 c1 c2 c3 c4 z0 z1 z2 z3 z4 y0 y1 y2 y3 y4 hb hr HS_w2 w2
    obtain ⟨z0, z1, z2, z3, z4⟩ := HS_w3.out.2.1.c
    obtain ⟨y0, y1, y2, y3, y4⟩ := HS_w3.out.2.1.fz
    have hlt : w.heap.size + 1 < w3.heap.size := HS_w3.out.2.1.lt
    have hne : ¬ w.heap.size + 1 = w3.heap.size := by omega
    cases r with
    | none =>
      go_wp2_with fail
      refine bodyPost_ret (res2 rfl _ _ (w.heap.size + 1) _ _ _ _ rfl (at_alloc _ (set5_at HS_w3.out.2.1 _ _ _ _ _)) rfl rfl) rfl ?_
      exact ⟨zF, 1, Or.inr ⟨HMM.out, none, HR.out, rfl, rfl⟩, rfl, (nxa (set5_bel HS_w3.out.2.2 (by omega) _ _ _ _ _) _)⟩
    | some g =>
      dsimp only [Option.getD, Option.isSome]
      go_wp2_with fail
      refine bodyPost_ret (res2 rfl _ _ (w.heap.size + 1) _ _ _ _ rfl (at_alloc _ (set5_at HS_w3.out.2.1 _ _ _ _ _)) rfl rfl) rfl ?_
      exact ⟨g, 0, Or.inr ⟨HMM.out, some g, HR.out, rfl, rfl⟩, rfl, (nxa (set5_bel HS_w3.out.2.2 (by omega) _ _ _ _ _) _)⟩
end Go.Proofs.YtopdbhkkmolllaaGreatDoor
