import Derived.Test.YtopdbhkkmolllaaGreatDoorKnF
import Derived.Test.YtopdbhkkmolllaaGreatDoorKnL
namespace Go.Proofs.YtopdbhkkmolllaaGreatDoor
open Go.ChangeShapes Go.WideShapes Go.ChangeAt Go.RowKit Go.Lib Go.Kn

def zF : Fc := ⟨0, 0, 0, 0, 0⟩
def alk (a : Int) (d : Nat) : Nat := mx a / 2 ^ d * 2 ^ d
theorem alk_bit (a : Int) (d i : Nat) : (alk a d).testBit i = (decide (d ≤ i) && decide (i < bw a)) := by
  unfold alk
  rw [Nat.testBit_mul_two_pow, Nat.testBit_div_two_pow, mx_bit]
  by_cases h : d ≤ i
  · rw [decide_eq_true h, show i - d + d = i by omega]
  · rw [decide_eq_false h]; simp
theorem alk_le (a : Int) (d : Nat) : alk a d ≤ mx a := Nat.div_mul_le_self _ _
def stl (f : Fc) (m t d : Nat) : Fc := ⟨f.w, f.one ||| (m &&& alk f.w d), f.zero ||| an (alk f.w d) m, m, t⟩
theorem stl_set {f : Fc} {m t d : Nat} (hm : f.may) (hl : f.LW m true) (ht : f.GW t) (hd : len2 (m ^^^ t) d) : SET f (stl f m t d) :=
  settle_set hm hl ht hd (fun i => alk_bit f.w d i) rfl (fun i => by show (f.one ||| (m &&& alk f.w d)).testBit i = _; rw [Nat.testBit_or, Nat.testBit_and]) (fun i => by show (f.zero ||| an (alk f.w d) m).testBit i = _; rw [Nat.testBit_or, an_bit]) rfl rfl
theorem len2_le {x d N : Nat} (h : len2 x d) (hx : x < 2 ^ N) : d ≤ N := by
  apply Nat.le_of_not_lt
  intro h2
  have := h.2 (d - 1) (by omega)
  have h3 : 2 ^ N ≤ 2 ^ (d - 1) := Nat.pow_le_pow_right (by omega) (by omega)
  omega
/-- a fact in a box -/
def BX (W : World) (g : Nat) (f : Fc) : Prop := W.heap[g]? = some (.cells #[.int .i64 f.w, uV f.one, uV f.zero, uV f.least, uV f.top] 24 (0, 0))
theorem BX.lt {W : World} {g : Nat} {f : Fc} (h : BX W g f) : g < W.heap.size := (Array.getElem?_eq_some_iff.1 h).1
theorem BX.next {W W' : World} {g : Nat} {f : Fc} (h : BX W g f) (hb : Below W.heap.size W W') : BX W' g f := (hb.block g h.lt).trans h
theorem BX.c {W : World} {g : Nat} {f : Fc} (h : BX W g f) : W.cell? ⟨g, 0, none⟩ = some (.int .i64 f.w) ∧ W.cell? ⟨g, 1, none⟩ = some (uV f.one) ∧ W.cell? ⟨g, 2, none⟩ = some (uV f.zero) ∧ W.cell? ⟨g, 3, none⟩ = some (uV f.least) ∧ W.cell? ⟨g, 4, none⟩ = some (uV f.top) :=
  ⟨blk_cell h 0, blk_cell h 1, blk_cell h 2, blk_cell h 3, blk_cell h 4⟩
theorem BX.new (W : World) (f : Fc) : BX (W.alloc (.cells #[.int .i64 f.w, uV f.one, uV f.zero, uV f.least, uV f.top] 24)) W.heap.size f := heap_alloc_new _ _
theorem BX.alloc {W : World} {g : Nat} {f : Fc} (h : BX W g f) (o : Obj) : BX (W.alloc o) g f := h.next (bel1 _ _)
theorem BX.fz {W : World} {g : Nat} {f : Fc} (h : BX W g f) : W.frozen? ⟨g, 0, none⟩ = false ∧ W.frozen? ⟨g, 1, none⟩ = false ∧ W.frozen? ⟨g, 2, none⟩ = false ∧ W.frozen? ⟨g, 3, none⟩ = false ∧ W.frozen? ⟨g, 4, none⟩ = false := by
  unfold BX at h
  simp [World.frozen?, h]
abbrev set5 (W : World) (g : Nat) (a b c d e : Value) : World := ((((W.setCell ⟨g, 0, none⟩ a).setCell ⟨g, 1, none⟩ b).setCell ⟨g, 2, none⟩ c).setCell ⟨g, 3, none⟩ d).setCell ⟨g, 4, none⟩ e
theorem set5_at {W : World} {g : Nat} {f : Fc} (h : BX W g f) (a b c d e : Value) : (set5 W g a b c d e).heap[g]? = some (.cells #[a, b, c, d, e] 24 (0, 0)) := by
  have h1 : (W.setCell ⟨g, 0, none⟩ a).heap[g]? = some (.cells #[a, uV f.one, uV f.zero, uV f.least, uV f.top] 24 (0, 0)) := by rw [heap_setCell_same _ g 0 _ _ _ h]; rfl
  have h2 : ((W.setCell ⟨g, 0, none⟩ a).setCell ⟨g, 1, none⟩ b).heap[g]? = some (.cells #[a, b, uV f.zero, uV f.least, uV f.top] 24 (0, 0)) := by rw [heap_setCell_same _ g 1 _ _ _ h1]; rfl
  have h3 : (((W.setCell ⟨g, 0, none⟩ a).setCell ⟨g, 1, none⟩ b).setCell ⟨g, 2, none⟩ c).heap[g]? = some (.cells #[a, b, c, uV f.least, uV f.top] 24 (0, 0)) := by rw [heap_setCell_same _ g 2 _ _ _ h2]; rfl
  have h4 : ((((W.setCell ⟨g, 0, none⟩ a).setCell ⟨g, 1, none⟩ b).setCell ⟨g, 2, none⟩ c).setCell ⟨g, 3, none⟩ d).heap[g]? = some (.cells #[a, b, c, d, uV f.top] 24 (0, 0)) := by rw [heap_setCell_same _ g 3 _ _ _ h3]; rfl
  have h5 : (((((W.setCell ⟨g, 0, none⟩ a).setCell ⟨g, 1, none⟩ b).setCell ⟨g, 2, none⟩ c).setCell ⟨g, 3, none⟩ d).setCell ⟨g, 4, none⟩ e).heap[g]? = some (.cells #[a, b, c, d, e] 24 (0, 0)) := by rw [heap_setCell_same _ g 4 _ _ _ h4]; rfl
  exact h5
theorem bel_set {n : Nat} {w W : World} (h : Below n w W) {g : Nat} (hg : n ≤ g) (i : Nat) (v : Value) : Below n w (W.setCell ⟨g, i, none⟩ v) :=
  ⟨h.os, h.tape, h.output, by have := h.size; simp; omega, fun k hk => (heap_setCell_other _ _ _ _ (fun e => by have e' : k = g := e; omega)).trans (h.block k hk)⟩
theorem set5_bel {n : Nat} {w W : World} (h : Below n w W) {g : Nat} (hg : n ≤ g) (a b c d e : Value) : Below n w (set5 W g a b c d e) :=
  bel_set (bel_set (bel_set (bel_set (bel_set h hg _ _) hg _ _) hg _ _) hg _ _) hg _ _
theorem nx {w W W' : World} (h : Below w.heap.size w W) (hb : Below W.heap.size W W') : Below w.heap.size w W' := h.trans (hb.mono h.size)
set_option maxHeartbeats 4000000 in
theorem settle_any (f : Fc) (w : World) (hm : f.may) : Calls Tryz.prog 17 #[fV f] w fun e w' => ∃ r, ST f r ∧ e = .returned (.tuple #[fV (r.getD zF), .bool r.isSome]) ∧ Below w.heap.size w w' := by
  have h64 := may64 hm
  have HM : Hid f.may := hm
  have HF : Hid (∀ W, Calls Tryz.prog 24 #[fV f] W fun e w' => ∃ x b, f.LW x b ∧ x < 18446744073709551616 ∧ e = .returned (.tuple #[uV x, .bool b]) ∧ Below W.heap.size W w') := fun W => first_any f W hm
  have HT : Hid (∀ W, Calls Tryz.prog 25 #[fV f] W fun e w' => e = .returned (fV f.turned) ∧ Below W.heap.size W w') := fun W => turned_any f W hm
  have HG : Hid (∀ W, Calls Tryz.prog 24 #[fV f.turned] W fun e w' => ∃ x b, f.turned.LW x b ∧ x < 18446744073709551616 ∧ e = .returned (.tuple #[uV x, .bool b]) ∧ Below W.heap.size W w') := fun W => first_any f.turned W hm.turned
  have HO : Hid (∀ W, Calls Tryz.prog 19 #[.int .i64 f.w] W fun e w' => e = .returned (uV (mx f.w)) ∧ w' = W) := fun W => ones_any f.w W hm.1 hm.2.1
  have HL : Hid (∀ W x, x < 18446744073709551616 → Calls Tryz.prog 26 #[uV x] W fun e w' => ∃ d : Nat, len2 x d ∧ e = .returned (.int .i64 (d : Int)) ∧ w' = W) := fun W x hx => len_any x W hx
  clear hm
  obtain ⟨w1, hw1⟩ : ∃ w1, (w.alloc (.cells #[.int .i64 f.w, uV f.one, uV f.zero, uV f.least, uV f.top] 24)).alloc (.cells #[.int .i64 0, .int .u64 0, .int .u64 0, .int .u64 0, .int .u64 0] 24) = w1 := ⟨_, rfl⟩
  have HS1 : Hid (BX w1 w.heap.size f ∧ BX w1 (w.heap.size + 1) zF ∧ Below w.heap.size w w1) := by
    rw [← hw1]; exact ⟨(BX.new _ _).alloc _, by have := BX.new (w.alloc (.cells #[.int .i64 f.w, uV f.one, uV f.zero, uV f.least, uV f.top] 24)) zF; simp at this; exact this, bel2 _ _ _⟩
  obtain ⟨c0, c1, c2, c3, c4⟩ := HS1.out.1.c
  go_enter Tryz.func17, Tryz.ntmps17
  go_wp2_with fail
  try rw [hw1]
  refine (HF.out _).mono ?_
  rintro e w2 ⟨m, b, hl, hm64, rfl, hb⟩
  have HS2 : Hid (BX w2 w.heap.size f ∧ BX w2 (w.heap.size + 1) zF ∧ Below w.heap.size w w2) := ⟨HS1.out.1.next hb, HS1.out.2.1.next hb, nx HS1.out.2.2 hb⟩
  have HLW : Hid (f.LW m b) := hl
  clear c0 c1 c2 c3 c4 hb hl HS1 hw1
  clear w1
  obtain ⟨c0, c1, c2, c3, c4⟩ := HS2.out.1.c
  cases b with
  | false =>
    obtain ⟨z0, z1, z2, z3, z4⟩ := HS2.out.2.1.c
    obtain ⟨y0, y1, y2, y3, y4⟩ := HS2.out.2.1.fz
    go_wp2_with fail
    refine bodyPost_ret (res2 rfl _ _ (w.heap.size + 1) _ _ _ _ rfl (set5_at HS2.out.2.1 _ _ _ _ _) rfl rfl) rfl ?_
    refine ⟨none, ?_, rfl, set5_bel HS2.out.2.2 (by omega) _ _ _ _ _⟩
    rcases HLW.out with ⟨a, -⟩ | ⟨-, a⟩
    · simp at a
    · exact a
  | true =>
    go_wp2_with fail
    refine (HT.out _).mono ?_
    rintro e w3 ⟨rfl, hb⟩
    have HS3 : Hid (BX w3 w.heap.size f ∧ BX w3 (w.heap.size + 1) zF ∧ Below w.heap.size w w3) := ⟨HS2.out.1.next hb, HS2.out.2.1.next hb, nx HS2.out.2.2 hb⟩
    clear c0 c1 c2 c3 c4 hb HS2 w2
    go_wp2_with fail
    refine (HG.out _).mono ?_
    rintro e w4 ⟨l, b2, hl, hl64, rfl, hb⟩
    have HS4 : Hid (BX w4 w.heap.size f ∧ BX w4 (w.heap.size + 1) zF ∧ Below w.heap.size w w4) := ⟨HS3.out.1.next hb, HS3.out.2.1.next hb, nx HS3.out.2.2 hb⟩
    clear hb HS3 w3
    obtain ⟨c0, c1, c2, c3, c4⟩ := HS4.out.1.c
    obtain ⟨z0, z1, z2, z3, z4⟩ := HS4.out.2.1.c
    obtain ⟨y0, y1, y2, y3, y4⟩ := HS4.out.2.1.fz
    obtain ⟨hmw, -⟩ : f.word m ∧ True := by
      rcases HLW.out with ⟨-, a, -⟩ | ⟨a, -⟩
      · exact ⟨a, trivial⟩
      · simp at a
    have hb2 : b2 = true := lw_turned HM.out hmw hl
    subst hb2
    obtain ⟨hl1, hg⟩ := gw_of_lw HM.out hl
    have HGW : Hid (f.GW (mx f.w - l)) := hg
    have q1 := sub_u (mx f.w) l hl1 (mx64 HM.out.2.1)
    have ht64 : mx f.w - l < 18446744073709551616 := by have := mx64 HM.out.2.1; omega
    obtain ⟨t, ht⟩ : ∃ t, mx f.w - l = t := ⟨_, rfl⟩
    rw [ht] at q1 HGW ht64
    have q2 := xor_u m t hm64 ht64
    have x64 := xor_lt64 hm64 ht64
    have HXN : Hid (m ^^^ t < 2 ^ bw f.w) := Nat.xor_lt_two_pow ((mx_lt _ _).1 hmw.1) ((mx_lt _ _).1 HGW.out.1.1)
    clear hl hmw hl1 hg ht
    obtain ⟨x, hx⟩ : ∃ x, m ^^^ t = x := ⟨_, rfl⟩
    have HX : Hid (m ^^^ t = x) := hx
    rw [hx] at q2 x64
    clear hx
    go_wp2_with (go_at_call 19; refine (HO.out _).mono ?_; rintro e w' ⟨rfl, hw⟩; obtain rfl := hw.symm)
    refine (HL.out _ _ x64).mono ?_
    rintro e w5 ⟨d, hd, rfl, hw⟩
    obtain rfl := hw.symm
    have HD : Hid (len2 x d) := hd
    have hd64 : d ≤ 64 := Nat.le_trans (len2_le hd (by rw [← HX.out]; exact HXN.out)) (bw_le _ HM.out.2.1)
    have hmx := mx64 HM.out.2.1
    have q3 : (mx f.w : Int) / 2 ^ d = ((mx f.w / 2 ^ d : Nat) : Int) := by rw [← pow_cast]; rfl
    have q4 : IntKind.u64.wrap (((mx f.w / 2 ^ d : Nat) : Int) * 2 ^ d) = ((alk f.w d : Nat) : Int) := by
      have e : ((mx f.w / 2 ^ d : Nat) : Int) * 2 ^ d = ((alk f.w d : Nat) : Int) := by rw [← pow_cast]; rfl
      have := alk_le f.w d
      rw [e, IntKind.wrap_u64]
      omega
    have la : alk f.w d < 18446744073709551616 := by have := alk_le f.w d; omega
    clear hd
    have HST : Hid (SET f (stl f m t d)) := stl_set HM.out HLW.out HGW.out (by rw [HX.out]; exact HD.out)
    have q5 := and_u m (alk f.w d) hm64 la
    have l5 : m &&& alk f.w d < 18446744073709551616 := Nat.lt_of_le_of_lt Nat.and_le_left hm64
    have q6 := or_u f.one (m &&& alk f.w d) h64.one l5
    have q7 := andn_u (alk f.w d) m la hm64
    have l7 := an_lt m la
    have q8 := or_u f.zero (an (alk f.w d) m) h64.zero l7
    unfold stl at HST
    generalize f.one ||| (m &&& alk f.w d) = r1 at *
    generalize m &&& alk f.w d = r2 at *
    generalize f.zero ||| an (alk f.w d) m = r3 at *
    generalize an (alk f.w d) m = r4 at *
    generalize alk f.w d = al at *
    generalize mx f.w / 2 ^ d = md at *
    generalize mx f.w = M at *
    go_wp2_with (go_at_call 19; refine (HO.out _).mono ?_; rintro e w' ⟨rfl, hw⟩; obtain rfl := hw.symm)
    refine bodyPost_ret (res2 rfl _ _ (w.heap.size + 1) _ _ _ _ rfl (set5_at HS4.out.2.1 _ _ _ _ _) rfl rfl) rfl ?_
    exact ⟨some ⟨f.w, r1, r3, m, t⟩, HST.out, rfl, set5_bel HS4.out.2.2 (by omega) _ _ _ _ _⟩
end Go.Proofs.YtopdbhkkmolllaaGreatDoor
