import Derived.Test.YtioaogdandjdbaaGreatDoorKnY
import Derived.Test.YtioaogdandjdbaaGreatDoorKnW
namespace Go.Proofs.YtioaogdandjdbaaGreatDoor
open Go.ChangeShapes Go.WideShapes Go.ChangeAt Go.RowKit Go.Lib Go.Kn

/-- two calls that answer the same fact and the same error -/
def SAMEP (W : World) (k1 k2 : FuncId) (args : Array Value) : Prop := Calls Tryz.prog k1 args W fun e w' => ∃ v c, e = .returned (.tuple #[fV v, eV c]) ∧ Below W.heap.size W w' ∧ ∀ W2, Calls Tryz.prog k2 args W2 fun e w' => e = .returned (.tuple #[fV v, eV c]) ∧ Below W2.heap.size W2 w'
theorem same_all (a : Int) (W : World) : SAMEP W 6 7 #[.int .i64 a] := (All_any a W).mono (by
  rintro e w' ⟨v, c, hv, rfl, hb⟩
  exact ⟨v, c, rfl, hb, fun W2 => (rAll_any a W2).mono (by rintro e w' ⟨v', c', hv', rfl, hb'⟩; obtain ⟨rfl, rfl⟩ := hv.same hv'; exact ⟨rfl, hb'⟩)⟩)
theorem same_alone (a : Int) (x : Nat) (hx : x < 18446744073709551616) (W : World) : SAMEP W 10 11 #[.int .i64 a, uV x] := (Alone_any a x W).mono (by
  rintro e w' ⟨v, c, hv, rfl, hb⟩
  exact ⟨v, c, rfl, hb, fun W2 => (rAlone_any a x W2 hx).mono (by rintro e w' ⟨v', c', hv', rfl, hb'⟩; obtain ⟨rfl, rfl⟩ := hv.same hv'; exact ⟨rfl, hb'⟩)⟩)
theorem same_settle (f : Fc) (h : F64 f) (W : World) : SAMEP W 16 17 #[fV f] := (Settle_any f W).mono (by
  rintro e w' ⟨v, c, hv, rfl, hb⟩
  exact ⟨v, c, rfl, hb, fun W2 => (rSettle_any f W2 h).mono (by rintro e w' ⟨v', c', hv', rfl, hb'⟩; obtain ⟨rfl, rfl⟩ := hv.same hv'; exact ⟨rfl, hb'⟩)⟩)
theorem same_meet (f g : Fc) (h : F64 f) (h2 : F64 g) (W : World) : SAMEP W 18 19 #[fV f, fV g] := (Meet_any f g W).mono (by
  rintro e w' ⟨v, c, hv, rfl, hb⟩
  exact ⟨v, c, rfl, hb, fun W2 => (rMeet_any f g W2 h h2).mono (by rintro e w' ⟨v', c', hv', rfl, hb'⟩; obtain ⟨rfl, rfl⟩ := hv.same hv'; exact ⟨rfl, hb'⟩)⟩)
theorem same_join (f g : Fc) (h : F64 f) (h2 : F64 g) (W : World) : SAMEP W 20 21 #[fV f, fV g] := (Join_any f g W).mono (by
  rintro e w' ⟨v, c, hv, rfl, hb⟩
  exact ⟨v, c, rfl, hb, fun W2 => (rJoin_any f g W2 h h2).mono (by rintro e w' ⟨v', c', hv', rfl, hb'⟩; obtain ⟨rfl, rfl⟩ := hv.same hv'; exact ⟨rfl, hb'⟩)⟩)
/-- two calls that answer the same truth -/
def SAMEB (W : World) (k1 k2 : FuncId) (args : Array Value) : Prop := Calls Tryz.prog k1 args W fun e w' => ∃ b, e = .returned (.bool b) ∧ Below W.heap.size W w' ∧ ∀ W2, Calls Tryz.prog k2 args W2 fun e w' => e = .returned (.bool b) ∧ Below W2.heap.size W2 w'
theorem same_may (f : Fc) (W : World) : SAMEB W 12 13 #[fV f] := (may_any f W).mono (by
  rintro e w' ⟨b, hv, rfl, hb⟩
  exact ⟨b, rfl, hb, fun W2 => (rmay_any f W2).mono (by rintro e w' ⟨b', hv', rfl, hb'⟩; obtain rfl := bool_of_iff (hv.trans hv'.symm); exact ⟨rfl, hb'⟩)⟩)
theorem same_has (f : Fc) (x : Nat) (h : F64 f) (hx : x < 18446744073709551616) (W : World) : SAMEB W 14 15 #[fV f, uV x] := (has_any f x W h hx).mono (by
  rintro e w' ⟨b, hv, rfl, hb⟩
  exact ⟨b, rfl, hb, fun W2 => (rhas_any f x W2 h hx).mono (by rintro e w' ⟨b', hv', rfl, hb'⟩; obtain rfl := bool_of_iff (hv.trans hv'.symm); exact ⟨rfl, hb'⟩)⟩)
/-- both boxes hold v, the arguments' stand -/
def KS (w : World) (f g : Fc) (ga gb : Nat) (v : Fc) (W : World) : Prop := Aside (BX W w.heap.size f ∧ BX W (w.heap.size + 1) g ∧ BX W ga v ∧ BX W gb v ∧ Below w.heap.size w W)
theorem KS.out {w : World} {f g : Fc} {ga gb : Nat} {v : Fc} {W : World} (h : KS w f g ga gb v W) : BX W w.heap.size f ∧ BX W (w.heap.size + 1) g ∧ BX W ga v ∧ BX W gb v ∧ Below w.heap.size w W := Aside.out h
theorem KS.drew {w : World} {f g : Fc} {ga gb : Nat} {v : Fc} {W : World} (h : KS w f g ga gb v W) : KS w f g ga gb v W.drew := ⟨h.out.1, h.out.2.1, h.out.2.2.1, h.out.2.2.2.1, h.out.2.2.2.2.drew⟩
theorem KS.next {w : World} {f g : Fc} {ga gb : Nat} {v : Fc} {W W' : World} (h : KS w f g ga gb v W) (hb : Below W.heap.size W W') : KS w f g ga gb v W' := ⟨h.out.1.next hb, h.out.2.1.next hb, h.out.2.2.1.next hb, h.out.2.2.2.1.next hb, nx h.out.2.2.2.2 hb⟩
theorem bool_is (P : Prop) : ∃ b : Bool, b = true ↔ P := by
  by_cases h : P
  · exact ⟨true, by simp [h]⟩
  · exact ⟨false, by simp [h]⟩
set_option maxHeartbeats 8000000 in
set_option maxRecDepth 100000 in
theorem facts_walk (f g : Fc) (a : Int) (x : Nat) (w : World) (hf : F64 f) (hg : F64 g) (hx : x < 18446744073709551616) : Calls Tryz.prog 3 #[fV f, fV g, .int .i64 a, uV x] w fun e w' => e = .returned (.bool true) ∧ Below w.heap.size w w' := by
  have HN : Hid (∀ W y, Calls Tryz.prog 8 #[.int .i64 y] W fun e w' => e = .returned (.int .i64 y) ∧ w' = W) := fun W y => no_any y W
  have HLv : Hid (∀ W, Calls Tryz.prog 9 #[] W fun e w' => e = .returned (.bool true) ∧ Below W.heap.size W w') := fun W => live_any W
  have H1 : Hid (∀ W, SAMEP W 6 7 #[.int .i64 a]) := fun W => same_all a W
  have H2 : Hid (∀ W, SAMEP W 10 11 #[.int .i64 a, uV x]) := fun W => same_alone a x hx W
  obtain ⟨b1, hb1⟩ := bool_is f.may
  obtain ⟨b2, hb2⟩ := bool_is (f.may ∧ f.word x)
  have H3 : Hid (∀ ga gb v W, KS w f g ga gb v W → Calls Tryz.prog 12 #[fV f] W fun e w' => e = .returned (.bool b1) ∧ KS w f g ga gb v w') := fun ga gb v W hk => (may_any f W).mono (by rintro e w' ⟨b, h, rfl, hb⟩; obtain rfl := bool_of_iff (h.trans hb1.symm); exact ⟨rfl, hk.next hb⟩)
  have H3r : Hid (∀ ga gb v W, KS w f g ga gb v W → Calls Tryz.prog 13 #[fV f] W fun e w' => e = .returned (.bool b1) ∧ KS w f g ga gb v w') := fun ga gb v W hk => (rmay_any f W).mono (by rintro e w' ⟨b, h, rfl, hb⟩; obtain rfl := bool_of_iff (h.trans hb1.symm); exact ⟨rfl, hk.next hb⟩)
  have H4 : Hid (∀ ga gb v W, KS w f g ga gb v W → Calls Tryz.prog 14 #[fV f, uV x] W fun e w' => e = .returned (.bool b2) ∧ KS w f g ga gb v w') := fun ga gb v W hk => (has_any f x W hf hx).mono (by rintro e w' ⟨b, h, rfl, hb⟩; obtain rfl := bool_of_iff (h.trans hb2.symm); exact ⟨rfl, hk.next hb⟩)
  have H4r : Hid (∀ ga gb v W, KS w f g ga gb v W → Calls Tryz.prog 15 #[fV f, uV x] W fun e w' => e = .returned (.bool b2) ∧ KS w f g ga gb v w') := fun ga gb v W hk => (rhas_any f x W hf hx).mono (by rintro e w' ⟨b, h, rfl, hb⟩; obtain rfl := bool_of_iff (h.trans hb2.symm); exact ⟨rfl, hk.next hb⟩)
  clear hb1 hb2
  have H5 : Hid (∀ W, SAMEP W 16 17 #[fV f]) := fun W => same_settle f hf W
  have H6 : Hid (∀ W, SAMEP W 18 19 #[fV f, fV g]) := fun W => same_meet f g hf hg W
  have H7 : Hid (∀ W, SAMEP W 20 21 #[fV f, fV g]) := fun W => same_join f g hf hg W
  clear hf hg hx
  obtain ⟨w1, hw1⟩ : ∃ w1, (w.alloc (.cells #[.int .i64 f.w, uV f.one, uV f.zero, uV f.least, uV f.top] 24)).alloc (.cells #[.int .i64 g.w, uV g.one, uV g.zero, uV g.least, uV g.top] 24) = w1 := ⟨_, rfl⟩
  have HS_w1 : Hid (BX w1 w.heap.size f ∧ BX w1 (w.heap.size + 1) g ∧ Below w.heap.size w w1) := by
    rw [← hw1]
    exact boxes2 w f g
  go_enter Tryz.func3, Tryz.ntmps3
  go_wp2_with fail
  try rw [hw1]
  refine (H1.out _).mono ?_
  rintro e w2 ⟨v, c, rfl, hb, hr⟩
  have HS_w2 : Hid (BX w2 w.heap.size f ∧ BX w2 (w.heap.size + 1) g ∧ Below w.heap.size w w2) := ⟨HS_w1.out.1.next hb, HS_w1.out.2.1.next hb, nx HS_w1.out.2.2 hb⟩
  clear hb HS_w1 hw1 w1
  have HR : Hid (∀ W2, Calls Tryz.prog 7 #[.int .i64 a] W2 fun e w' => e = .returned (.tuple #[fV v, eV c]) ∧ Below W2.heap.size W2 w') := hr
  clear hr
  obtain ⟨ga, hga⟩ : ∃ ga, w2.heap.size = ga := ⟨_, rfl⟩
  have HGA : Hid (w2.heap.size = ga) := hga
  go_wp2_with fail
  refine (HR.out _).mono ?_
  rintro e w4 ⟨rfl, hb⟩
  have A4 : Hid (BX w4 w.heap.size f ∧ BX w4 (w.heap.size + 1) g ∧ BX w4 ga v ∧ Below w.heap.size w w4 ∧ w.heap.size + 1 < ga ∧ ga < w4.heap.size) := by
    have hs := HS_w2.out.2.1.lt
    have hz := hb.size
    simp at hz
    refine ⟨(HS_w2.out.1.alloc _).next hb, (HS_w2.out.2.1.alloc _).next hb, ?_, nx (nxa HS_w2.out.2.2 _) hb, by omega, by omega⟩
    rw [← hga]; exact (BX.new w2 v).next hb
  clear hb HS_w2 HR
  clear hga
  obtain ⟨gb, hgb⟩ : ∃ gb, w4.heap.size = gb := ⟨_, rfl⟩
  obtain ⟨w5, hw5⟩ : ∃ w5, w4.alloc (.cells #[.int .i64 v.w, .int .u64 (v.one : Int), .int .u64 (v.zero : Int), .int .u64 (v.least : Int), .int .u64 (v.top : Int)] 24) = w5 := ⟨_, rfl⟩
  have A5 : Hid (BX w5 w.heap.size f ∧ BX w5 (w.heap.size + 1) g ∧ BX w5 ga v ∧ BX w5 gb v ∧ Below w.heap.size w w5) := by
    rw [← hw5, ← hgb]; exact ⟨A4.out.1.alloc _, A4.out.2.1.alloc _, A4.out.2.2.1.alloc _, BX.new w4 v, nxa A4.out.2.2.2.1 _⟩
  have l1 : w.heap.size + 1 < ga := A4.out.2.2.2.2.1
  have l2 : ga < gb := by rw [← hgb]; exact A4.out.2.2.2.2.2
  have n1 : ¬ ga = gb := by omega
  have n2 : ¬ gb = ga := by omega
  have n3 : ¬ w.heap.size = ga := by omega
  have n4 : ¬ w.heap.size = gb := by omega
  have n5 : ¬ w.heap.size + 1 = ga := by omega
  have n6 : ¬ w.heap.size + 1 = gb := by omega
  have nq := fun W => neq_f v W
  have ca := A5.out.2.2.1.c
  have za := A5.out.2.2.1.fz
  have cb := A5.out.2.2.2.1.c
  have zb := A5.out.2.2.2.1.fz
  go_wp2_with (go_at_call 8; refine (HN.out _ _).mono ?_; rintro e w' ⟨rfl, hw⟩; obtain rfl := hw.symm)
  try rw [hw5]
  refine (HLv.out _).mono ?_
  rintro e w6 ⟨rfl, hb⟩
  have A6 : Hid (BX w6 w.heap.size f ∧ BX w6 (w.heap.size + 1) g ∧ BX w6 ga v ∧ BX w6 gb v ∧ Below w.heap.size w w6) := ⟨A5.out.1.next hb, A5.out.2.1.next hb, A5.out.2.2.1.next hb, A5.out.2.2.2.1.next hb, nx A5.out.2.2.2.2 hb⟩
  clear hb A5 hw5 hgb nq A4
  clear ca cb za zb
  have cf := A6.out.1.c
  have cg := A6.out.2.1.c
  go_wp2_with fail
  refine (H2.out _).mono ?_
  rintro e wp0 ⟨v2, e2, rfl, hb, hr⟩
  have HR : Hid (∀ W2, Calls Tryz.prog 11 #[.int .i64 a, uV x] W2 fun e w' => e = .returned (.tuple #[fV v2, eV e2]) ∧ Below W2.heap.size W2 w') := hr
  have Ap0 : Hid (BX wp0 w.heap.size f ∧ BX wp0 (w.heap.size + 1) g ∧ BX wp0 ga v ∧ BX wp0 gb v ∧ Below w.heap.size w wp0) := ⟨A6.out.1.next hb, A6.out.2.1.next hb, A6.out.2.2.1.next hb, A6.out.2.2.2.1.next hb, nx A6.out.2.2.2.2 hb⟩
  clear hb hr A6
  clear cf cg 
  have cf := Ap0.out.1.c
  have cg := Ap0.out.2.1.c
  have ca := Ap0.out.2.2.1.c
  have za := Ap0.out.2.2.1.fz
  go_upto_region 6 with fail
  have Aq0 : Hid (BX (((((wp0.setCell ⟨ga, 0, none⟩ (.int .i64 v2.w)).setCell ⟨ga, 1, none⟩ (.int .u64 (v2.one : Int))).setCell ⟨ga, 2, none⟩ (.int .u64 (v2.zero : Int))).setCell ⟨ga, 3, none⟩ (.int .u64 (v2.least : Int))).setCell ⟨ga, 4, none⟩ (.int .u64 (v2.top : Int))) w.heap.size f ∧ BX (((((wp0.setCell ⟨ga, 0, none⟩ (.int .i64 v2.w)).setCell ⟨ga, 1, none⟩ (.int .u64 (v2.one : Int))).setCell ⟨ga, 2, none⟩ (.int .u64 (v2.zero : Int))).setCell ⟨ga, 3, none⟩ (.int .u64 (v2.least : Int))).setCell ⟨ga, 4, none⟩ (.int .u64 (v2.top : Int))) (w.heap.size + 1) g ∧ BX (((((wp0.setCell ⟨ga, 0, none⟩ (.int .i64 v2.w)).setCell ⟨ga, 1, none⟩ (.int .u64 (v2.one : Int))).setCell ⟨ga, 2, none⟩ (.int .u64 (v2.zero : Int))).setCell ⟨ga, 3, none⟩ (.int .u64 (v2.least : Int))).setCell ⟨ga, 4, none⟩ (.int .u64 (v2.top : Int))) ga v2 ∧ BX (((((wp0.setCell ⟨ga, 0, none⟩ (.int .i64 v2.w)).setCell ⟨ga, 1, none⟩ (.int .u64 (v2.one : Int))).setCell ⟨ga, 2, none⟩ (.int .u64 (v2.zero : Int))).setCell ⟨ga, 3, none⟩ (.int .u64 (v2.least : Int))).setCell ⟨ga, 4, none⟩ (.int .u64 (v2.top : Int))) gb v ∧ Below w.heap.size w (((((wp0.setCell ⟨ga, 0, none⟩ (.int .i64 v2.w)).setCell ⟨ga, 1, none⟩ (.int .u64 (v2.one : Int))).setCell ⟨ga, 2, none⟩ (.int .u64 (v2.zero : Int))).setCell ⟨ga, 3, none⟩ (.int .u64 (v2.least : Int))).setCell ⟨ga, 4, none⟩ (.int .u64 (v2.top : Int)))) := ⟨set5_o Ap0.out.1 n3 _ _ _ _ _, set5_o Ap0.out.2.1 n5 _ _ _ _ _, set5_at Ap0.out.2.2.1 _ _ _ _ _, set5_o Ap0.out.2.2.2.1 n2 _ _ _ _ _, set5_bel Ap0.out.2.2.2.2 (by omega) _ _ _ _ _⟩
  generalize (((((wp0.setCell ⟨ga, 0, none⟩ (.int .i64 v2.w)).setCell ⟨ga, 1, none⟩ (.int .u64 (v2.one : Int))).setCell ⟨ga, 2, none⟩ (.int .u64 (v2.zero : Int))).setCell ⟨ga, 3, none⟩ (.int .u64 (v2.least : Int))).setCell ⟨ga, 4, none⟩ (.int .u64 (v2.top : Int))) = wq0 at Aq0 ⊢
  clear cf cg ca za
  clear Ap0
  have cf := Aq0.out.1.c
  have cg := Aq0.out.2.1.c
  go_wp2_with fail
  refine (HR.out _).mono ?_
  rintro e wr0 ⟨rfl, hb⟩
  have Ar0 : Hid (BX wr0 w.heap.size f ∧ BX wr0 (w.heap.size + 1) g ∧ BX wr0 ga v2 ∧ BX wr0 gb v ∧ Below w.heap.size w wr0) := ⟨Aq0.out.1.next hb, Aq0.out.2.1.next hb, Aq0.out.2.2.1.next hb, Aq0.out.2.2.2.1.next hb, nx Aq0.out.2.2.2.2 hb⟩
  clear hb Aq0 HR
  clear cf cg 
  have cf := Ar0.out.1.c
  have cg := Ar0.out.2.1.c
  have cb := Ar0.out.2.2.2.1.c
  have zb := Ar0.out.2.2.2.1.fz
  go_upto_region 7 with fail
  have As0 : Hid (BX (((((wr0.setCell ⟨gb, 0, none⟩ (.int .i64 v2.w)).setCell ⟨gb, 1, none⟩ (.int .u64 (v2.one : Int))).setCell ⟨gb, 2, none⟩ (.int .u64 (v2.zero : Int))).setCell ⟨gb, 3, none⟩ (.int .u64 (v2.least : Int))).setCell ⟨gb, 4, none⟩ (.int .u64 (v2.top : Int))) w.heap.size f ∧ BX (((((wr0.setCell ⟨gb, 0, none⟩ (.int .i64 v2.w)).setCell ⟨gb, 1, none⟩ (.int .u64 (v2.one : Int))).setCell ⟨gb, 2, none⟩ (.int .u64 (v2.zero : Int))).setCell ⟨gb, 3, none⟩ (.int .u64 (v2.least : Int))).setCell ⟨gb, 4, none⟩ (.int .u64 (v2.top : Int))) (w.heap.size + 1) g ∧ BX (((((wr0.setCell ⟨gb, 0, none⟩ (.int .i64 v2.w)).setCell ⟨gb, 1, none⟩ (.int .u64 (v2.one : Int))).setCell ⟨gb, 2, none⟩ (.int .u64 (v2.zero : Int))).setCell ⟨gb, 3, none⟩ (.int .u64 (v2.least : Int))).setCell ⟨gb, 4, none⟩ (.int .u64 (v2.top : Int))) ga v2 ∧ BX (((((wr0.setCell ⟨gb, 0, none⟩ (.int .i64 v2.w)).setCell ⟨gb, 1, none⟩ (.int .u64 (v2.one : Int))).setCell ⟨gb, 2, none⟩ (.int .u64 (v2.zero : Int))).setCell ⟨gb, 3, none⟩ (.int .u64 (v2.least : Int))).setCell ⟨gb, 4, none⟩ (.int .u64 (v2.top : Int))) gb v2 ∧ Below w.heap.size w (((((wr0.setCell ⟨gb, 0, none⟩ (.int .i64 v2.w)).setCell ⟨gb, 1, none⟩ (.int .u64 (v2.one : Int))).setCell ⟨gb, 2, none⟩ (.int .u64 (v2.zero : Int))).setCell ⟨gb, 3, none⟩ (.int .u64 (v2.least : Int))).setCell ⟨gb, 4, none⟩ (.int .u64 (v2.top : Int)))) := ⟨set5_o Ar0.out.1 n4 _ _ _ _ _, set5_o Ar0.out.2.1 n6 _ _ _ _ _, set5_o Ar0.out.2.2.1 n1 _ _ _ _ _, set5_at Ar0.out.2.2.2.1 _ _ _ _ _, set5_bel Ar0.out.2.2.2.2 (by omega) _ _ _ _ _⟩
  generalize (((((wr0.setCell ⟨gb, 0, none⟩ (.int .i64 v2.w)).setCell ⟨gb, 1, none⟩ (.int .u64 (v2.one : Int))).setCell ⟨gb, 2, none⟩ (.int .u64 (v2.zero : Int))).setCell ⟨gb, 3, none⟩ (.int .u64 (v2.least : Int))).setCell ⟨gb, 4, none⟩ (.int .u64 (v2.top : Int))) = ws0 at As0 ⊢
  clear cf cg cb zb
  clear Ar0
  have cf := As0.out.1.c
  have cg := As0.out.2.1.c
  have ca := As0.out.2.2.1.c
  have za := As0.out.2.2.1.fz
  have cb := As0.out.2.2.2.1.c
  have zb := As0.out.2.2.2.1.fz
  have nq := fun W => neq_f v2 W
  have qb1 : (b1 != b1) = false := by simp
  have qb2 : (b2 != b2) = false := by simp
  have K0 : KS w f g ga gb v2 ws0 := As0.out
  have K1 : KS w f g ga gb v2 ws0.drew := K0.drew
  go_wp2_with fail
  go_region_held3 (fun W => KS w f g ga gb v2 W ∧ W.cell? ⟨w.heap.size, 0, none⟩ = some (.int .i64 f.w) ∧ W.cell? ⟨w.heap.size, 1, none⟩ = some (uV f.one) ∧ W.cell? ⟨w.heap.size, 2, none⟩ = some (uV f.zero) ∧ W.cell? ⟨w.heap.size, 3, none⟩ = some (uV f.least) ∧ W.cell? ⟨w.heap.size, 4, none⟩ = some (uV f.top) ∧ W.cell? ⟨ga, 0, none⟩ = some (.int .i64 v2.w) ∧ W.cell? ⟨ga, 1, none⟩ = some (uV v2.one) ∧ W.cell? ⟨ga, 2, none⟩ = some (uV v2.zero) ∧ W.cell? ⟨ga, 3, none⟩ = some (uV v2.least) ∧ W.cell? ⟨ga, 4, none⟩ = some (uV v2.top) ∧ W.cell? ⟨gb, 0, none⟩ = some (.int .i64 v2.w) ∧ W.cell? ⟨gb, 1, none⟩ = some (uV v2.one) ∧ W.cell? ⟨gb, 2, none⟩ = some (uV v2.zero) ∧ W.cell? ⟨gb, 3, none⟩ = some (uV v2.least) ∧ W.cell? ⟨gb, 4, none⟩ = some (uV v2.top)) (first | (refine ⟨by first | assumption | exact KS.drew (by assumption), ?_, ?_, ?_, ?_, ?_, ?_, ?_, ?_, ?_, ?_, ?_, ?_, ?_, ?_, ?_⟩ <;> go_keep) | go_keep) (first | (go_at_call 8; refine (HN.out _ _).mono ?_; rintro e w' ⟨rfl, hw⟩; obtain rfl := hw.symm) | (go_at_call 12; refine (H3.out _ _ _ _ (by first | assumption | exact And.left (by assumption) | exact KS.drew (by assumption))).mono ?_; rintro e w9 ⟨rfl, hk⟩; obtain ⟨f0, f1, f2, f3, f4⟩ := hk.out.1.c; obtain ⟨a0, a1, a2, a3, a4⟩ := hk.out.2.2.1.c; obtain ⟨b0, b1', b2', b3, b4⟩ := hk.out.2.2.2.1.c) | (go_at_call 13; refine (H3r.out _ _ _ _ (by first | assumption | exact And.left (by assumption) | exact KS.drew (by assumption))).mono ?_; rintro e w9 ⟨rfl, hk⟩; obtain ⟨f0, f1, f2, f3, f4⟩ := hk.out.1.c; obtain ⟨a0, a1, a2, a3, a4⟩ := hk.out.2.2.1.c; obtain ⟨b0, b1', b2', b3, b4⟩ := hk.out.2.2.2.1.c) | (go_at_call 14; refine (H4.out _ _ _ _ (by first | assumption | exact And.left (by assumption) | exact KS.drew (by assumption))).mono ?_; rintro e w9 ⟨rfl, hk⟩; obtain ⟨f0, f1, f2, f3, f4⟩ := hk.out.1.c; obtain ⟨a0, a1, a2, a3, a4⟩ := hk.out.2.2.1.c; obtain ⟨b0, b1', b2', b3, b4⟩ := hk.out.2.2.2.1.c) | (go_at_call 15; refine (H4r.out _ _ _ _ (by first | assumption | exact And.left (by assumption) | exact KS.drew (by assumption))).mono ?_; rintro e w9 ⟨rfl, hk⟩; obtain ⟨f0, f1, f2, f3, f4⟩ := hk.out.1.c; obtain ⟨a0, a1, a2, a3, a4⟩ := hk.out.2.2.1.c; obtain ⟨b0, b1', b2', b3, b4⟩ := hk.out.2.2.2.1.c))
  all_goals go_wp2_with fail
  have Am4 : Hid (BX w9 w.heap.size f ∧ BX w9 (w.heap.size + 1) g ∧ BX w9 ga v2 ∧ BX w9 gb v2 ∧ Below w.heap.size w w9) := hk.out
  clear hk f0 f1 f2 f3 f4 a0 a1 a2 a3 a4 b0 b1' b2' b3 b4 nq
  have cf := Am4.out.1.c
  have cg := Am4.out.2.1.c
  refine (H5.out _).mono ?_
  rintro e wp1 ⟨v3, e3, rfl, hb, hr⟩
  have HR : Hid (∀ W2, Calls Tryz.prog 17 #[fV f] W2 fun e w' => e = .returned (.tuple #[fV v3, eV e3]) ∧ Below W2.heap.size W2 w') := hr
  have Ap1 : Hid (BX wp1 w.heap.size f ∧ BX wp1 (w.heap.size + 1) g ∧ BX wp1 ga v2 ∧ BX wp1 gb v2 ∧ Below w.heap.size w wp1) := ⟨Am4.out.1.next hb, Am4.out.2.1.next hb, Am4.out.2.2.1.next hb, Am4.out.2.2.2.1.next hb, nx Am4.out.2.2.2.2 hb⟩
  clear hb hr Am4
  clear cf cg 
  have cf := Ap1.out.1.c
  have cg := Ap1.out.2.1.c
  have ca := Ap1.out.2.2.1.c
  have za := Ap1.out.2.2.1.fz
  go_upto_region 10 with fail
  have Aq1 : Hid (BX (((((wp1.setCell ⟨ga, 0, none⟩ (.int .i64 v3.w)).setCell ⟨ga, 1, none⟩ (.int .u64 (v3.one : Int))).setCell ⟨ga, 2, none⟩ (.int .u64 (v3.zero : Int))).setCell ⟨ga, 3, none⟩ (.int .u64 (v3.least : Int))).setCell ⟨ga, 4, none⟩ (.int .u64 (v3.top : Int))) w.heap.size f ∧ BX (((((wp1.setCell ⟨ga, 0, none⟩ (.int .i64 v3.w)).setCell ⟨ga, 1, none⟩ (.int .u64 (v3.one : Int))).setCell ⟨ga, 2, none⟩ (.int .u64 (v3.zero : Int))).setCell ⟨ga, 3, none⟩ (.int .u64 (v3.least : Int))).setCell ⟨ga, 4, none⟩ (.int .u64 (v3.top : Int))) (w.heap.size + 1) g ∧ BX (((((wp1.setCell ⟨ga, 0, none⟩ (.int .i64 v3.w)).setCell ⟨ga, 1, none⟩ (.int .u64 (v3.one : Int))).setCell ⟨ga, 2, none⟩ (.int .u64 (v3.zero : Int))).setCell ⟨ga, 3, none⟩ (.int .u64 (v3.least : Int))).setCell ⟨ga, 4, none⟩ (.int .u64 (v3.top : Int))) ga v3 ∧ BX (((((wp1.setCell ⟨ga, 0, none⟩ (.int .i64 v3.w)).setCell ⟨ga, 1, none⟩ (.int .u64 (v3.one : Int))).setCell ⟨ga, 2, none⟩ (.int .u64 (v3.zero : Int))).setCell ⟨ga, 3, none⟩ (.int .u64 (v3.least : Int))).setCell ⟨ga, 4, none⟩ (.int .u64 (v3.top : Int))) gb v2 ∧ Below w.heap.size w (((((wp1.setCell ⟨ga, 0, none⟩ (.int .i64 v3.w)).setCell ⟨ga, 1, none⟩ (.int .u64 (v3.one : Int))).setCell ⟨ga, 2, none⟩ (.int .u64 (v3.zero : Int))).setCell ⟨ga, 3, none⟩ (.int .u64 (v3.least : Int))).setCell ⟨ga, 4, none⟩ (.int .u64 (v3.top : Int)))) := ⟨set5_o Ap1.out.1 n3 _ _ _ _ _, set5_o Ap1.out.2.1 n5 _ _ _ _ _, set5_at Ap1.out.2.2.1 _ _ _ _ _, set5_o Ap1.out.2.2.2.1 n2 _ _ _ _ _, set5_bel Ap1.out.2.2.2.2 (by omega) _ _ _ _ _⟩
  generalize (((((wp1.setCell ⟨ga, 0, none⟩ (.int .i64 v3.w)).setCell ⟨ga, 1, none⟩ (.int .u64 (v3.one : Int))).setCell ⟨ga, 2, none⟩ (.int .u64 (v3.zero : Int))).setCell ⟨ga, 3, none⟩ (.int .u64 (v3.least : Int))).setCell ⟨ga, 4, none⟩ (.int .u64 (v3.top : Int))) = wq1 at Aq1 ⊢
  clear cf cg ca za
  clear Ap1
  have cf := Aq1.out.1.c
  have cg := Aq1.out.2.1.c
  go_wp2_with fail
  refine (HR.out _).mono ?_
  rintro e wr1 ⟨rfl, hb⟩
  have Ar1 : Hid (BX wr1 w.heap.size f ∧ BX wr1 (w.heap.size + 1) g ∧ BX wr1 ga v3 ∧ BX wr1 gb v2 ∧ Below w.heap.size w wr1) := ⟨Aq1.out.1.next hb, Aq1.out.2.1.next hb, Aq1.out.2.2.1.next hb, Aq1.out.2.2.2.1.next hb, nx Aq1.out.2.2.2.2 hb⟩
  clear hb Aq1 HR
  clear cf cg 
  have cf := Ar1.out.1.c
  have cg := Ar1.out.2.1.c
  have cb := Ar1.out.2.2.2.1.c
  have zb := Ar1.out.2.2.2.1.fz
  go_upto_region 11 with fail
  have As1 : Hid (BX (((((wr1.setCell ⟨gb, 0, none⟩ (.int .i64 v3.w)).setCell ⟨gb, 1, none⟩ (.int .u64 (v3.one : Int))).setCell ⟨gb, 2, none⟩ (.int .u64 (v3.zero : Int))).setCell ⟨gb, 3, none⟩ (.int .u64 (v3.least : Int))).setCell ⟨gb, 4, none⟩ (.int .u64 (v3.top : Int))) w.heap.size f ∧ BX (((((wr1.setCell ⟨gb, 0, none⟩ (.int .i64 v3.w)).setCell ⟨gb, 1, none⟩ (.int .u64 (v3.one : Int))).setCell ⟨gb, 2, none⟩ (.int .u64 (v3.zero : Int))).setCell ⟨gb, 3, none⟩ (.int .u64 (v3.least : Int))).setCell ⟨gb, 4, none⟩ (.int .u64 (v3.top : Int))) (w.heap.size + 1) g ∧ BX (((((wr1.setCell ⟨gb, 0, none⟩ (.int .i64 v3.w)).setCell ⟨gb, 1, none⟩ (.int .u64 (v3.one : Int))).setCell ⟨gb, 2, none⟩ (.int .u64 (v3.zero : Int))).setCell ⟨gb, 3, none⟩ (.int .u64 (v3.least : Int))).setCell ⟨gb, 4, none⟩ (.int .u64 (v3.top : Int))) ga v3 ∧ BX (((((wr1.setCell ⟨gb, 0, none⟩ (.int .i64 v3.w)).setCell ⟨gb, 1, none⟩ (.int .u64 (v3.one : Int))).setCell ⟨gb, 2, none⟩ (.int .u64 (v3.zero : Int))).setCell ⟨gb, 3, none⟩ (.int .u64 (v3.least : Int))).setCell ⟨gb, 4, none⟩ (.int .u64 (v3.top : Int))) gb v3 ∧ Below w.heap.size w (((((wr1.setCell ⟨gb, 0, none⟩ (.int .i64 v3.w)).setCell ⟨gb, 1, none⟩ (.int .u64 (v3.one : Int))).setCell ⟨gb, 2, none⟩ (.int .u64 (v3.zero : Int))).setCell ⟨gb, 3, none⟩ (.int .u64 (v3.least : Int))).setCell ⟨gb, 4, none⟩ (.int .u64 (v3.top : Int)))) := ⟨set5_o Ar1.out.1 n4 _ _ _ _ _, set5_o Ar1.out.2.1 n6 _ _ _ _ _, set5_o Ar1.out.2.2.1 n1 _ _ _ _ _, set5_at Ar1.out.2.2.2.1 _ _ _ _ _, set5_bel Ar1.out.2.2.2.2 (by omega) _ _ _ _ _⟩
  generalize (((((wr1.setCell ⟨gb, 0, none⟩ (.int .i64 v3.w)).setCell ⟨gb, 1, none⟩ (.int .u64 (v3.one : Int))).setCell ⟨gb, 2, none⟩ (.int .u64 (v3.zero : Int))).setCell ⟨gb, 3, none⟩ (.int .u64 (v3.least : Int))).setCell ⟨gb, 4, none⟩ (.int .u64 (v3.top : Int))) = ws1 at As1 ⊢
  clear cf cg cb zb
  clear Ar1
  have cf := As1.out.1.c
  have cg := As1.out.2.1.c
  have ca := As1.out.2.2.1.c
  have za := As1.out.2.2.1.fz
  have cb := As1.out.2.2.2.1.c
  have zb := As1.out.2.2.2.1.fz
  have nq := fun W => neq_f v3 W
  go_wp2_with (go_at_call 8; refine (HN.out _ _).mono ?_; rintro e w' ⟨rfl, hw⟩; obtain rfl := hw.symm)
  clear cf cg ca za cb zb nq
  have cf := As1.out.1.c
  have cg := As1.out.2.1.c
  refine (H6.out _).mono ?_
  rintro e wp2 ⟨v4, e4, rfl, hb, hr⟩
  have HR : Hid (∀ W2, Calls Tryz.prog 19 #[fV f, fV g] W2 fun e w' => e = .returned (.tuple #[fV v4, eV e4]) ∧ Below W2.heap.size W2 w') := hr
  have Ap2 : Hid (BX wp2 w.heap.size f ∧ BX wp2 (w.heap.size + 1) g ∧ BX wp2 ga v3 ∧ BX wp2 gb v3 ∧ Below w.heap.size w wp2) := ⟨As1.out.1.next hb, As1.out.2.1.next hb, As1.out.2.2.1.next hb, As1.out.2.2.2.1.next hb, nx As1.out.2.2.2.2 hb⟩
  clear hb hr As1
  clear cf cg 
  have cf := Ap2.out.1.c
  have cg := Ap2.out.2.1.c
  have ca := Ap2.out.2.2.1.c
  have za := Ap2.out.2.2.1.fz
  go_upto_region 14 with fail
  have Aq2 : Hid (BX (((((wp2.setCell ⟨ga, 0, none⟩ (.int .i64 v4.w)).setCell ⟨ga, 1, none⟩ (.int .u64 (v4.one : Int))).setCell ⟨ga, 2, none⟩ (.int .u64 (v4.zero : Int))).setCell ⟨ga, 3, none⟩ (.int .u64 (v4.least : Int))).setCell ⟨ga, 4, none⟩ (.int .u64 (v4.top : Int))) w.heap.size f ∧ BX (((((wp2.setCell ⟨ga, 0, none⟩ (.int .i64 v4.w)).setCell ⟨ga, 1, none⟩ (.int .u64 (v4.one : Int))).setCell ⟨ga, 2, none⟩ (.int .u64 (v4.zero : Int))).setCell ⟨ga, 3, none⟩ (.int .u64 (v4.least : Int))).setCell ⟨ga, 4, none⟩ (.int .u64 (v4.top : Int))) (w.heap.size + 1) g ∧ BX (((((wp2.setCell ⟨ga, 0, none⟩ (.int .i64 v4.w)).setCell ⟨ga, 1, none⟩ (.int .u64 (v4.one : Int))).setCell ⟨ga, 2, none⟩ (.int .u64 (v4.zero : Int))).setCell ⟨ga, 3, none⟩ (.int .u64 (v4.least : Int))).setCell ⟨ga, 4, none⟩ (.int .u64 (v4.top : Int))) ga v4 ∧ BX (((((wp2.setCell ⟨ga, 0, none⟩ (.int .i64 v4.w)).setCell ⟨ga, 1, none⟩ (.int .u64 (v4.one : Int))).setCell ⟨ga, 2, none⟩ (.int .u64 (v4.zero : Int))).setCell ⟨ga, 3, none⟩ (.int .u64 (v4.least : Int))).setCell ⟨ga, 4, none⟩ (.int .u64 (v4.top : Int))) gb v3 ∧ Below w.heap.size w (((((wp2.setCell ⟨ga, 0, none⟩ (.int .i64 v4.w)).setCell ⟨ga, 1, none⟩ (.int .u64 (v4.one : Int))).setCell ⟨ga, 2, none⟩ (.int .u64 (v4.zero : Int))).setCell ⟨ga, 3, none⟩ (.int .u64 (v4.least : Int))).setCell ⟨ga, 4, none⟩ (.int .u64 (v4.top : Int)))) := ⟨set5_o Ap2.out.1 n3 _ _ _ _ _, set5_o Ap2.out.2.1 n5 _ _ _ _ _, set5_at Ap2.out.2.2.1 _ _ _ _ _, set5_o Ap2.out.2.2.2.1 n2 _ _ _ _ _, set5_bel Ap2.out.2.2.2.2 (by omega) _ _ _ _ _⟩
  generalize (((((wp2.setCell ⟨ga, 0, none⟩ (.int .i64 v4.w)).setCell ⟨ga, 1, none⟩ (.int .u64 (v4.one : Int))).setCell ⟨ga, 2, none⟩ (.int .u64 (v4.zero : Int))).setCell ⟨ga, 3, none⟩ (.int .u64 (v4.least : Int))).setCell ⟨ga, 4, none⟩ (.int .u64 (v4.top : Int))) = wq2 at Aq2 ⊢
  clear cf cg ca za
  clear Ap2
  have cf := Aq2.out.1.c
  have cg := Aq2.out.2.1.c
  go_wp2_with fail
  refine (HR.out _).mono ?_
  rintro e wr2 ⟨rfl, hb⟩
  have Ar2 : Hid (BX wr2 w.heap.size f ∧ BX wr2 (w.heap.size + 1) g ∧ BX wr2 ga v4 ∧ BX wr2 gb v3 ∧ Below w.heap.size w wr2) := ⟨Aq2.out.1.next hb, Aq2.out.2.1.next hb, Aq2.out.2.2.1.next hb, Aq2.out.2.2.2.1.next hb, nx Aq2.out.2.2.2.2 hb⟩
  clear hb Aq2 HR
  clear cf cg 
  have cf := Ar2.out.1.c
  have cg := Ar2.out.2.1.c
  have cb := Ar2.out.2.2.2.1.c
  have zb := Ar2.out.2.2.2.1.fz
  go_upto_region 15 with fail
  have As2 : Hid (BX (((((wr2.setCell ⟨gb, 0, none⟩ (.int .i64 v4.w)).setCell ⟨gb, 1, none⟩ (.int .u64 (v4.one : Int))).setCell ⟨gb, 2, none⟩ (.int .u64 (v4.zero : Int))).setCell ⟨gb, 3, none⟩ (.int .u64 (v4.least : Int))).setCell ⟨gb, 4, none⟩ (.int .u64 (v4.top : Int))) w.heap.size f ∧ BX (((((wr2.setCell ⟨gb, 0, none⟩ (.int .i64 v4.w)).setCell ⟨gb, 1, none⟩ (.int .u64 (v4.one : Int))).setCell ⟨gb, 2, none⟩ (.int .u64 (v4.zero : Int))).setCell ⟨gb, 3, none⟩ (.int .u64 (v4.least : Int))).setCell ⟨gb, 4, none⟩ (.int .u64 (v4.top : Int))) (w.heap.size + 1) g ∧ BX (((((wr2.setCell ⟨gb, 0, none⟩ (.int .i64 v4.w)).setCell ⟨gb, 1, none⟩ (.int .u64 (v4.one : Int))).setCell ⟨gb, 2, none⟩ (.int .u64 (v4.zero : Int))).setCell ⟨gb, 3, none⟩ (.int .u64 (v4.least : Int))).setCell ⟨gb, 4, none⟩ (.int .u64 (v4.top : Int))) ga v4 ∧ BX (((((wr2.setCell ⟨gb, 0, none⟩ (.int .i64 v4.w)).setCell ⟨gb, 1, none⟩ (.int .u64 (v4.one : Int))).setCell ⟨gb, 2, none⟩ (.int .u64 (v4.zero : Int))).setCell ⟨gb, 3, none⟩ (.int .u64 (v4.least : Int))).setCell ⟨gb, 4, none⟩ (.int .u64 (v4.top : Int))) gb v4 ∧ Below w.heap.size w (((((wr2.setCell ⟨gb, 0, none⟩ (.int .i64 v4.w)).setCell ⟨gb, 1, none⟩ (.int .u64 (v4.one : Int))).setCell ⟨gb, 2, none⟩ (.int .u64 (v4.zero : Int))).setCell ⟨gb, 3, none⟩ (.int .u64 (v4.least : Int))).setCell ⟨gb, 4, none⟩ (.int .u64 (v4.top : Int)))) := ⟨set5_o Ar2.out.1 n4 _ _ _ _ _, set5_o Ar2.out.2.1 n6 _ _ _ _ _, set5_o Ar2.out.2.2.1 n1 _ _ _ _ _, set5_at Ar2.out.2.2.2.1 _ _ _ _ _, set5_bel Ar2.out.2.2.2.2 (by omega) _ _ _ _ _⟩
  generalize (((((wr2.setCell ⟨gb, 0, none⟩ (.int .i64 v4.w)).setCell ⟨gb, 1, none⟩ (.int .u64 (v4.one : Int))).setCell ⟨gb, 2, none⟩ (.int .u64 (v4.zero : Int))).setCell ⟨gb, 3, none⟩ (.int .u64 (v4.least : Int))).setCell ⟨gb, 4, none⟩ (.int .u64 (v4.top : Int))) = ws2 at As2 ⊢
  clear cf cg cb zb
  clear Ar2
  have cf := As2.out.1.c
  have cg := As2.out.2.1.c
  have ca := As2.out.2.2.1.c
  have za := As2.out.2.2.1.fz
  have cb := As2.out.2.2.2.1.c
  have zb := As2.out.2.2.2.1.fz
  have nq := fun W => neq_f v4 W
  go_wp2_with (go_at_call 8; refine (HN.out _ _).mono ?_; rintro e w' ⟨rfl, hw⟩; obtain rfl := hw.symm)
  clear cf cg ca za cb zb nq
  have cf := As2.out.1.c
  have cg := As2.out.2.1.c
  refine (H7.out _).mono ?_
  rintro e wp3 ⟨v5, e5, rfl, hb, hr⟩
  have HR : Hid (∀ W2, Calls Tryz.prog 21 #[fV f, fV g] W2 fun e w' => e = .returned (.tuple #[fV v5, eV e5]) ∧ Below W2.heap.size W2 w') := hr
  have Ap3 : Hid (BX wp3 w.heap.size f ∧ BX wp3 (w.heap.size + 1) g ∧ BX wp3 ga v4 ∧ BX wp3 gb v4 ∧ Below w.heap.size w wp3) := ⟨As2.out.1.next hb, As2.out.2.1.next hb, As2.out.2.2.1.next hb, As2.out.2.2.2.1.next hb, nx As2.out.2.2.2.2 hb⟩
  clear hb hr As2
  clear cf cg 
  have cf := Ap3.out.1.c
  have cg := Ap3.out.2.1.c
  have ca := Ap3.out.2.2.1.c
  have za := Ap3.out.2.2.1.fz
  go_upto_region 18 with fail
  have Aq3 : Hid (BX (((((wp3.setCell ⟨ga, 0, none⟩ (.int .i64 v5.w)).setCell ⟨ga, 1, none⟩ (.int .u64 (v5.one : Int))).setCell ⟨ga, 2, none⟩ (.int .u64 (v5.zero : Int))).setCell ⟨ga, 3, none⟩ (.int .u64 (v5.least : Int))).setCell ⟨ga, 4, none⟩ (.int .u64 (v5.top : Int))) w.heap.size f ∧ BX (((((wp3.setCell ⟨ga, 0, none⟩ (.int .i64 v5.w)).setCell ⟨ga, 1, none⟩ (.int .u64 (v5.one : Int))).setCell ⟨ga, 2, none⟩ (.int .u64 (v5.zero : Int))).setCell ⟨ga, 3, none⟩ (.int .u64 (v5.least : Int))).setCell ⟨ga, 4, none⟩ (.int .u64 (v5.top : Int))) (w.heap.size + 1) g ∧ BX (((((wp3.setCell ⟨ga, 0, none⟩ (.int .i64 v5.w)).setCell ⟨ga, 1, none⟩ (.int .u64 (v5.one : Int))).setCell ⟨ga, 2, none⟩ (.int .u64 (v5.zero : Int))).setCell ⟨ga, 3, none⟩ (.int .u64 (v5.least : Int))).setCell ⟨ga, 4, none⟩ (.int .u64 (v5.top : Int))) ga v5 ∧ BX (((((wp3.setCell ⟨ga, 0, none⟩ (.int .i64 v5.w)).setCell ⟨ga, 1, none⟩ (.int .u64 (v5.one : Int))).setCell ⟨ga, 2, none⟩ (.int .u64 (v5.zero : Int))).setCell ⟨ga, 3, none⟩ (.int .u64 (v5.least : Int))).setCell ⟨ga, 4, none⟩ (.int .u64 (v5.top : Int))) gb v4 ∧ Below w.heap.size w (((((wp3.setCell ⟨ga, 0, none⟩ (.int .i64 v5.w)).setCell ⟨ga, 1, none⟩ (.int .u64 (v5.one : Int))).setCell ⟨ga, 2, none⟩ (.int .u64 (v5.zero : Int))).setCell ⟨ga, 3, none⟩ (.int .u64 (v5.least : Int))).setCell ⟨ga, 4, none⟩ (.int .u64 (v5.top : Int)))) := ⟨set5_o Ap3.out.1 n3 _ _ _ _ _, set5_o Ap3.out.2.1 n5 _ _ _ _ _, set5_at Ap3.out.2.2.1 _ _ _ _ _, set5_o Ap3.out.2.2.2.1 n2 _ _ _ _ _, set5_bel Ap3.out.2.2.2.2 (by omega) _ _ _ _ _⟩
  generalize (((((wp3.setCell ⟨ga, 0, none⟩ (.int .i64 v5.w)).setCell ⟨ga, 1, none⟩ (.int .u64 (v5.one : Int))).setCell ⟨ga, 2, none⟩ (.int .u64 (v5.zero : Int))).setCell ⟨ga, 3, none⟩ (.int .u64 (v5.least : Int))).setCell ⟨ga, 4, none⟩ (.int .u64 (v5.top : Int))) = wq3 at Aq3 ⊢
  clear cf cg ca za
  clear Ap3
  have cf := Aq3.out.1.c
  have cg := Aq3.out.2.1.c
  go_wp2_with fail
  refine (HR.out _).mono ?_
  rintro e wr3 ⟨rfl, hb⟩
  have Ar3 : Hid (BX wr3 w.heap.size f ∧ BX wr3 (w.heap.size + 1) g ∧ BX wr3 ga v5 ∧ BX wr3 gb v4 ∧ Below w.heap.size w wr3) := ⟨Aq3.out.1.next hb, Aq3.out.2.1.next hb, Aq3.out.2.2.1.next hb, Aq3.out.2.2.2.1.next hb, nx Aq3.out.2.2.2.2 hb⟩
  clear hb Aq3 HR
  clear cf cg 
  have cf := Ar3.out.1.c
  have cg := Ar3.out.2.1.c
  have cb := Ar3.out.2.2.2.1.c
  have zb := Ar3.out.2.2.2.1.fz
  go_upto_region 19 with fail
  have As3 : Hid (BX (((((wr3.setCell ⟨gb, 0, none⟩ (.int .i64 v5.w)).setCell ⟨gb, 1, none⟩ (.int .u64 (v5.one : Int))).setCell ⟨gb, 2, none⟩ (.int .u64 (v5.zero : Int))).setCell ⟨gb, 3, none⟩ (.int .u64 (v5.least : Int))).setCell ⟨gb, 4, none⟩ (.int .u64 (v5.top : Int))) w.heap.size f ∧ BX (((((wr3.setCell ⟨gb, 0, none⟩ (.int .i64 v5.w)).setCell ⟨gb, 1, none⟩ (.int .u64 (v5.one : Int))).setCell ⟨gb, 2, none⟩ (.int .u64 (v5.zero : Int))).setCell ⟨gb, 3, none⟩ (.int .u64 (v5.least : Int))).setCell ⟨gb, 4, none⟩ (.int .u64 (v5.top : Int))) (w.heap.size + 1) g ∧ BX (((((wr3.setCell ⟨gb, 0, none⟩ (.int .i64 v5.w)).setCell ⟨gb, 1, none⟩ (.int .u64 (v5.one : Int))).setCell ⟨gb, 2, none⟩ (.int .u64 (v5.zero : Int))).setCell ⟨gb, 3, none⟩ (.int .u64 (v5.least : Int))).setCell ⟨gb, 4, none⟩ (.int .u64 (v5.top : Int))) ga v5 ∧ BX (((((wr3.setCell ⟨gb, 0, none⟩ (.int .i64 v5.w)).setCell ⟨gb, 1, none⟩ (.int .u64 (v5.one : Int))).setCell ⟨gb, 2, none⟩ (.int .u64 (v5.zero : Int))).setCell ⟨gb, 3, none⟩ (.int .u64 (v5.least : Int))).setCell ⟨gb, 4, none⟩ (.int .u64 (v5.top : Int))) gb v5 ∧ Below w.heap.size w (((((wr3.setCell ⟨gb, 0, none⟩ (.int .i64 v5.w)).setCell ⟨gb, 1, none⟩ (.int .u64 (v5.one : Int))).setCell ⟨gb, 2, none⟩ (.int .u64 (v5.zero : Int))).setCell ⟨gb, 3, none⟩ (.int .u64 (v5.least : Int))).setCell ⟨gb, 4, none⟩ (.int .u64 (v5.top : Int)))) := ⟨set5_o Ar3.out.1 n4 _ _ _ _ _, set5_o Ar3.out.2.1 n6 _ _ _ _ _, set5_o Ar3.out.2.2.1 n1 _ _ _ _ _, set5_at Ar3.out.2.2.2.1 _ _ _ _ _, set5_bel Ar3.out.2.2.2.2 (by omega) _ _ _ _ _⟩
  generalize (((((wr3.setCell ⟨gb, 0, none⟩ (.int .i64 v5.w)).setCell ⟨gb, 1, none⟩ (.int .u64 (v5.one : Int))).setCell ⟨gb, 2, none⟩ (.int .u64 (v5.zero : Int))).setCell ⟨gb, 3, none⟩ (.int .u64 (v5.least : Int))).setCell ⟨gb, 4, none⟩ (.int .u64 (v5.top : Int))) = ws3 at As3 ⊢
  clear cf cg cb zb
  clear Ar3
  have cf := As3.out.1.c
  have cg := As3.out.2.1.c
  have ca := As3.out.2.2.1.c
  have za := As3.out.2.2.1.fz
  have cb := As3.out.2.2.2.1.c
  have zb := As3.out.2.2.2.1.fz
  have nq := fun W => eq_f v5 W
  go_wp2_with (go_at_call 8; refine (HN.out _ _).mono ?_; rintro e w' ⟨rfl, hw⟩; obtain rfl := hw.symm)
  go_ret
  exact ⟨rfl, As3.out.2.2.2.2⟩
end Go.Proofs.YtioaogdandjdbaaGreatDoor
