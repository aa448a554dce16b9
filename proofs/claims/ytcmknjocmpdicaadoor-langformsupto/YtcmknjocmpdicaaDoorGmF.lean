import Derived.Test.YtcmknjocmpdicaaDoorGmB
import Derived.Test.YtcmknjocmpdicaaDoorFmY
import Derived.Test.YtcmknjocmpdicaaDoorFmT
namespace Go.Proofs.YtcmknjocmpdicaaDoor
open Go.ChangeShapes Go.WideShapes Go.ChangeAt Go.RowKit Go.Bn

theorem TX.st {w : World} {N n : Nat} {sl : Value} (h : TX w (SB w N n) sl) : TX w (ST w N n) sl := h.imp (SB.st n)
set_option maxHeartbeats 8000000 in
set_option maxRecDepth 100000 in
theorem lForm_any (w0 : World) (N n : Nat) (s : ByteArray) (wd ln : Int) (aD : Option Addr) (nD cD : Nat) (aB : Option Addr) (nB cB : Nat) (W : World) (hs : s.size ≤ maxLen) (hD : DX w0 aD nD) (hB : TX w0 (SB w0 N n) (.slice aB nB cB)) (hct : CT w0 n (.slice aB nB cB) ≤ 40000000) (hW : Below w0.heap.size w0 W) (hT : TBL 1 W) (hF : TBF 0 W) (hGB : 1 < W.heap.size) :
    Calls Tryd.prog 4 #[.agg #[.string s, .int .i64 wd, .int .i64 ln, .slice aD nD cD, .slice aB nB cB]] W (BP (okP w0 N n s wd ln aD nD (.slice aB nB cB)) W) := by
  have HN : Hid (∀ X, Calls Tryd.prog 6 #[.string s] X fun e w' => e = .returned (.bool (nameB s)) ∧ Below X.heap.size X w') := fun X => isName_any s X hs
  have HS : Hid (∀ X, Below W.heap.size W X → Calls Tryd.prog 8 #[.slice aB nB cB] X (BP (TF w0 (FT w0 N n) (.slice aB nB cB)) X)) := fun X hX => formBody_any w0 N n aB nB cB X hB (bnext hW hX) hct (hT.up hX hGB) (hF.up hX (by omega)) (Nat.lt_of_lt_of_le hGB hX.size)
  have HD : Hid (∀ X, Below W.heap.size W X → Calls Tryd.prog 7 #[.slice aD nD cD] X (BP (∀ j, j < nD → DO w0 aD j) X)) := fun X hX => formDecls_any w0 aD nD cD X hD (bnext hW hX)
  clear hs hD hB hW hT hF hGB hct
  generalize hTT : TF w0 (FT w0 N n) (.slice aB nB cB) = TT at *
  generalize hDD : (∀ j, j < nD → DO w0 aD j) = DD at *
  have HOk : Hid (okP w0 N n s wd ln aD nD (.slice aB nB cB) ↔ nameB s = true ∧ 0 ≤ wd ∧ 0 ≤ ln ∧ DD ∧ TT) := by show _ ↔ _; rw [← hTT, ← hDD]; exact Iff.rfl
  clear hTT hDD
  generalize okP w0 N n s wd ln aD nD (.slice aB nB cB) = PP at *
  obtain ⟨W1, hW1⟩ : ∃ W1, W.alloc (.cells #[.string s, .int .i64 wd, .int .i64 ln, .slice aD nD cD, .slice aB nB cB] 25) = W1 := ⟨_, rfl⟩
  have HY1 : Hid (YB W 25 #[.string s, .int .i64 wd, .int .i64 ln, .slice aD nD cD, .slice aB nB cB] W1) := by rw [← hW1]; exact ⟨heap_alloc_new _ _, lbel _ _⟩
  have HW1e : Hid (W.alloc (.cells #[.string s, .int .i64 wd, .int .i64 ln, .slice aD nD cD, .slice aB nB cB] 25) = W1) := hW1
  clear hW1
  go_enter Tryd.func4, Tryd.ntmps4
  go_wp2_with fail
  rw [HW1e.out]
  clear HW1e
  refine (HN.out _).mono ?_
  rintro e w2 ⟨he, hb2⟩
  have HY2 : Hid (YB W 25 #[.string s, .int .i64 wd, .int .i64 ln, .slice aD nD cD, .slice aB nB cB] w2) := HY1.out.next hb2
  clear hb2 HY1
  have b1 := lc HY2.out.out.1 1
  have b2 := lc HY2.out.out.1 2
  have b3 := lc HY2.out.out.1 3
  have HB2 : Hid (Below W.heap.size W w2) := HY2.out.out.2
  cases hnm : nameB s with
  | false =>
    rw [hnm] at he
    subst he
    have HF : Hid (¬ PP) := fun h => absurd (HOk.out.1 h).1 (by rw [hnm]; decide)
    go_wp2
    go_ret
    exact BP.f HF.out HB2.out
  | true =>
    rw [hnm] at he
    subst he
    replace hnm : Hid (nameB s = true) := hnm
    by_cases hwd : 0 ≤ wd
    rotate_left
    · have HF : Hid (¬ PP) := fun h => by have := (HOk.out.1 h).2.1; omega
      have dw : decide (0 ≤ wd) = false := decide_eq_false hwd
      go_wp2
      go_ret
      exact BP.f HF.out HB2.out
    by_cases hln : 0 ≤ ln
    rotate_left
    · have HF : Hid (¬ PP) := fun h => by have := (HOk.out.1 h).2.2.1; omega
      have dl : decide (0 ≤ ln) = false := decide_eq_false hln
      go_wp2
      go_ret
      exact BP.f HF.out HB2.out
    have HPr : Hid (0 ≤ wd ∧ 0 ≤ ln) := ⟨hwd, hln⟩
    go_wp2_with fail
    refine (HD.out _ HB2.out).mono ?_
    rintro e w3 ⟨bb, rfl, hi3, hb3⟩
    have HY3 : Hid (YB W 25 #[.string s, .int .i64 wd, .int .i64 ln, .slice aD nD cD, .slice aB nB cB] w3) := HY2.out.next hb3
    have Hi3 : Hid (bb = true ↔ DD) := hi3
    clear hb3 hi3 HY2 HB2 b1 b2 b3
    have b4 := lc HY3.out.out.1 4
    have HB3 : Hid (Below W.heap.size W w3) := HY3.out.out.2
    cases bb with
    | false =>
      have HF : Hid (¬ PP) := fun h => absurd (Hi3.out.2 (HOk.out.1 h).2.2.2.1) (by decide)
      go_wp2
      go_ret
      exact BP.f HF.out HB3.out
    | true =>
      go_wp2_with fail
      refine (HS.out _ HB3.out).mono ?_
      rintro e w4 ⟨bb, rfl, hi4, hb4⟩
      have HE : Hid (BP PP W (.returned (.bool bb)) w4) := ⟨bb, rfl, ⟨fun h => HOk.out.2 ⟨hnm.out, HPr.out.1, HPr.out.2, Hi3.out.1 (by first | trivial | rfl), hi4.1 h⟩, fun h => hi4.2 (HOk.out.1 h).2.2.2.2⟩, bnext HB3.out hb4⟩
      clear hi4 hb4 b4
      go_wp2
      go_ret
      exact HE.out
def lO0 : Oper := { dst := some 3, op := Op.load 25 (Operand.tmp 1), type := 25, pos := "law.go:126", after := #[], guard := none }
def lO1 : Oper := { dst := some 4, op := Op.call { callee := Callee.value (Operand.func 4), args := #[Operand.tmp 3], argTypes := #[25] }, type := 4, pos := "law.go:126", after := #[{ on := 0, ground := Ground.data }], guard := none }
def lO2 : Oper := { dst := some 5, op := Op.load 25 (Operand.tmp 1), type := 25, pos := "law.go:126", after := #[], guard := none }
def lO3 : Oper := { dst := some 6, op := Op.call { callee := Callee.value (Operand.func 5), args := #[Operand.tmp 5], argTypes := #[25] }, type := 4, pos := "law.go:126", after := #[{ on := 2, ground := Ground.data }, { on := 1, ground := Ground.chain }], guard := none }
def lO4 : Oper := { dst := some 7, op := Op.binOp BinOp.eql 4 (Operand.tmp 4) (Operand.tmp 6) 4, type := 4, pos := "law.go:126", after := #[{ on := 1, ground := Ground.data }, { on := 3, ground := Ground.data }], guard := none }
def lO5 : Oper := { dst := some 2, op := Op.assign (Operand.tmp 7), type := 4, pos := "law.go:126", after := #[{ on := 4, ground := Ground.data }, { on := 3, ground := Ground.chain }, { on := 0, ground := Ground.phase }, { on := 1, ground := Ground.phase }, { on := 2, ground := Ground.phase }, { on := 3, ground := Ground.phase }, { on := 4, ground := Ground.phase }], guard := none }
def lOs : Array Oper := #[lO0, lO1, lO2, lO3, lO4, lO5]
set_option maxHeartbeats 8000000 in
set_option maxRecDepth 100000 in
/-- the law -/
theorem forms_walk (N n : Nat) (s : ByteArray) (wd ln : Int) (aD : Option Addr) (nD cD : Nat) (aB : Option Addr) (nB cB : Nat) (W : World) (hs : s.size ≤ maxLen) (hD : DX W aD nD) (hB : TX W (SB W N n) (.slice aB nB cB)) (hct : CT W n (.slice aB nB cB) ≤ 40000000) (hT : TBL 1 W) (hF : TBF 0 W) (hGB : 1 < W.heap.size) :
    Calls Tryd.prog 3 #[.agg #[.string s, .int .i64 wd, .int .i64 ln, .slice aD nD cD, .slice aB nB cB]] W fun e W' => e = .returned (.bool true) ∧ Below W.heap.size W W' := by
  have HL : Hid (∀ X, Below W.heap.size W X → Calls Tryd.prog 4 #[.agg #[.string s, .int .i64 wd, .int .i64 ln, .slice aD nD cD, .slice aB nB cB]] X (BP (okP W N n s wd ln aD nD (.slice aB nB cB)) X)) := fun X hX => lForm_any W N n s wd ln aD nD cD aB nB cB X hs hD hB hct hX (hT.up hX hGB) (hF.up hX (by omega)) (Nat.lt_of_lt_of_le hGB hX.size)
  have HR : Hid (∀ X, Below W.heap.size W X → Calls Tryd.prog 5 #[.agg #[.string s, .int .i64 wd, .int .i64 ln, .slice aD nD cD, .slice aB nB cB]] X (BP (okP W N n s wd ln aD nD (.slice aB nB cB)) X)) := fun X hX => rForm_any W N n s wd ln aD nD cD aB nB cB X hs hD hB.st hX
  clear hs hD hB hct hT hF hGB
  generalize okP W N n s wd ln aD nD (.slice aB nB cB) = PP at *
  obtain ⟨W1, hW1⟩ : ∃ W1, W.alloc (.cells #[.string s, .int .i64 wd, .int .i64 ln, .slice aD nD cD, .slice aB nB cB] 25) = W1 := ⟨_, rfl⟩
  have HY1 : Hid (YB W 25 #[.string s, .int .i64 wd, .int .i64 ln, .slice aD nD cD, .slice aB nB cB] W1) := by rw [← hW1]; exact ⟨heap_alloc_new _ _, lbel _ _⟩
  have HW1e : Hid (W.alloc (.cells #[.string s, .int .i64 wd, .int .i64 ln, .slice aD nD cD, .slice aB nB cB] 25) = W1) := hW1
  have HB1 : Hid (Below W.heap.size W W1) := HY1.out.out.2
  have HKp : Hid (∀ Wc, Below W1.heap.size W1 Wc → Aside (Below W1.heap.size W1 Wc) ∧ Wc.cell? ⟨W.heap.size, 0, none⟩ = some (.string s) ∧ Wc.cell? ⟨W.heap.size, 1, none⟩ = some (.int .i64 wd) ∧ Wc.cell? ⟨W.heap.size, 2, none⟩ = some (.int .i64 ln) ∧ Wc.cell? ⟨W.heap.size, 3, none⟩ = some (.slice aD nD cD) ∧ Wc.cell? ⟨W.heap.size, 4, none⟩ = some (.slice aB nB cB)) := fun Wc hc2 => by
    have h8 : Wc.heap[W.heap.size]? = some (.cells #[.string s, .int .i64 wd, .int .i64 ln, .slice aD nD cD, .slice aB nB cB] 25 (0, 0)) := (hc2.block _ (Array.getElem?_eq_some_iff.1 HY1.out.out.1).1).trans HY1.out.out.1
    exact ⟨hc2, lc h8 0, lc h8 1, lc h8 2, lc h8 3, lc h8 4⟩
  have hk0 := HKp.out W1.drew ⟨rfl, rfl, rfl, Nat.le_refl _, fun _ _ => rfl⟩
  clear hW1 HY1
  go_enter Tryd.func3, Tryd.ntmps3
  go_wp2_with fail
  rw [HW1e.out]
  clear HW1e
  refine wp_region_held_drew (S := (fun Wc => Aside (Below W1.heap.size W1 Wc) ∧ Wc.cell? ⟨W.heap.size, 0, none⟩ = some (.string s) ∧ Wc.cell? ⟨W.heap.size, 1, none⟩ = some (.int .i64 wd) ∧ Wc.cell? ⟨W.heap.size, 2, none⟩ = some (.int .i64 ln) ∧ Wc.cell? ⟨W.heap.size, 3, none⟩ = some (.slice aD nD cD) ∧ Wc.cell? ⟨W.heap.size, 4, none⟩ = some (.slice aB nB cB))) (by kernel_rfl) hk0 (fun hHeld => ?_)
  clear hk0
  have hsc : SC .any lOs (Array.replicate 6 false) [0, 2, 1, 3, 4, 5] := by unfold SC; kernel_rfl
  show wpAnyH Tryd.prog .any (#[lO0, lO1, lO2, lO3, lO4, lO5]) _ _ _ _ _ _
  refine tkY 0 lO0 (some 3) ?va0 hsc rfl rfl (by kernel_rfl) (fun _ _ _ h => h) ?ha0 (by assumption) (fun hsc => ?ra0)
  case ha0 => (unfold lO0; intro w hSw; (try dsimp only at hSw); go_simp <;> with_reducible rfl)
  try simp only [Act.put, List.setIfInBounds_toArray, List.set_cons_zero, List.set_cons_succ]
  refine tkY 2 lO2 (some 5) ?va2 hsc rfl rfl (by kernel_rfl) (fun _ _ _ h => h) ?ha2 (by assumption) (fun hsc => ?ra2)
  case ha2 => (unfold lO2; intro w hSw; (try dsimp only at hSw); go_simp <;> with_reducible rfl)
  try simp only [Act.put, List.setIfInBounds_toArray, List.set_cons_zero, List.set_cons_succ]
  refine wpAnyH_ready (rs := [1]) (by kernel_rfl) (by simp) ?_
  refine AllReadyH.cons (o := lO1) rfl (fun K hK => ?_) AllReadyH.nil
  unfold lO1
  go_simp
  go_at_call 4; refine (HL.out _ (bnext HB1.out hHeld.1.out)).mono ?_; rintro e w1 ⟨b1, rfl, hi1, hb1⟩
  have Hi1 : Hid (b1 = true ↔ PP) := hi1
  have hx1 := HKp.out w1 (bnext hHeld.1.out hb1)
  clear hb1 hi1 hHeld
  refine hK.out _ _ hx1 (fun hHeld => ?_)
  clear hK K hx1
  try simp only [Act.put, List.setIfInBounds_toArray, List.set_cons_zero, List.set_cons_succ]
  replace hsc := hsc.tail
  refine wpAnyH_ready (rs := [3]) (by kernel_rfl) (by simp) ?_
  refine AllReadyH.cons (o := lO3) rfl (fun K hK => ?_) AllReadyH.nil
  unfold lO3
  go_simp
  go_at_call 5; refine (HR.out _ (bnext HB1.out hHeld.1.out)).mono ?_; rintro e w3 ⟨b3, rfl, hi3, hb3⟩
  have Hi3 : Hid (b3 = true ↔ PP) := hi3
  have hx3 := HKp.out w3 (bnext hHeld.1.out hb3)
  clear hb3 hi3 hHeld
  refine hK.out _ _ hx3 (fun hHeld => ?_)
  clear hK K hx3
  try simp only [Act.put, List.setIfInBounds_toArray, List.set_cons_zero, List.set_cons_succ]
  replace hsc := hsc.tail
  obtain rfl : b3 = b1 := by have h1 := Hi1.out; have h3 := Hi3.out; rw [← h3] at h1; cases b1 <;> cases b3 <;> simp_all
  have tb : (b3 == b3) = true := by simp
  refine tkY 4 lO4 (some 7) ?va4 hsc rfl rfl (by kernel_rfl) (fun _ _ _ h => h) ?ha4 (by assumption) (fun hsc => ?ra4)
  case ha4 => (unfold lO4; intro w hSw; (try dsimp only at hSw); go_simp <;> with_reducible rfl)
  try simp only [Act.put, List.setIfInBounds_toArray, List.set_cons_zero, List.set_cons_succ]
  refine tkY 5 lO5 (some 2) ?va5 hsc rfl rfl (by kernel_rfl) (fun _ _ _ h => h) ?ha5 (by assumption) (fun hsc => ?ra5)
  case ha5 => (unfold lO5; intro w hSw; (try dsimp only at hSw); go_simp <;> with_reducible rfl)
  try simp only [Act.put, List.setIfInBounds_toArray, List.set_cons_zero, List.set_cons_succ]
  refine wpAnyH_done (by kernel_rfl) ?_ _
  have HEnd : Hid (Below W.heap.size W w3) := bnext HB1.out hHeld.1.out
  try go_wp2_with fail
  go_ret
  exact ⟨rfl, HEnd.out⟩
end Go.Proofs.YtcmknjocmpdicaaDoor
