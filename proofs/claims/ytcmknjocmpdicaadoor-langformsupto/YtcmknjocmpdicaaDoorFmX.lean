import Derived.Test.YtcmknjocmpdicaaDoorFmV
import Derived.Test.YtcmknjocmpdicaaDoorFmW
namespace Go.Proofs.YtcmknjocmpdicaaDoor
open Go.ChangeShapes Go.WideShapes Go.ChangeAt Go.RowKit Go.Bn

/-- a declaration stands at (b, o) -/
def DA (w : World) (b o : Nat) (k : Int) (s : ByteArray) (z : Int) (a : Option Addr) (n c : Nat) : Prop := w.cell? ⟨b, o, none⟩ = some (.int .i64 k) ∧ w.cell? ⟨b, o + 1, none⟩ = some (.string s) ∧ w.cell? ⟨b, o + 2, none⟩ = some (.int .i64 z) ∧ w.cell? ⟨b, o + 3, none⟩ = some (.slice a n c)
/-- a list of declarations in memory -/
def DX (w : World) (ad : Option Addr) (len : Nat) : Prop := len ≤ 1048576 ∧ (0 < len → ∃ b o, ad = some ⟨b, o, none⟩ ∧ b < w.heap.size ∧ ∀ j, j < len → ∃ k s z a n c, DA w b (o + j * 4) k s z a n c ∧ s.size ≤ maxLen)
/-- the j-th declaration is of the form -/
def DO (w : World) (ad : Option Addr) (j : Nat) : Prop := ∀ b o, ad = some ⟨b, o, none⟩ → ∀ k s z a n c, DA w b (o + j * 4) k s z a n c → okD k s z n
theorem DO_at {w : World} {b o j : Nat} {k : Int} {s : ByteArray} {z : Int} {a : Option Addr} {n c : Nat} (h : DA w b (o + j * 4) k s z a n c) : DO w (some ⟨b, o, none⟩) j ↔ okD k s z n := by
  constructor
  · exact fun h2 => h2 b o rfl k s z a n c h
  · intro h2 b' o' e k' s' z' a' n' c' h3
    cases e
    have e0 := h.1.symm.trans h3.1
    have e1 := h.2.1.symm.trans h3.2.1
    have e2 := h.2.2.1.symm.trans h3.2.2.1
    have e3 := h.2.2.2.symm.trans h3.2.2.2
    cases e0
    cases e1
    cases e2
    cases e3
    exact h2
/-- a program of the form -/
def okP (w : World) (N n : Nat) (s : ByteArray) (wd ln : Int) (aD : Option Addr) (nD : Nat) (body : Value) : Prop := nameB s = true ∧ 0 ≤ wd ∧ 0 ≤ ln ∧ (∀ j, j < nD → DO w aD j) ∧ TF w (FT w N n) body
set_option maxHeartbeats 8000000 in
set_option maxRecDepth 100000 in
theorem rForm_any (w0 : World) (N n : Nat) (s : ByteArray) (wd ln : Int) (aD : Option Addr) (nD cD : Nat) (aB : Option Addr) (nB cB : Nat) (W : World) (hs : s.size ≤ maxLen) (hD : DX w0 aD nD) (hB : TX w0 (ST w0 N n) (.slice aB nB cB)) (hW : Below w0.heap.size w0 W) :
    Calls Tryd.prog 5 #[.agg #[.string s, .int .i64 wd, .int .i64 ln, .slice aD nD cD, .slice aB nB cB]] W (BP (okP w0 N n s wd ln aD nD (.slice aB nB cB)) W) := by
  have HN : Hid (∀ X, Calls Tryd.prog 9 #[.string s] X fun e w' => e = .returned (.bool (nameB s)) ∧ Below X.heap.size X w') := fun X => rName_any s X hs
  have HS : Hid (∀ X, Below W.heap.size W X → Calls Tryd.prog 11 #[.slice aB nB cB] X (BP (TF w0 (FT w0 N n) (.slice aB nB cB)) X)) := fun X hX => (stmts_any w0 N n).2 _ X hB (bnext hW hX)
  have HD : Hid (DX w0 aD nD) := hD
  have HW : Hid (Below w0.heap.size w0 W) := hW
  have hnD := hD.1
  clear hs hD hB hW
  generalize hTT : TF w0 (FT w0 N n) (.slice aB nB cB) = TT at *
  have HOk : Hid (okP w0 N n s wd ln aD nD (.slice aB nB cB) ↔ nameB s = true ∧ 0 ≤ wd ∧ 0 ≤ ln ∧ (∀ j, j < nD → DO w0 aD j) ∧ TT) := by show _ ↔ _; rw [← hTT]; exact Iff.rfl
  clear hTT
  generalize okP w0 N n s wd ln aD nD (.slice aB nB cB) = PP at *
  obtain ⟨W1, hW1⟩ : ∃ W1, W.alloc (.cells #[.string s, .int .i64 wd, .int .i64 ln, .slice aD nD cD, .slice aB nB cB] 25) = W1 := ⟨_, rfl⟩
  have HY1 : Hid (YB W 25 #[.string s, .int .i64 wd, .int .i64 ln, .slice aD nD cD, .slice aB nB cB] W1) := by rw [← hW1]; exact ⟨heap_alloc_new _ _, lbel _ _⟩
  have HW1e : Hid (W.alloc (.cells #[.string s, .int .i64 wd, .int .i64 ln, .slice aD nD cD, .slice aB nB cB] 25) = W1) := hW1
  clear hW1
  go_enter Tryd.func5, Tryd.ntmps5
  go_wp2_with fail
  rw [HW1e.out]
  clear HW1e
  refine (HN.out _).mono ?_
  rintro e w2 ⟨he, hb2⟩
  have HY2 : Hid (YB W 25 #[.string s, .int .i64 wd, .int .i64 ln, .slice aD nD cD, .slice aB nB cB] w2) := HY1.out.next hb2
  clear hb2 HY1
  have b1 := lc HY2.out.out.1 1
  have b2 := lc HY2.out.out.1 2
  have b3 := lc HY2.out.out.1 3
  have HB2 : Hid (Below W.heap.size W w2) := HY2.out.out.2
  cases hnm : nameB s with
  | false =>
    rw [hnm] at he
    subst he
    have HF : Hid (¬ PP) := fun h => absurd (HOk.out.1 h).1 (by rw [hnm]; decide)
    go_wp2
    go_ret
    exact BP.f HF.out HB2.out
  | true =>
    rw [hnm] at he
    subst he
    replace hnm : Hid (nameB s = true) := hnm
    by_cases hwd : wd < 0
    · have HF : Hid (¬ PP) := fun h => by have := (HOk.out.1 h).2.1; omega
      go_wp2
      go_ret
      exact BP.f HF.out HB2.out
    · by_cases hln : ln < 0
      · have HF : Hid (¬ PP) := fun h => by have := (HOk.out.1 h).2.2.1; omega
        go_wp2
        go_ret
        exact BP.f HF.out HB2.out
      · have HPr : Hid (0 ≤ wd ∧ 0 ≤ ln) := by show _ ∧ _; omega
        go_wp2_with fail
        clear b1 b2 b3 HB2
        go_loopg [3] nD (fun gk v3 wr => ∃ j : Nat, v3 = .int .i64 (j : Int) ∧ j + gk = nD ∧ Aside (YB W 25 #[.string s, .int .i64 wd, .int .i64 ln, .slice aD nD cD, .slice aB nB cB] wr ∧ ∀ i, i < j → DO w0 aD i))
        case atStart => exact ⟨0, rfl, by omega, ⟨HY2.out, fun i hi => absurd hi (by omega)⟩⟩
        case round =>
          clear HY2
          obtain ⟨j, rfl, hj, HR⟩ := hrel
          have HR2 : Hid (YB W 25 #[.string s, .int .i64 wd, .int .i64 ln, .slice aD nD cD, .slice aB nB cB] wr ∧ ∀ i, i < j → DO w0 aD i) := HR.out
          clear HR
          have b3 := lc HR2.out.1.out.1 3
          have b4 := lc HR2.out.1.out.1 4
          by_cases hlt : j < nD
          · have q1 : (j : Int) < (nD : Int) := by omega
            obtain ⟨b, o, rfl, hb, hel⟩ := HD.out.2 (by omega)
            obtain ⟨k, sd, z, a, nv, c, hda, hsd⟩ := hel j hlt
            have HB0 : Hid (Below w0.heap.size w0 wr) := bnext HW.out HR2.out.1.out.2
            have y0 := (HB0.out.cell (p := ⟨b, o + j * 4, none⟩) hb).trans hda.1
            have y1 := (HB0.out.cell (p := ⟨b, o + j * 4 + 1, none⟩) hb).trans hda.2.1
            have y2 := (HB0.out.cell (p := ⟨b, o + j * 4 + 2, none⟩) hb).trans hda.2.2.1
            have y3 := (HB0.out.cell (p := ⟨b, o + j * 4 + 3, none⟩) hb).trans hda.2.2.2
            have HDo : Hid (DO w0 (some ⟨b, o, none⟩) j ↔ okD k sd z nv) := DO_at hda
            have HCl : Hid (Calls Tryd.prog 10 #[.agg #[.int .i64 k, .string sd, .int .i64 z, .slice a nv c]] wr (BP (okD k sd z nv) wr)) := declForm_any k sd z a nv c wr hsd
            clear hel hda hb hsd
            go_wp2_with fail
            refine HCl.out.mono ?_
            rintro e w3 ⟨bb, rfl, hiff, hbl⟩
            have HB1 : Hid (Below wr.heap.size wr w3 ∧ (bb = true ↔ okD k sd z nv)) := ⟨hbl, hiff⟩
            clear hbl hiff y0 y1 y2 y3 b3 b4 HCl
            cases bb with
            | false =>
              have HE : Hid (Below W.heap.size W w3 ∧ ¬ PP) := ⟨bnext HR2.out.1.out.2 HB1.out.1, fun h => absurd (HB1.out.2.2 (HDo.out.1 ((HOk.out.1 h).2.2.2.1 j hlt))) (by decide)⟩
              go_wp2
              go_ret
              exact BP.f HE.out.2 HE.out.1
            | true =>
              have HN2 : Aside (YB W 25 #[.string s, .int .i64 wd, .int .i64 ln, .slice (some ⟨b, o, none⟩) nD cD, .slice aB nB cB] w3 ∧ ∀ i, i < j + 1 → DO w0 (some ⟨b, o, none⟩) i) := ⟨HR2.out.1.next HB1.out.1, fun i hi => by
                by_cases e : i = j
                · subst e
                  exact HDo.out.2 (HB1.out.2.1 rfl)
                · exact HR2.out.2 i (by omega)⟩
              go_wp2_with fail
              go_roundg (gk - 1)
              case measure => omega
              case rel => exact ⟨j + 1, by simp, by omega, HN2⟩
          · obtain rfl : j = nD := by omega
            have q1 : ¬ (j : Int) < (j : Int) := by omega
            go_wp2_with fail
            refine (HS.out _ HR2.out.1.out.2).mono ?_
            rintro e w3 ⟨bb, rfl, hiff, hbl⟩
            have HE : Hid (BP PP W (.returned (.bool bb)) w3) := ⟨bb, rfl, ⟨fun h => HOk.out.2 ⟨hnm.out, HPr.out.1, HPr.out.2, HR2.out.2, hiff.1 h⟩, fun h => hiff.2 (HOk.out.1 h).2.2.2.2⟩, bnext HR2.out.1.out.2 hbl⟩
            clear hiff hbl b3 b4
            go_wp2
            go_ret
            exact HE.out
end Go.Proofs.YtcmknjocmpdicaaDoor
