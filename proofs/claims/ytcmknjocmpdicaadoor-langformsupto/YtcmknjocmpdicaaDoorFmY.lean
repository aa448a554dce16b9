import Derived.Test.YtcmknjocmpdicaaDoorFmX
namespace Go.Proofs.YtcmknjocmpdicaaDoor
open Go.ChangeShapes Go.WideShapes Go.ChangeAt Go.RowKit Go.Bn

theorem okD_iff {k : Int} {s : ByteArray} {z : Int} {n : Nat} : okD k s z n ↔ (1 ≤ k ∧ k ≤ 5) ∧ nameB s = true ∧ okZ k z n := Iff.rfl
set_option maxHeartbeats 8000000 in
set_option maxRecDepth 100000 in
theorem formDecls_any (w0 : World) (aD : Option Addr) (nD cD : Nat) (W : World) (hD : DX w0 aD nD) (hW : Below w0.heap.size w0 W) :
    Calls Tryd.prog 7 #[.slice aD nD cD] W (BP (∀ j, j < nD → DO w0 aD j) W) := by
  have HD : Hid (DX w0 aD nD) := hD
  have HW : Hid (Below w0.heap.size w0 W) := hW
  have hnD := hD.1
  clear hD hW
  go_enter Tryd.func7, Tryd.ntmps7
  go_wp2_with fail
  go_loopg [7] nD (fun gk v7 wr => ∃ j : Nat, v7 = .int .i64 (j : Int) ∧ j + gk = nD ∧ Aside (Below W.heap.size W wr ∧ ∀ i, i < j → DO w0 aD i))
  case atStart => exact ⟨0, rfl, by omega, ⟨Below.refl _ _, fun i hi => absurd hi (by omega)⟩⟩
  case round =>
    obtain ⟨j, rfl, hj, HR⟩ := hrel
    have HR2 : Hid (Below W.heap.size W wr ∧ ∀ i, i < j → DO w0 aD i) := HR.out
    clear HR
    by_cases hlt : j < nD
    · have q1 : (j : Int) < (nD : Int) := by omega
      obtain ⟨b, o, rfl, hb, hel⟩ := HD.out.2 (by omega)
      obtain ⟨k, sd, z, a, nv, c, hda, hsd⟩ := hel j hlt
      have HB0 : Hid (Below w0.heap.size w0 wr) := bnext HW.out HR2.out.1
      have y0 := (HB0.out.cell (p := ⟨b, o + j * 4, none⟩) hb).trans hda.1
      have y1 := (HB0.out.cell (p := ⟨b, o + j * 4 + 1, none⟩) hb).trans hda.2.1
      have y2 := (HB0.out.cell (p := ⟨b, o + j * 4 + 2, none⟩) hb).trans hda.2.2.1
      have y3 := (HB0.out.cell (p := ⟨b, o + j * 4 + 3, none⟩) hb).trans hda.2.2.2
      have HDo : Hid (DO w0 (some ⟨b, o, none⟩) j ↔ okD k sd z nv) := DO_at hda
      have HSd : Hid (sd.size ≤ maxLen) := hsd
      obtain ⟨W2, hW2⟩ : ∃ W2, wr.alloc (.cells #[.int .i64 k, .string sd, .int .i64 z, .slice a nv c] 33) = W2 := ⟨_, rfl⟩
      have HY : Hid (YB wr 33 #[.int .i64 k, .string sd, .int .i64 z, .slice a nv c] W2) := by rw [← hW2]; exact ⟨heap_alloc_new _ _, lbel _ _⟩
      have HW2e : Hid (wr.alloc (.cells #[.int .i64 k, .string sd, .int .i64 z, .slice a nv c] 33) = W2) := hW2
      clear hel hda hb hsd hW2
      go_upto_region 4 with fail
      rw [HW2e.out]
      clear HW2e y0 y1 y2 y3
      have c0 := lc HY.out.out.1 0
      have c1 := lc HY.out.out.1 1
      by_cases hk1 : k < 1
      · have d1 : decide (k < 1) = true := decide_eq_true hk1
        have HE : Hid (Below W.heap.size W _ ∧ ¬ ∀ j, j < nD → DO w0 (some ⟨b, o, none⟩) j) := ⟨bnext HR2.out.1 HY.out.out.2, fun h => absurd (HDo.out.1 (h j hlt)) (fun h9 => by have := h9.1.1; omega)⟩
        go_wp2
        go_ret
        exact BP.f HE.out.2 HE.out.1
      · have d1 : decide (k < 1) = false := decide_eq_false hk1
        by_cases hk5 : 5 < k
        · have d5 : decide (5 < k) = true := decide_eq_true hk5
          have HE : Hid (Below W.heap.size W _ ∧ ¬ ∀ j, j < nD → DO w0 (some ⟨b, o, none⟩) j) := ⟨bnext HR2.out.1 HY.out.out.2, fun h => absurd (HDo.out.1 (h j hlt)) (fun h9 => by have := h9.1.2; omega)⟩
          go_wp2
          go_ret
          exact BP.f HE.out.2 HE.out.1
        · have d5 : decide (5 < k) = false := decide_eq_false hk5
          go_wp2_with fail
          refine (isName_any sd _ HSd.out).mono ?_
          rintro e w3 ⟨he, hb3⟩
          have HY3 : Hid (YB wr 33 #[.int .i64 k, .string sd, .int .i64 z, .slice a nv c] w3) := HY.out.next hb3
          clear hb3 HY c0 c1
          have c0 := lc HY3.out.out.1 0
          have c1 := lc HY3.out.out.1 1
          have c2 := lc HY3.out.out.1 2
          have c3 := lc HY3.out.out.1 3
          cases hnm : nameB sd with
          | false =>
            rw [hnm] at he
            subst he
            have HE : Hid (Below W.heap.size W _ ∧ ¬ ∀ j, j < nD → DO w0 (some ⟨b, o, none⟩) j) := ⟨bnext HR2.out.1 HY3.out.out.2, fun h => absurd (HDo.out.1 (h j hlt)) (fun h9 => absurd h9.2.1 (by rw [hnm]; decide))⟩
            go_wp2
            go_ret
            exact BP.f HE.out.2 HE.out.1
          | true =>
            rw [hnm] at he
            subst he
            replace hnm : Hid (nameB sd = true) := hnm
            go_wp2_with fail
            refine (formSize_any k sd z a nv c _).mono ?_
            rintro e w4 ⟨bb, rfl, hi, hb4⟩
            have HY4 : Hid (YB wr 33 #[.int .i64 k, .string sd, .int .i64 z, .slice a nv c] w4) := HY3.out.next hb4
            have Hi : Hid (bb = true ↔ okZ k z nv) := hi
            clear hi hb4 HY3 c0 c1 c2 c3
            cases bb with
            | false =>
              have HE : Hid (Below W.heap.size W _ ∧ ¬ ∀ j, j < nD → DO w0 (some ⟨b, o, none⟩) j) := ⟨bnext HR2.out.1 HY4.out.out.2, fun h => absurd (HDo.out.1 (h j hlt)) (fun h9 => absurd (Hi.out.2 h9.2.2) (by decide))⟩
              go_wp2
              go_ret
              exact BP.f HE.out.2 HE.out.1
            | true =>
              have HN2 : Aside (Below W.heap.size W w4 ∧ ∀ i, i < j + 1 → DO w0 (some ⟨b, o, none⟩) i) := ⟨bnext HR2.out.1 HY4.out.out.2, fun i hi => by
                by_cases e : i = j
                · subst e
                  exact HDo.out.2 ⟨⟨by omega, by omega⟩, hnm.out, Hi.out.1 rfl⟩
                · exact HR2.out.2 i (by omega)⟩
              go_wp2_with fail
              go_roundg (gk - 1)
              case measure => omega
              case rel => exact ⟨j + 1, by simp, by omega, HN2⟩
    · obtain rfl : j = nD := by omega
      have q1 : ¬ (j : Int) < (j : Int) := by omega
      have HE : Hid (Below W.heap.size W wr ∧ ∀ i, i < j → DO w0 aD i) := HR2.out
      go_wp2
      go_ret
      exact BP.t HE.out.2 HE.out.1
end Go.Proofs.YtcmknjocmpdicaaDoor
