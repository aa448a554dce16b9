import Derived.Test.YtklkeajakmhkgaaDoorXL
import Derived.WalkMore
import Derived.ScopeJumps
namespace Go.Proofs.YtklkeajakmhkgaaDoor
open Go.ChangeShapes Go.WideShapes Go.ChangeAt Go.RowKit Go.Lib

theorem rowOf_none {l : List UInt8} (h : fW l = []) : rowOf l = some none := by
  unfold rowOf
  rw [words_step, if_pos h]
theorem rowOf_c {l : List UInt8} (h : fW l = [99]) : rowOf l = some none := by
  unfold rowOf
  rw [words_step, if_neg (by rw [h]; simp), h]
  rfl
theorem rowOf_d {l : List UInt8} (h : fW l = [100]) : rowOf l = (lineGo (wordsOf (fR l))).map (fun c => some (true, c)) := by
  unfold rowOf
  rw [words_step, if_neg (by rw [h]; simp), h]
  simp only
  rw [if_neg (by simp), if_pos trivial]
theorem rowOf_n {l : List UInt8} (h0 : fW l ≠ []) (h1 : fW l ≠ [99]) (h2 : fW l ≠ [100]) : rowOf l = (lineGo (cwL (fW l) (fR l))).map (fun c => some (false, c)) := by
  unfold rowOf cwL
  rw [words_step, if_neg h0]
  simp only
  rw [if_neg h1, if_neg h2]
theorem blk_fz {w : World} {G : Nat} {cs : Array Value} {e : TypeId} (h : w.heap[G]? = some (.cells cs e (0, 0))) (j : Nat) : w.frozen? ⟨G, j, none⟩ = false := by simp [World.frozen?, h]
theorem set2_below {w wr : World} (h : Below w.heap.size w wr) (u0 u1 : Value) : Below w.heap.size w ((wr.setCell ⟨w.heap.size, 0, none⟩ u0).setCell ⟨w.heap.size, 1, none⟩ u1) := by
  have hz := h.size
  have hh : ∀ j, j ≠ w.heap.size → ((wr.setCell ⟨w.heap.size, 0, none⟩ u0).setCell ⟨w.heap.size, 1, none⟩ u1).heap[j]? = wr.heap[j]? := fun j hj => (heap_setCell_other _ _ _ _ hj).trans (heap_setCell_other _ _ _ _ hj)
  exact ⟨h.os, h.tape, h.output, by simp; exact hz, fun j hj => (hh j (by omega)).trans (h.block j hj)⟩
theorem PLS.setD {w wr : World} {v : Value} {acc : List Int} (h : PLS w wr false v acc) : PLS w (wr.setCell ⟨w.heap.size + 1, 0, none⟩ (.bool true)) true v acc := by
  have hoth : ∀ j, j ≠ w.heap.size + 1 → (wr.setCell ⟨w.heap.size + 1, 0, none⟩ (.bool true)).heap[j]? = wr.heap[j]? := fun j hj => heap_setCell_other _ _ _ _ hj
  have hz := h.bel.size
  refine ⟨(hoth _ (by omega)).trans h.r1, ?_, rowO_same h.row (fun j hj => hoth j (fun e => row_ne_blk h.row h.r2 (by decide) (by rw [hj, e]))), ⟨h.bel.os, h.bel.tape, h.bel.output, by simp; exact hz, fun j hj => (hoth j (by omega)).trans (h.bel.block j hj)⟩⟩
  rw [heap_setCell_same _ (w.heap.size + 1) 0 _ _ _ h.r2]
  rfl
theorem litW_bd (l : List UInt8) : -2147483648 ≤ litW l ∧ litW l ≤ 2147483648 := by
  unfold litW
  split
  · omega
  · cases h : pM 0 (digs l) with
    | none => simp
    | some v =>
      have := pM_le h
      simp only
      split <;> omega
set_option maxHeartbeats 8000000 in
set_option maxRecDepth 100000 in
theorem parseLine_any (s : ByteArray) (w : World) (hs : s.size ≤ 1048576) (hS : SENT w) :
    Calls Tryd.prog 8 #[.string s] w (PLP w s.data.toList) := by
  generalize hPP : PLP w s.data.toList = PP
  have HNO : Hid (rowOf s.data.toList = some none → ∀ w', Below w.heap.size w w' → PP (.returned (.tuple #[.agg #[.bool false, .slice none 0 0], .int .i64 1])) w') := fun h w' hb => by rw [← hPP]; unfold PLP; rw [h]; exact ⟨hb, rfl⟩
  have HWR : Hid (rowOf s.data.toList = none → ∀ w', Below w.heap.size w w' → PP (.returned (.tuple #[.agg #[.bool false, .slice none 0 0], .int .i64 0])) w') := fun h w' hb => by rw [← hPP]; unfold PLP; rw [h]; exact ⟨hb, rfl⟩
  have HST : Hid (∀ d c, rowOf s.data.toList = some (some (d, c)) → ∀ v w', Below w.heap.size w w' → w'.ownsRow w.heap.size 3 1 v c.length (c.map (Value.int .i64)) → PP (.returned (.tuple #[.agg #[.bool d, v], .int .i64 2])) w') := fun d c h v w' hb ho => by rw [← hPP]; unfold PLP; rw [h]; exact ⟨hb, v, rfl, ho⟩
  clear hPP
  have HJ : Hid (∀ (u1 u3 u4 u5 u6 u7 u8 u9 u10 u11 u12 u13 u14 u15 u16 u17 u18 u19 u20 u21 u22 u23 u24 u25 u26 u27 u28 u29 u30 u31 u32 u33 u34 u35 u36 u37 u38 u39 u40 u41 u42 u43 u44 u45 u46 u47 u48 u49 u50 u51 u52 u53 : Value) (wr : World), wr.heap[w.heap.size]? = some (.cells #[.bool false, .slice none 0 0] 30 (0, 0)) → Below w.heap.size w wr → rowOf s.data.toList = none → (fun a wr => ∃ u1 u3 u4 u5 u6 u7 u8 u9 u10 u11 u12 u13 u14 u15 u16 u17 u18 u19 u20 u21 u22 u23 u24 u25 u26 u27 u28 u29 u30 u31 u32 u33 u34 u35 u36 u37 u38 u39 u40 u41 u42 u43 u44 u45 u46 u47 u48 u49 u50 u51 u52 u53 : Value, a = ({ tmps := #[.string s, u1, .pointer (some ⟨w.heap.size, 0, none⟩), u3, u4, u5, u6, u7, u8, u9, u10, u11, u12, u13, u14, u15, u16, u17, u18, u19, u20, u21, u22, u23, u24, u25, u26, u27, u28, u29, u30, u31, u32, u33, u34, u35, u36, u37, u38, u39, u40, u41, u42, u43, u44, u45, u46, u47, u48, u49, u50, u51, u52, u53], defers := [] } : Act) ∧ wr.heap[w.heap.size]? = some (.cells #[.bool false, .slice none 0 0] 30 (0, 0)) ∧ Below w.heap.size w wr ∧ rowOf s.data.toList = none) ({ tmps := #[.string s, u1, .pointer (some ⟨w.heap.size, 0, none⟩), u3, u4, u5, u6, u7, u8, u9, u10, u11, u12, u13, u14, u15, u16, u17, u18, u19, u20, u21, u22, u23, u24, u25, u26, u27, u28, u29, u30, u31, u32, u33, u34, u35, u36, u37, u38, u39, u40, u41, u42, u43, u44, u45, u46, u47, u48, u49, u50, u51, u52, u53], defers := [] } : Act) wr) := fun u1 u3 u4 u5 u6 u7 u8 u9 u10 u11 u12 u13 u14 u15 u16 u17 u18 u19 u20 u21 u22 u23 u24 u25 u26 u27 u28 u29 u30 u31 u32 u33 u34 u35 u36 u37 u38 u39 u40 u41 u42 u43 u44 u45 u46 u47 u48 u49 u50 u51 u52 u53 wr h1 h2 h3 => ⟨u1, u3, u4, u5, u6, u7, u8, u9, u10, u11, u12, u13, u14, u15, u16, u17, u18, u19, u20, u21, u22, u23, u24, u25, u26, u27, u28, u29, u30, u31, u32, u33, u34, u35, u36, u37, u38, u39, u40, u41, u42, u43, u44, u45, u46, u47, u48, u49, u50, u51, u52, u53, rfl, h1, h2, h3⟩
  have HCW : Hid (∀ (S : ByteArray) (W : World), S.size ≤ 1048576 → Calls Tryd.prog 13 #[.string S] W fun e w' => ∃ Wd R : ByteArray, e = .returned (.tuple #[.string Wd, .string R]) ∧ Wd.data.toList = fW S.data.toList ∧ R.data.toList = fR S.data.toList ∧ ∃ m, w' = W.drewN m) := fun S W h => cutW_any S W (by omega)
  have HLT : Hid (∀ (S : ByteArray) (W : World), S.size ≤ 1048576 → Below w.heap.size w W → Calls Tryd.prog 14 #[.string S] W fun e w' => e = .returned (.int .i64 (litW S.data.toList)) ∧ Below W.heap.size W w') := fun S W h hb => literal_any S W (by omega) (hS.below hb)
  have HBW : Hid (∀ o o2 m, Below w.heap.size w (((w.alloc o).alloc o2).drewN m)) := fun o o2 m => by
    have h := ((Below.refl w.heap.size w).alloc (Nat.le_refl _) o).alloc (by simp) o2
    exact ⟨h.os, h.tape, h.output, h.size, h.block⟩
  clear hS
  obtain ⟨i0, hi, hz0, hz1, hz2⟩ := info_parts (P := Tryd.prog) (e := 3) (z := .int .i64 0) (size := 1) (bytes := 8) (by kernel_rfl)
  go_enter Tryd.func8, Tryd.ntmps8
  go_wp2_with fail
  refine wp_scope_jumps 0 (fun a wr => ∃ u1 u3 u4 u5 u6 u7 u8 u9 u10 u11 u12 u13 u14 u15 u16 u17 u18 u19 u20 u21 u22 u23 u24 u25 u26 u27 u28 u29 u30 u31 u32 u33 u34 u35 u36 u37 u38 u39 u40 u41 u42 u43 u44 u45 u46 u47 u48 u49 u50 u51 u52 u53 : Value, a = ({ tmps := #[.string s, u1, .pointer (some ⟨w.heap.size, 0, none⟩), u3, u4, u5, u6, u7, u8, u9, u10, u11, u12, u13, u14, u15, u16, u17, u18, u19, u20, u21, u22, u23, u24, u25, u26, u27, u28, u29, u30, u31, u32, u33, u34, u35, u36, u37, u38, u39, u40, u41, u42, u43, u44, u45, u46, u47, u48, u49, u50, u51, u52, u53], defers := [] } : Act) ∧ wr.heap[w.heap.size]? = some (.cells #[.bool false, .slice none 0 0] 30 (0, 0)) ∧ Below w.heap.size w wr ∧ rowOf s.data.toList = none) (fun _ _ => 0) rfl ?first ?pass
  case pass =>
    intro a wr hJ
    obtain ⟨u1, u3, u4, u5, u6, u7, u8, u9, u10, u11, u12, u13, u14, u15, u16, u17, u18, u19, u20, u21, u22, u23, u24, u25, u26, u27, u28, u29, u30, u31, u32, u33, u34, u35, u36, u37, u38, u39, u40, u41, u42, u43, u44, u45, u46, u47, u48, u49, u50, u51, u52, u53, rfl, h1, h2, h3⟩ := hJ
    have HF := HWR.out h3
    have g0 : wr.cell? ⟨w.heap.size, 0, none⟩ = some (.bool false) := blk_cell h1 0
    have g1 : wr.cell? ⟨w.heap.size, 1, none⟩ = some (.slice none 0 0) := blk_cell h1 1
    have f0 : wr.frozen? ⟨w.heap.size, 0, none⟩ = false := by simp [World.frozen?, h1]
    have f1 : wr.frozen? ⟨w.heap.size, 1, none⟩ = false := by simp [World.frozen?, h1]
    have HB : Hid (∀ u0 u1 m, Below w.heap.size w (((wr.setCell ⟨w.heap.size, 0, none⟩ u0).setCell ⟨w.heap.size, 1, none⟩ u1).drewN m)) := fun u0 u1 m => by
      have hz := h2.size
      have hh : ∀ j, j ≠ w.heap.size → ((wr.setCell ⟨w.heap.size, 0, none⟩ u0).setCell ⟨w.heap.size, 1, none⟩ u1).heap[j]? = wr.heap[j]? := fun j hj => (heap_setCell_other _ _ _ _ hj).trans (heap_setCell_other _ _ _ _ hj)
      exact ⟨h2.os, h2.tape, h2.output, by simp [World.drewN]; exact hz, fun j hj => (hh j (by omega)).trans (h2.block j hj)⟩
    have HR1 : Hid (wr.heap[w.heap.size]? = some (.cells #[.bool false, .slice none 0 0] 30 (0, 0))) := h1
    have HF2 : Hid (∀ w', Below w.heap.size w w' → PP (.returned (.tuple #[.agg #[.bool false, .slice none 0 0], .int .i64 0])) w') := HF
    clear HF h1 h2 h3 HJ HNO HST HCW HLT HBW HWR
    dsimp only
    go_wp2
    have hfin : ((wr.setCell ⟨w.heap.size, 0, none⟩ (.bool false)).setCell ⟨w.heap.size, 1, none⟩ (.slice none 0 0)).heap[w.heap.size]? = some (.cells #[.bool false, .slice none 0 0] 30 (0, 0)) := by
      rw [heap_setCell_same _ w.heap.size 1 _ _ _ (heap_setCell_same _ w.heap.size 0 _ _ _ HR1.out)]; rfl
    refine bodyPost_ret (v := .tuple #[.agg #[.bool false, .slice none 0 0], .int .i64 0]) (res_ct (p := 2) (u := 3) rfl _ _ w.heap.size 30 _ (0, 0) _ rfl hfin Tryd.underlying30 rfl (by kernel_rfl)) rfl ?_
    exact HF2.out _ (HB.out _ _ 0)
  case first =>
    clear HWR
    go_wp2_with fail
    refine (HCW.out s _ hs).mono ?_
    rintro e w1 ⟨Wd, R, rfl, hW, hR, m, rfl⟩
    have HPQ : Hid (PLS w (((w.alloc (.cells #[.bool false, .slice none 0 0] 30)).alloc (.cells #[.bool false, .slice none 0 0] 30)).drewN m) false (.slice none 0 0) []) := ⟨(Below.heap_alloc _ _ _ (by simp)).trans (heap_alloc_new _ _), by
      have h5 := heap_alloc_new (w.alloc (.cells #[.bool false, .slice none 0 0] 30)) (.cells #[.bool false, .slice none 0 0] 30)
      rw [show (w.alloc (.cells #[.bool false, .slice none 0 0] 30)).heap.size = w.heap.size + 1 by simp] at h5
      exact h5, World.ownsRow_nil _ _ _ _, HBW.out _ _ _⟩
    generalize ((w.alloc (.cells #[.bool false, .slice none 0 0] 30)).alloc (.cells #[.bool false, .slice none 0 0] 30)).drewN m = WQ at *
    clear HBW
    by_cases h0 : fW s.data.toList = []
    · have HF : Hid (rowOf s.data.toList = some none) := rowOf_none h0
      rw [h0] at hW
      have hWe := bytes_of hW
      subst hWe
      have HFI : Hid (∀ w', Below w.heap.size w w' → PP (.returned (.tuple #[.agg #[.bool false, .slice none 0 0], .int .i64 1])) w') := HNO.out HF.out
      have c0 : WQ.cell? ⟨w.heap.size, 0, none⟩ = some (.bool false) := blk_cell HPQ.out.r1 0
      have c1 : WQ.cell? ⟨w.heap.size, 1, none⟩ = some (.slice none 0 0) := blk_cell HPQ.out.r1 1
      have f0 : WQ.frozen? ⟨w.heap.size, 0, none⟩ = false := blk_fz HPQ.out.r1 0
      have f1 : WQ.frozen? ⟨w.heap.size, 1, none⟩ = false := blk_fz HPQ.out.r1 1
      clear hW hR HST HCW HLT HJ HNO
      go_wp2
      have hfin : ((WQ.setCell ⟨w.heap.size, 0, none⟩ (.bool false)).setCell ⟨w.heap.size, 1, none⟩ (.slice none 0 0)).heap[w.heap.size]? = some (.cells #[.bool false, .slice none 0 0] 30 (0, 0)) := by
        rw [heap_setCell_same _ w.heap.size 1 _ _ _ (heap_setCell_same _ w.heap.size 0 _ _ _ HPQ.out.r1)]; rfl
      refine bodyPost_ret (v := .tuple #[.agg #[.bool false, .slice none 0 0], .int .i64 1]) (res_ct (p := 2) (u := 3) rfl _ _ w.heap.size 30 _ (0, 0) _ rfl hfin Tryd.underlying30 rfl (by kernel_rfl)) rfl ?_
      exact HFI.out _ (set2_below HPQ.out.bel _ _)
    · by_cases h1 : fW s.data.toList = [99]
      · have HF : Hid (rowOf s.data.toList = some none) := rowOf_c h1
        rw [h1] at hW
        have hWe := bytes_of hW
        subst hWe
        have HFI : Hid (∀ w', Below w.heap.size w w' → PP (.returned (.tuple #[.agg #[.bool false, .slice none 0 0], .int .i64 1])) w') := HNO.out HF.out
        have c0 : WQ.cell? ⟨w.heap.size, 0, none⟩ = some (.bool false) := blk_cell HPQ.out.r1 0
        have c1 : WQ.cell? ⟨w.heap.size, 1, none⟩ = some (.slice none 0 0) := blk_cell HPQ.out.r1 1
        have f0 : WQ.frozen? ⟨w.heap.size, 0, none⟩ = false := blk_fz HPQ.out.r1 0
        have f1 : WQ.frozen? ⟨w.heap.size, 1, none⟩ = false := blk_fz HPQ.out.r1 1
        clear hW hR HST HCW HLT HJ HNO
        go_wp2
        have hfin : ((WQ.setCell ⟨w.heap.size, 0, none⟩ (.bool false)).setCell ⟨w.heap.size, 1, none⟩ (.slice none 0 0)).heap[w.heap.size]? = some (.cells #[.bool false, .slice none 0 0] 30 (0, 0)) := by
          rw [heap_setCell_same _ w.heap.size 1 _ _ _ (heap_setCell_same _ w.heap.size 0 _ _ _ HPQ.out.r1)]; rfl
        refine bodyPost_ret (v := .tuple #[.agg #[.bool false, .slice none 0 0], .int .i64 1]) (res_ct (p := 2) (u := 3) rfl _ _ w.heap.size 30 _ (0, 0) _ rfl hfin Tryd.underlying30 rfl (by kernel_rfl)) rfl ?_
        exact HFI.out _ (set2_below HPQ.out.bel _ _)
      · have n1 : (Wd.toList == [99]) = false := bytes_is (by rw [hW]; exact h1)
        have n0 : Wd.toList.isEmpty = false := by
          rw [Lib.toList_data, hW]
          cases hh : fW s.data.toList with
          | nil => exact absurd hh h0
          | cons a b => rfl
        have hlen0 : Wd.size + R.size ≤ s.size := by
          have h5 := fWR_len s.data.toList
          rw [Lib.size_eq Wd, Lib.size_eq R, Lib.size_eq s, hW, hR]
          exact h5
        by_cases h2 : fW s.data.toList = [100]
        · have HF : Hid (rowOf s.data.toList = (lineGo (wordsOf (fR s.data.toList))).map (fun c => some (true, c))) := rowOf_d h2
          rw [h2] at hW
          have hWe := bytes_of hW
          have hRs : R.size ≤ 1048576 := by omega
          have HRl : Hid (R.data.toList = fR s.data.toList) := hR
          subst hWe
          have k0 : WQ.cell? ⟨w.heap.size + 1, 0, none⟩ = some (.bool false) := blk_cell HPQ.out.r2 0
          have kf : WQ.frozen? ⟨w.heap.size + 1, 0, none⟩ = false := blk_fz HPQ.out.r2 0
          have HPA : Hid (PLS w (WQ.setCell ⟨w.heap.size + 1, 0, none⟩ (.bool true)) true (.slice none 0 0) []) := HPQ.out.setD
          clear hW h0 h1 hR n1 n0 h2 HNO
          go_wp2_with fail
          generalize WQ.setCell ⟨w.heap.size + 1, 0, none⟩ (.bool true) = WR at *
          refine (HCW.out R _ hRs).mono ?_
          rintro e w2 ⟨W2, R2, rfl, hW2, hR2, m2, rfl⟩
          have HSZ : Hid (W2.size + R2.size ≤ 1048576) := by
            have h5 := fWR_len R.data.toList
            show W2.size + R2.size ≤ 1048576
            rw [Lib.size_eq W2, Lib.size_eq R2, hW2, hR2]
            rw [Lib.size_eq R] at hRs
            omega
          have HRW : Hid (rowOf s.data.toList = (lineGo (cwL W2.data.toList R2.data.toList)).map (fun c => some (true, c))) := by
            show _ = _
            rw [HF.out, ← HRl.out, cwL_step, hW2, hR2]
          clear hW2 hR2 HF HRl
          go_wp2_with fail
          have HP : Hid (PLS w (WR.drewN m2) true (.slice none 0 0) []) := HPA.out.drewN m2
          clear HPA
          go_loopg [5, 6] 1048576 (fun gk v5 v6 wr => ∃ Wd R : ByteArray, v5 = .string Wd ∧ v6 = .string R ∧ Wd.size + R.size ≤ gk ∧ gk ≤ 1048576 ∧ Aside (∃ v acc, acc.length + gk ≤ 1048576 ∧ PLS w wr true v acc ∧ rowOf s.data.toList = (lineGo (cwL Wd.data.toList R.data.toList)).map (fun c => some (true, acc ++ c))))
          case atStart => exact ⟨_, _, rfl, rfl, HSZ.out, Nat.le_refl _, _, [], by simp, HP.out, by simpa using HRW.out⟩
          case round =>
            obtain ⟨Wd, R, rfl, rfl, hsz, hgk, HU⟩ := hrel
            clear HP HRW HSZ
            obtain ⟨v, acc, hal, hP, hrw⟩ := HU.out
            obtain ⟨aV, cV, eV, _⟩ := rowO_form hP.row
            subst eV
            have HRS : R.size ≤ 1048576 := by omega
            have HWS : Wd.size ≤ 1048576 := by omega
            have hz := hP.size
            have HPS : Hid (PLS w wr true (.slice aV acc.length cV) acc) := hP
            have HRO : Hid (rowOf s.data.toList = (lineGo (cwL Wd.data.toList R.data.toList)).map (fun c => some (true, acc ++ c))) := hrw
            clear HU hP hrw
            by_cases h48 : Wd.data.toList = [48]
            · have hWe := bytes_of h48
              have HR2 : Hid (rowOf s.data.toList = (if wordsOf R.data.toList = [] then some [] else none : Option (List Int)).map (fun c => some (true, acc ++ c))) := by
                show _ = _
                rw [HRO.out]
                unfold cwL
                rw [h48, if_neg (by simp), lineGo, if_pos rfl]
              subst hWe
              clear h48 HRO HLT
              go_wp2_with fail
              refine (HCW.out R _ HRS).mono ?_
              rintro e w1 ⟨W2, R2, rfl, hW2, hR2, m2, rfl⟩
              by_cases hn : fW R.data.toList = []
              · have HFI : Hid (∀ v w', Below w.heap.size w w' → w'.ownsRow w.heap.size 3 1 v acc.length (acc.map (Value.int .i64)) → PP (.returned (.tuple #[.agg #[.bool true, v], .int .i64 2])) w') := HST.out true acc (by
                  rw [HR2.out, words_step, if_pos hn, if_pos rfl]
                  simp)
                rw [hn] at hW2
                have hWe := bytes_of hW2
                subst hWe
                have PD := HPS.out.drewN m2
                have g0 : (wr.drewN m2).cell? ⟨w.heap.size + 1, 0, none⟩ = some (.bool true) := blk_cell PD.r2 0
                have g1 : (wr.drewN m2).cell? ⟨w.heap.size + 1, 1, none⟩ = some (.slice aV acc.length cV) := blk_cell PD.r2 1
                have c0 : (wr.drewN m2).cell? ⟨w.heap.size, 0, none⟩ = some (.bool false) := blk_cell PD.r1 0
                have c1 : (wr.drewN m2).cell? ⟨w.heap.size, 1, none⟩ = some (.slice none 0 0) := blk_cell PD.r1 1
                have f0 : (wr.drewN m2).frozen? ⟨w.heap.size, 0, none⟩ = false := blk_fz PD.r1 _
                have f1 : (wr.drewN m2).frozen? ⟨w.heap.size, 1, none⟩ = false := blk_fz PD.r1 _
                have HPD : Hid (PLS w (wr.drewN m2) true (.slice aV acc.length cV) acc) := PD
                clear PD hW2 hR2 HR2 HPS HST HJ HCW
                generalize wr.drewN m2 = WQ at *
                go_wp2
                have hfin : ((WQ.setCell ⟨w.heap.size, 0, none⟩ (.bool true)).setCell ⟨w.heap.size, 1, none⟩ (.slice aV acc.length cV)).heap[w.heap.size]? = some (.cells #[.bool true, .slice aV acc.length cV] 30 (0, 0)) := by
                  rw [heap_setCell_same _ w.heap.size 1 _ _ _ (heap_setCell_same _ w.heap.size 0 _ _ _ HPD.out.r1)]; rfl
                refine bodyPost_ret (v := .tuple #[.agg #[.bool true, .slice aV acc.length cV], .int .i64 2]) (res_ct (p := 2) (u := 3) rfl _ _ w.heap.size 30 _ (0, 0) _ rfl hfin Tryd.underlying30 rfl (by kernel_rfl)) rfl ?_
                have hh : ∀ j, j ≠ w.heap.size → ((WQ.setCell ⟨w.heap.size, 0, none⟩ (.bool true)).setCell ⟨w.heap.size, 1, none⟩ (.slice aV acc.length cV)).heap[j]? = WQ.heap[j]? := fun j hj => (heap_setCell_other _ _ _ _ hj).trans (heap_setCell_other _ _ _ _ hj)
                have hb := HPD.out.bel
                have hbz := hb.size
                exact HFI.out _ _ ⟨hb.os, hb.tape, hb.output, by simp; exact hbz, fun j hj => (hh j (by omega)).trans (hb.block j hj)⟩ (rowO_same HPD.out.row (fun j hj => hh j (fun e => row_ne_blk HPD.out.row HPD.out.r1 (by decide) (by rw [hj, e]))))
              · have HR3 : Hid (rowOf s.data.toList = none) := by
                  show _ = _
                  rw [HR2.out, words_step, if_neg hn, if_neg (by simp)]
                  rfl
                have n0 : W2.toList.isEmpty = false := by
                  rw [Lib.toList_data, hW2]
                  cases hh : fW R.data.toList with
                  | nil => exact absurd hh hn
                  | cons a b => rfl
                have HPD := HPS.out.drewN m2
                have H1 : Hid ((wr.drewN m2).heap[w.heap.size]? = some (.cells #[.bool false, .slice none 0 0] 30 (0, 0)) ∧ Below w.heap.size w (wr.drewN m2)) := ⟨HPD.r1, HPD.bel⟩
                clear HPD hW2 hR2 HR2 HST HCW
                go_wp2
                go_step3
                exact ⟨rfl, HJ.out _ _ _ _ _ _ _ _ _ _ _ _ _ _ _ _ _ _ _ _ _ _ _ _ _ _ _ _ _ _ _ _ _ _ _ _ _ _ _ _ _ _ _ _ _ _ _ _ _ _ _ _ _ H1.out.1 H1.out.2 HR3.out⟩
            · have n48 : (Wd.toList == [48]) = false := bytes_is h48
              have HLI : Hid (Calls Tryd.prog 14 #[.string Wd] wr fun e w' => e = .returned (.int .i64 (litW Wd.data.toList)) ∧ Below wr.heap.size wr w') := HLT.out Wd wr HWS HPS.out.bel
              by_cases hx : litW Wd.data.toList = 0
              · have HR3 : Hid (rowOf s.data.toList = none) := by
                  show _ = _
                  rw [HRO.out]
                  unfold cwL
                  split
                  · rfl
                  · rw [lineGo, if_neg h48, if_pos hx]
                    rfl
                rw [hx] at HLI
                clear HRO HST HCW h48
                go_wp2_with fail
                refine HLI.out.mono ?_
                rintro e w1 ⟨rfl, hb⟩
                have HPD := HPS.out.over hb
                have H1 : Hid (w1.heap[w.heap.size]? = some (.cells #[.bool false, .slice none 0 0] 30 (0, 0)) ∧ Below w.heap.size w w1) := ⟨HPD.r1, HPD.bel⟩
                clear HPD hb
                go_wp2
                go_step3
                exact ⟨rfl, HJ.out _ _ _ _ _ _ _ _ _ _ _ _ _ _ _ _ _ _ _ _ _ _ _ _ _ _ _ _ _ _ _ _ _ _ _ _ _ _ _ _ _ _ _ _ _ _ _ _ _ _ _ _ _ H1.out.1 H1.out.2 HR3.out⟩
              · have hne : Wd.data.toList ≠ [] := fun e => hx (by rw [e]; rfl)
                have hpos : 0 < Wd.size := by
                  rw [Lib.size_eq]
                  exact List.length_pos_iff.2 hne
                have HR4 : Hid (rowOf s.data.toList = (lineGo (cwL (fW R.data.toList) (fR R.data.toList))).map (fun c => some (true, (acc ++ [litW Wd.data.toList]) ++ c))) := by
                  show _ = _
                  rw [HRO.out]
                  unfold cwL
                  rw [if_neg hne, lineGo, if_neg h48, if_neg hx, cwL_step, Option.map_map]
                  congr 1
                  funext c
                  simp
                have hxb : -2147483648 ≤ litW Wd.data.toList ∧ litW Wd.data.toList ≤ 2147483648 := litW_bd _
                have hxq : (litW Wd.data.toList == 0) = false := beq_eq_false_iff_ne.2 hx
                clear HRO HST h48 hx hne
                generalize litW Wd.data.toList = x at *
                go_wp2_with fail
                refine HLI.out.mono ?_
                rintro e w1 ⟨rfl, hb⟩
                have HP1 : Hid (PLS w w1 true (.slice aV acc.length cV) acc) := HPS.out.over hb
                have g1 : w1.cell? ⟨w.heap.size + 1, 1, none⟩ = some (.slice aV acc.length cV) := blk_cell HP1.out.r2 1
                have g1a : ∀ o, (w1.alloc o).cell? ⟨w.heap.size + 1, 1, none⟩ = some (.slice aV acc.length cV) := fun o => (World.cell?_of_block (w' := w1.alloc o) (w := w1) (a := ⟨w.heap.size + 1, 1, none⟩) (Below.heap_alloc _ _ (w.heap.size + 1) (by have := HP1.out.size; omega))).trans g1
                have hsz1 : w.heap.size ≤ w1.heap.size := HP1.out.bel.size
                clear hb HPS HLI
                go_wp2_with (at_builtin; refine wpList_append_lies _ rfl _ _ 28 rfl w.heap.size 3 i0 (.int .i64 0) 1 8 Tryd.underlying28 hi hz0 hz1 hz2 rfl (by decide) _ _ _ rfl (HP1.out.row.alloc _) ⟨w1.heap.size, 0, none⟩ 1 1 [.int .i64 x] rfl rfl (World.news_of_block (cs := #[.int .i64 x]) (t := 3) (fr := (0, 0)) (heap_alloc_new w1 _)) (ints_oneCell .i64 [x]) (by omega) (by unfold maxLen; omega) (by omega) (by simp; omega) (w1.heap.size + 1) (by simp) ?_; intro g4 cap4 w2 hown2 hgrow2 hat4 hlt4; have HA : Hid (w2.heap[w.heap.size + 1]? = some (.cells #[.bool true, .slice aV acc.length cV] 30 (0, 0)) ∧ PLS w (w2.setCell ⟨w.heap.size + 1, 1, none⟩ (.slice (some ⟨g4, 0, none⟩) (acc.length + 1) cap4)) true (.slice (some ⟨g4, 0, none⟩) (acc.length + 1) cap4) (acc ++ [x])) := HP1.out.add hown2 hgrow2; have e3 : w2.cell? ⟨w.heap.size + 1, 1, none⟩ = some (.slice aV acc.length cV) := blk_cell HA.out.1 1; have f3 : w2.frozen? ⟨w.heap.size + 1, 1, none⟩ = false := (by simp [World.frozen?, HA.out.1]); clear hown2 hgrow2 hat4 hlt4; refine Hid.out ?_)
                refine Lib.hid ?_
                have HP2 : Hid (PLS w (w2.setCell ⟨w.heap.size + 1, 1, none⟩ (.slice (some ⟨g4, 0, none⟩) (acc.length + 1) cap4)) true (.slice (some ⟨g4, 0, none⟩) (acc.length + 1) cap4) (acc ++ [x])) := HA.out.2
                clear HA HP1
                go_wp2_with fail
                generalize w2.setCell ⟨w.heap.size + 1, 1, none⟩ (.slice (some ⟨g4, 0, none⟩) (acc.length + 1) cap4) = WS at *
                refine (HCW.out R _ HRS).mono ?_
                rintro e w3 ⟨W2, R2, rfl, hW2, hR2, m2, rfl⟩
                have hlen : W2.size + R2.size ≤ R.size := by
                  have h5 := fWR_len R.data.toList
                  rw [Lib.size_eq W2, Lib.size_eq R2, Lib.size_eq R, hW2, hR2]
                  exact h5
                have HN : Aside (∃ v acc, acc.length + (gk - 1) ≤ 1048576 ∧ PLS w (WS.drewN m2) true v acc ∧ rowOf s.data.toList = (lineGo (cwL W2.data.toList R2.data.toList)).map (fun c => some (true, acc ++ c))) := ⟨_, acc ++ [x], by rw [List.length_append]; simp; omega, HP2.out.drewN m2, by rw [hW2, hR2]; exact HR4.out⟩
                clear hW2 hR2 HR4 HP2
                go_wp2
                go_roundg (gk - 1)
                case measure => omega
                case rel => exact ⟨W2, R2, rfl, rfl, by omega, by omega, HN⟩
        · have n2 : (Wd.toList == [100]) = false := bytes_is (by rw [hW]; exact h2)
          have HSZ : Hid (Wd.size + R.size ≤ 1048576) := by show _ ≤ _; omega
          have HRW : Hid (rowOf s.data.toList = (lineGo (cwL Wd.data.toList R.data.toList)).map (fun c => some (false, c))) := by
            show _ = _
            rw [rowOf_n h0 h1 h2, hW, hR]
          have HP : Hid (PLS w WQ false (.slice none 0 0) []) := HPQ.out
          clear HPQ
          clear hW hR h0 h1 h2 HNO
          go_wp2_with fail
          go_loopg [5, 6] 1048576 (fun gk v5 v6 wr => ∃ Wd R : ByteArray, v5 = .string Wd ∧ v6 = .string R ∧ Wd.size + R.size ≤ gk ∧ gk ≤ 1048576 ∧ Aside (∃ v acc, acc.length + gk ≤ 1048576 ∧ PLS w wr false v acc ∧ rowOf s.data.toList = (lineGo (cwL Wd.data.toList R.data.toList)).map (fun c => some (false, acc ++ c))))
          case atStart => exact ⟨_, _, rfl, rfl, HSZ.out, Nat.le_refl _, _, [], by simp, HP.out, by simpa using HRW.out⟩
          case round =>
            obtain ⟨Wd, R, rfl, rfl, hsz, hgk, HU⟩ := hrel
            clear HP HRW HSZ
            obtain ⟨v, acc, hal, hP, hrw⟩ := HU.out
            obtain ⟨aV, cV, eV, _⟩ := rowO_form hP.row
            subst eV
            have HRS : R.size ≤ 1048576 := by omega
            have HWS : Wd.size ≤ 1048576 := by omega
            have hz := hP.size
            have HPS : Hid (PLS w wr false (.slice aV acc.length cV) acc) := hP
            have HRO : Hid (rowOf s.data.toList = (lineGo (cwL Wd.data.toList R.data.toList)).map (fun c => some (false, acc ++ c))) := hrw
            clear HU hP hrw
            by_cases h48 : Wd.data.toList = [48]
            · have hWe := bytes_of h48
              have HR2 : Hid (rowOf s.data.toList = (if wordsOf R.data.toList = [] then some [] else none : Option (List Int)).map (fun c => some (false, acc ++ c))) := by
                show _ = _
                rw [HRO.out]
                unfold cwL
                rw [h48, if_neg (by simp), lineGo, if_pos rfl]
              subst hWe
              clear h48 HRO HLT
              go_wp2_with fail
              refine (HCW.out R _ HRS).mono ?_
              rintro e w1 ⟨W2, R2, rfl, hW2, hR2, m2, rfl⟩
              by_cases hn : fW R.data.toList = []
              · have HFI : Hid (∀ v w', Below w.heap.size w w' → w'.ownsRow w.heap.size 3 1 v acc.length (acc.map (Value.int .i64)) → PP (.returned (.tuple #[.agg #[.bool false, v], .int .i64 2])) w') := HST.out false acc (by
                  rw [HR2.out, words_step, if_pos hn, if_pos rfl]
                  simp)
                rw [hn] at hW2
                have hWe := bytes_of hW2
                subst hWe
                have PD := HPS.out.drewN m2
                have g0 : (wr.drewN m2).cell? ⟨w.heap.size + 1, 0, none⟩ = some (.bool false) := blk_cell PD.r2 0
                have g1 : (wr.drewN m2).cell? ⟨w.heap.size + 1, 1, none⟩ = some (.slice aV acc.length cV) := blk_cell PD.r2 1
                have c0 : (wr.drewN m2).cell? ⟨w.heap.size, 0, none⟩ = some (.bool false) := blk_cell PD.r1 0
                have c1 : (wr.drewN m2).cell? ⟨w.heap.size, 1, none⟩ = some (.slice none 0 0) := blk_cell PD.r1 1
                have f0 : (wr.drewN m2).frozen? ⟨w.heap.size, 0, none⟩ = false := blk_fz PD.r1 _
                have f1 : (wr.drewN m2).frozen? ⟨w.heap.size, 1, none⟩ = false := blk_fz PD.r1 _
                have HPD : Hid (PLS w (wr.drewN m2) false (.slice aV acc.length cV) acc) := PD
                clear PD hW2 hR2 HR2 HPS HST HJ HCW
                generalize wr.drewN m2 = WQ at *
                go_wp2
                have hfin : ((WQ.setCell ⟨w.heap.size, 0, none⟩ (.bool false)).setCell ⟨w.heap.size, 1, none⟩ (.slice aV acc.length cV)).heap[w.heap.size]? = some (.cells #[.bool false, .slice aV acc.length cV] 30 (0, 0)) := by
                  rw [heap_setCell_same _ w.heap.size 1 _ _ _ (heap_setCell_same _ w.heap.size 0 _ _ _ HPD.out.r1)]; rfl
                refine bodyPost_ret (v := .tuple #[.agg #[.bool false, .slice aV acc.length cV], .int .i64 2]) (res_ct (p := 2) (u := 3) rfl _ _ w.heap.size 30 _ (0, 0) _ rfl hfin Tryd.underlying30 rfl (by kernel_rfl)) rfl ?_
                have hh : ∀ j, j ≠ w.heap.size → ((WQ.setCell ⟨w.heap.size, 0, none⟩ (.bool false)).setCell ⟨w.heap.size, 1, none⟩ (.slice aV acc.length cV)).heap[j]? = WQ.heap[j]? := fun j hj => (heap_setCell_other _ _ _ _ hj).trans (heap_setCell_other _ _ _ _ hj)
                have hb := HPD.out.bel
                have hbz := hb.size
                exact HFI.out _ _ ⟨hb.os, hb.tape, hb.output, by simp; exact hbz, fun j hj => (hh j (by omega)).trans (hb.block j hj)⟩ (rowO_same HPD.out.row (fun j hj => hh j (fun e => row_ne_blk HPD.out.row HPD.out.r1 (by decide) (by rw [hj, e]))))
              · have HR3 : Hid (rowOf s.data.toList = none) := by
                  show _ = _
                  rw [HR2.out, words_step, if_neg hn, if_neg (by simp)]
                  rfl
                have n0 : W2.toList.isEmpty = false := by
                  rw [Lib.toList_data, hW2]
                  cases hh : fW R.data.toList with
                  | nil => exact absurd hh hn
                  | cons a b => rfl
                have HPD := HPS.out.drewN m2
                have H1 : Hid ((wr.drewN m2).heap[w.heap.size]? = some (.cells #[.bool false, .slice none 0 0] 30 (0, 0)) ∧ Below w.heap.size w (wr.drewN m2)) := ⟨HPD.r1, HPD.bel⟩
                clear HPD hW2 hR2 HR2 HST HCW
                go_wp2
                go_step3
                exact ⟨rfl, HJ.out _ _ _ _ _ _ _ _ _ _ _ _ _ _ _ _ _ _ _ _ _ _ _ _ _ _ _ _ _ _ _ _ _ _ _ _ _ _ _ _ _ _ _ _ _ _ _ _ _ _ _ _ _ H1.out.1 H1.out.2 HR3.out⟩
            · have n48 : (Wd.toList == [48]) = false := bytes_is h48
              have HLI : Hid (Calls Tryd.prog 14 #[.string Wd] wr fun e w' => e = .returned (.int .i64 (litW Wd.data.toList)) ∧ Below wr.heap.size wr w') := HLT.out Wd wr HWS HPS.out.bel
              by_cases hx : litW Wd.data.toList = 0
              · have HR3 : Hid (rowOf s.data.toList = none) := by
                  show _ = _
                  rw [HRO.out]
                  unfold cwL
                  split
                  · rfl
                  · rw [lineGo, if_neg h48, if_pos hx]
                    rfl
                rw [hx] at HLI
                clear HRO HST HCW h48
                go_wp2_with fail
                refine HLI.out.mono ?_
                rintro e w1 ⟨rfl, hb⟩
                have HPD := HPS.out.over hb
                have H1 : Hid (w1.heap[w.heap.size]? = some (.cells #[.bool false, .slice none 0 0] 30 (0, 0)) ∧ Below w.heap.size w w1) := ⟨HPD.r1, HPD.bel⟩
                clear HPD hb
                go_wp2
                go_step3
                exact ⟨rfl, HJ.out _ _ _ _ _ _ _ _ _ _ _ _ _ _ _ _ _ _ _ _ _ _ _ _ _ _ _ _ _ _ _ _ _ _ _ _ _ _ _ _ _ _ _ _ _ _ _ _ _ _ _ _ _ H1.out.1 H1.out.2 HR3.out⟩
              · have hne : Wd.data.toList ≠ [] := fun e => hx (by rw [e]; rfl)
                have hpos : 0 < Wd.size := by
                  rw [Lib.size_eq]
                  exact List.length_pos_iff.2 hne
                have HR4 : Hid (rowOf s.data.toList = (lineGo (cwL (fW R.data.toList) (fR R.data.toList))).map (fun c => some (false, (acc ++ [litW Wd.data.toList]) ++ c))) := by
                  show _ = _
                  rw [HRO.out]
                  unfold cwL
                  rw [if_neg hne, lineGo, if_neg h48, if_neg hx, cwL_step, Option.map_map]
                  congr 1
                  funext c
                  simp
                have hxb : -2147483648 ≤ litW Wd.data.toList ∧ litW Wd.data.toList ≤ 2147483648 := litW_bd _
                have hxq : (litW Wd.data.toList == 0) = false := beq_eq_false_iff_ne.2 hx
                clear HRO HST h48 hx hne
                generalize litW Wd.data.toList = x at *
                go_wp2_with fail
                refine HLI.out.mono ?_
                rintro e w1 ⟨rfl, hb⟩
                have HP1 : Hid (PLS w w1 false (.slice aV acc.length cV) acc) := HPS.out.over hb
                have g1 : w1.cell? ⟨w.heap.size + 1, 1, none⟩ = some (.slice aV acc.length cV) := blk_cell HP1.out.r2 1
                have g1a : ∀ o, (w1.alloc o).cell? ⟨w.heap.size + 1, 1, none⟩ = some (.slice aV acc.length cV) := fun o => (World.cell?_of_block (w' := w1.alloc o) (w := w1) (a := ⟨w.heap.size + 1, 1, none⟩) (Below.heap_alloc _ _ (w.heap.size + 1) (by have := HP1.out.size; omega))).trans g1
                have hsz1 : w.heap.size ≤ w1.heap.size := HP1.out.bel.size
                clear hb HPS HLI
                go_wp2_with (at_builtin; refine wpList_append_lies _ rfl _ _ 28 rfl w.heap.size 3 i0 (.int .i64 0) 1 8 Tryd.underlying28 hi hz0 hz1 hz2 rfl (by decide) _ _ _ rfl (HP1.out.row.alloc _) ⟨w1.heap.size, 0, none⟩ 1 1 [.int .i64 x] rfl rfl (World.news_of_block (cs := #[.int .i64 x]) (t := 3) (fr := (0, 0)) (heap_alloc_new w1 _)) (ints_oneCell .i64 [x]) (by omega) (by unfold maxLen; omega) (by omega) (by simp; omega) (w1.heap.size + 1) (by simp) ?_; intro g4 cap4 w2 hown2 hgrow2 hat4 hlt4; have HA : Hid (w2.heap[w.heap.size + 1]? = some (.cells #[.bool false, .slice aV acc.length cV] 30 (0, 0)) ∧ PLS w (w2.setCell ⟨w.heap.size + 1, 1, none⟩ (.slice (some ⟨g4, 0, none⟩) (acc.length + 1) cap4)) false (.slice (some ⟨g4, 0, none⟩) (acc.length + 1) cap4) (acc ++ [x])) := HP1.out.add hown2 hgrow2; have e3 : w2.cell? ⟨w.heap.size + 1, 1, none⟩ = some (.slice aV acc.length cV) := blk_cell HA.out.1 1; have f3 : w2.frozen? ⟨w.heap.size + 1, 1, none⟩ = false := (by simp [World.frozen?, HA.out.1]); clear hown2 hgrow2 hat4 hlt4; refine Hid.out ?_)
                refine Lib.hid ?_
                have HP2 : Hid (PLS w (w2.setCell ⟨w.heap.size + 1, 1, none⟩ (.slice (some ⟨g4, 0, none⟩) (acc.length + 1) cap4)) false (.slice (some ⟨g4, 0, none⟩) (acc.length + 1) cap4) (acc ++ [x])) := HA.out.2
                clear HA HP1
                go_wp2_with fail
                generalize w2.setCell ⟨w.heap.size + 1, 1, none⟩ (.slice (some ⟨g4, 0, none⟩) (acc.length + 1) cap4) = WS at *
                refine (HCW.out R _ HRS).mono ?_
                rintro e w3 ⟨W2, R2, rfl, hW2, hR2, m2, rfl⟩
                have hlen : W2.size + R2.size ≤ R.size := by
                  have h5 := fWR_len R.data.toList
                  rw [Lib.size_eq W2, Lib.size_eq R2, Lib.size_eq R, hW2, hR2]
                  exact h5
                have HN : Aside (∃ v acc, acc.length + (gk - 1) ≤ 1048576 ∧ PLS w (WS.drewN m2) false v acc ∧ rowOf s.data.toList = (lineGo (cwL W2.data.toList R2.data.toList)).map (fun c => some (false, acc ++ c))) := ⟨_, acc ++ [x], by rw [List.length_append]; simp; omega, HP2.out.drewN m2, by rw [hW2, hR2]; exact HR4.out⟩
                clear hW2 hR2 HR4 HP2
                go_wp2
                go_roundg (gk - 1)
                case measure => omega
                case rel => exact ⟨W2, R2, rfl, rfl, by omega, by omega, HN⟩
end Go.Proofs.YtklkeajakmhkgaaDoor
