import Derived.Test.YtbfaoepglifmfaaGreatDoorPsU
import Derived.Test.YtbfaoepglifmfaaGreatDoorPsR
namespace Go.Proofs.YtbfaoepglifmfaaGreatDoor
open Go.ChangeShapes Go.WideShapes Go.ChangeAt Go.RowKit Go.Lib Go.Cn

theorem wgo_bd : ∀ (l cur : List UInt8), (wgo cur l).length ≤ cur.length + l.length ∧ ∀ u ∈ wgo cur l, u.length ≤ cur.length + l.length
  | [], cur => by
    unfold wgo
    split
    · exact ⟨Nat.zero_le _, fun u hu => by cases hu⟩
    · next h =>
      have : 0 < cur.length := List.length_pos_iff.2 h
      refine ⟨by simp; omega, fun u hu => ?_⟩
      simp at hu
      rw [hu]
      simp
  | c :: r, cur => by
    unfold wgo
    split
    · split
      · have h := wgo_bd r []
        refine ⟨by have := h.1; simp at this ⊢; omega, fun u hu => ?_⟩
        have := h.2 u hu
        simp at this ⊢
        omega
      · next h0 =>
        have h := wgo_bd r []
        have hp : 0 < cur.length := List.length_pos_iff.2 h0
        refine ⟨by have := h.1; simp at this ⊢; omega, fun u hu => ?_⟩
        rcases List.mem_cons.1 hu with e | e
        · rw [e]; simp
        · have := h.2 u e
          simp at this ⊢
          omega
    · have h := wgo_bd r (cur ++ [c])
      refine ⟨by have := h.1; simp at this ⊢; omega, fun u hu => ?_⟩
      have := h.2 u hu
      simp at this ⊢
      omega
theorem lgo_bd : ∀ (l cur : List UInt8), (lgo cur l).length ≤ cur.length + l.length ∧ ∀ u ∈ lgo cur l, u.length ≤ cur.length + l.length
  | [], cur => by
    unfold lgo
    split
    · exact ⟨Nat.zero_le _, fun u hu => by cases hu⟩
    · next h =>
      have : 0 < cur.length := List.length_pos_iff.2 h
      refine ⟨by simp; omega, fun u hu => ?_⟩
      simp at hu
      rw [hu]
      simp
  | c :: r, cur => by
    unfold lgo
    split
    · have h := lgo_bd r []
      refine ⟨by have := h.1; simp at this ⊢; omega, fun u hu => ?_⟩
      rcases List.mem_cons.1 hu with e | e
      · rw [e]; simp
      · have := h.2 u e
        simp at this ⊢
        omega
    · have h := lgo_bd r (cur ++ [c])
      refine ⟨by have := h.1; simp at this ⊢; omega, fun u hu => ?_⟩
      have := h.2 u hu
      simp at this ⊢
      omega
theorem rows_cons (r : RS) (i : Nat) (u : List UInt8) (ls : List (List UInt8)) : rows r (i + 1) (u :: ls) = cnt1 i ls (row1 r (wordsOf u)) := by
  rw [rows]
  cases row1 r (wordsOf u) <;> rfl
theorem drop_at {α : Type} (l : List α) (i : Nat) (d : α) (h : i < l.length) : l.drop i = l.getD i d :: l.drop (i + 1) := by
  rw [List.drop_eq_getElem_cons h, List.getD_eq_getElem?_getD, List.getElem?_eq_getElem h]
  rfl
theorem row1_one {r : RS} {w : List UInt8} {ws : List (List UInt8)} (h : w = [99]) : row1 r (w :: ws) = .ok r := by rw [row1, if_pos h]
theorem row1_hd {r : RS} {w : List UInt8} {ws : List (List UInt8)} (h : w ≠ [99]) (hh : r.hd = false) : row1 r (w :: ws) = hd4 r (w :: ws) := by rw [row1, if_neg h, if_pos hh]
theorem row1_tk {r : RS} {w : List UInt8} {ws : List (List UInt8)} (h : w ≠ [99]) (hh : r.hd = true) : row1 r (w :: ws) = tks r (w :: ws) := by rw [row1, if_neg h, if_neg (by rw [hh]; simp)]
theorem Stays.row {W w' : World} (h : Stays W w') {B n : Nat} {v : Value} {M : List Value} (ho : W.ownsRow B 9 1 v n M) : w'.ownsRow B 9 1 v n M := by
  refine ⟨ho.1, ?_⟩
  rcases ho.2 with h0 | ⟨b, cap, cur, e, h1, h2, h3⟩
  · exact Or.inl h0
  · exact Or.inr ⟨b, cap, cur, e, h1, h b cur h2, h3⟩
set_option maxHeartbeats 8000000 in
set_option maxRecDepth 100000 in
theorem rparse_any (s : ByteArray) (w : World) (hs : s.size ≤ 1048576) :
    Calls Tryz.prog 5 #[.string s] w (PPS w (rows RS0 1 (lgo [] s.data.toList))) := by
  generalize hPP : PPS w (rows RS0 1 (lgo [] s.data.toList)) = PP
  have HBA : Hid (∀ (k : Nat) (e : Int) w', rows RS0 1 (lgo [] s.data.toList) = (RS0, k, e) → Below w.heap.size w w' → PP (.returned (.tuple #[.agg #[.int .i64 0, .slice none 0 0], .int .i64 (k : Int), .int .i64 e])) w') := fun k e w' h hb => by rw [← hPP, h]; exact ⟨.slice none 0 0, [], rfl, OwnL.nil _ _, hb⟩
  have HOK : Hid (∀ (r : RS) vc vo L w', rows RS0 1 (lgo [] s.data.toList) = (r, 0, 0) → RC w w' r.cls r.op vc vo L → PP (.returned (.tuple #[.agg #[.int .i64 (r.vars : Int), vc], .int .i64 0, .int .i64 0])) w') := fun r vc vo L w' h hb => by rw [← hPP, h]; exact ⟨vc, L, rfl, ⟨hb.len, hb.row, hb.each⟩, hb.bel⟩
  clear hPP
  have hl : s.data.toList.length = s.size := (Lib.size_eq s).symm
  have hbd := lgo_bd s.data.toList []
  rw [List.length_nil, Nat.zero_add, hl] at hbd
  have HLI : Hid (∀ W, Calls Tryz.prog 13 #[.string s] W fun e w' => ∃ v, e = .returned v ∧ w'.ownsRow W.heap.size 9 1 v (lgo [] s.data.toList).length ((lgo [] s.data.toList).map strV) ∧ Below W.heap.size W w') := fun W => lines_any s W hs
  have HWO : Hid (∀ (u : List UInt8) W, u.length ≤ 1048576 → Calls Tryz.prog 14 #[.string ⟨u.toArray⟩] W fun e w' => ∃ v, e = .returned v ∧ w'.ownsRow W.heap.size 9 1 v (wordsOf u).length ((wordsOf u).map strV) ∧ Below W.heap.size W w') := fun u W hu => words_any ⟨u.toArray⟩ W (by rw [Lib.size_eq]; simp; exact hu)
  generalize hLS : lgo [] s.data.toList = ls at *
  have hn : ls.length ≤ 1048576 := by omega
  have HEL : Hid (∀ i, i < ls.length → (ls.getD i []).length ≤ 1048576) := fun i hi => by
    have h1 : ls.getD i [] ∈ ls := by rw [List.getD_eq_getElem?_getD, List.getElem?_eq_getElem hi]; exact List.getElem_mem _
    have := hbd.2 _ h1
    omega
  clear hbd hl hLS
  have HG0 : Hid (rows RS0 1 ls = rows RS0 (0 + 1) (ls.drop 0)) := rfl
  generalize hGG : rows RS0 1 ls = G at *
  go_enter Tryz.func5, Tryz.ntmps5
  go_wp2_with fail
  refine (HLI.out _).mono ?_
  rintro e w1 ⟨vl, rfl, hol, hb1⟩
  have hzz : ((w.alloc (.cells #[.int .i64 0, .slice none 0 0] 24)).alloc (.cells #[.int .i64 0, .slice none 0 0, .slice none 0 0, .int .i64 0, .int .i64 0, .bool false, .bool false] 45)).heap.size = w.heap.size + 2 := by simp
  have HST : Hid (RG w w1 (w.heap.size + 1) w.heap.size RS0 (.slice none 0 0) (.slice none 0 0) []) := by
    refine RG.over ⟨?_, ?_, RC.nil ?_, by omega, Nat.le_refl _⟩ hb1
    · have h5 := heap_alloc_new (w.alloc (.cells #[.int .i64 0, .slice none 0 0] 24)) (.cells #[.int .i64 0, .slice none 0 0, .slice none 0 0, .int .i64 0, .int .i64 0, .bool false, .bool false] 45)
      rw [show (w.alloc (.cells #[.int .i64 0, .slice none 0 0] 24)).heap.size = w.heap.size + 1 by simp] at h5
      exact h5
    · exact (Below.heap_alloc _ _ _ (by simp)).trans (heap_alloc_new _ _)
    · exact ((Below.refl w.heap.size w).alloc (Nat.le_refl _) _).alloc (by simp) _
  rw [hzz] at hol
  obtain ⟨adl, cpl, rfl, hadl⟩ := ps_form hol
  have HLR : Hid (w1.ownsRow w.heap.size 9 1 (.slice adl ls.length cpl) ls.length (ls.map strV)) := ps_up hol (by omega)
  have HLS : Hid (∀ i, i < ls.length → ls.drop i = ls.getD i [] :: ls.drop (i + 1)) := fun i hi => drop_at ls i [] hi
  have HLE : Hid (ls.drop ls.length = []) := List.drop_length
  clear hol hb1 hzz HLI hadl hGG
  generalize hnn : ls.length = n at *
  clear hnn
  go_wp2_with fail
  go_loopg [7] n (fun gk v7 wr => ∃ i : Nat, v7 = .int .i64 (i : Int) ∧ i + gk = n ∧ Aside (∃ r vc vo L, RG w wr (w.heap.size + 1) w.heap.size r vc vo L ∧ RSI r ∧ RSZ r ∧ wr.ownsRow w.heap.size 9 1 (.slice adl n cpl) n (ls.map strV) ∧ G = rows r (i + 1) (ls.drop i)))
  case atStart => exact ⟨0, rfl, by omega, RS0, _, _, _, HST.out, RSI.zero, fun _ => ⟨rfl, rfl⟩, HLR.out, HG0.out⟩
  case round =>
    obtain ⟨i, rfl, hk, HU⟩ := hrel
    clear HST HG0 HLR
    obtain ⟨g0, hg0⟩ : ∃ g, g = gk := ⟨_, rfl⟩
    obtain ⟨r, vc, vo, L, hRD, hRI, hRZ, hLR, hG⟩ := HU.out
    have HRD : Hid (RG w wr (w.heap.size + 1) w.heap.size r vc vo L) := hRD
    have HRI : Hid (RSI r ∧ RSZ r) := ⟨hRI, hRZ⟩
    clear HU hRD hRI hRZ
    by_cases hlt : i < n
    · obtain ⟨g, cap, e, hcel⟩ := str_cell hLR (by omega)
      cases e
      have ci := hcel i hlt
      have hul := HEL.out i hlt
      rw [HLS.out i hlt, rows_cons] at hG
      have HG : Hid (G = cnt1 i (ls.drop (i + 1)) (row1 r (wordsOf (ls.getD i [])))) := hG
      have HLR : Hid (wr.ownsRow w.heap.size 9 1 (.slice (some ⟨g, 0, none⟩) n cpl) n (ls.map strV)) := hLR
      clear hcel hG hLR HOK
      generalize ls.getD i [] = u at *
      have hbd := wgo_bd u []
      rw [List.length_nil, Nat.zero_add] at hbd
      have HWC : Hid (Calls Tryz.prog 14 #[.string ⟨u.toArray⟩] wr fun e w' => ∃ v, e = .returned v ∧ w'.ownsRow wr.heap.size 9 1 v (wordsOf u).length ((wordsOf u).map strV) ∧ Below wr.heap.size wr w') := HWO.out u wr hul
      have hm : (wordsOf u).length ≤ 1048576 := by have := hbd.1; unfold wordsOf; omega
      have HEW : Hid (∀ x ∈ wordsOf u, x.length ≤ 1048576) := fun x hx => by have := hbd.2 x hx; omega
      have ci2 : wr.cell? ⟨g, i, none⟩ = some (.string ⟨u.toArray⟩) := ci
      clear hbd ci HLE HLS HEL HWO hul
      generalize wordsOf u = ws at *
      generalize (⟨u.toArray⟩ : ByteArray) = U at *
      have q1 : (i : Int) < (n : Int) := by omega
      go_wp2_with fail
      refine HWC.out.mono ?_
      rintro e w2 ⟨vw, rfl, how, hb2⟩
      have HR2 : Hid (RG w w2 (w.heap.size + 1) w.heap.size r vc vo L) := HRD.out.over hb2
      have HL2 : Hid (w2.ownsRow w.heap.size 9 1 (.slice (some ⟨g, 0, none⟩) n cpl) n (ls.map strV)) := ps_same HLR.out (fun j hj => hb2.block j (HLR.out.lt j hj).2)
      clear hb2 HRD HLR HWC ci2
      cases ws with
      | nil =>
        obtain ⟨adw, cpw, rfl, _⟩ := ps_form how
        have HN : Aside (∃ r vc vo L, RG w w2 (w.heap.size + 1) w.heap.size r vc vo L ∧ RSI r ∧ RSZ r ∧ w2.ownsRow w.heap.size 9 1 (.slice (some ⟨g, 0, none⟩) n cpl) n (ls.map strV) ∧ G = rows r (i + 1 + 1) (ls.drop (i + 1))) := ⟨r, vc, vo, L, HR2.out, HRI.out.1, HRI.out.2, HL2.out, HG.out⟩
        clear HR2 HRI HL2 HG how HBA HEW hm
        go_wp2
        go_roundg (g0 - 1)
        case measure => omega
        case rel => exact ⟨i + 1, by simp, by omega, HN.out⟩
      | cons w0 rest =>
        obtain ⟨g2, cap2, rfl, hcw⟩ := str_cell how (by simp)
        have c0 : w2.cell? ⟨g2, 0, none⟩ = some (.string ⟨w0.toArray⟩) := hcw 0 (by simp)
        have hlen : (w0 :: rest).length = rest.length + 1 := rfl
        have hmz : rest.length + 1 ≤ 1048576 := hm
        have qn : (((rest.length + 1 : Nat) : Int) == 0) = false := beq_eq_false_iff_ne.2 (by omega)
        by_cases h99 : w0 = [99]
        · subst h99
          have HN : Aside (∃ r vc vo L, RG w w2 (w.heap.size + 1) w.heap.size r vc vo L ∧ RSI r ∧ RSZ r ∧ w2.ownsRow w.heap.size 9 1 (.slice (some ⟨g, 0, none⟩) n cpl) n (ls.map strV) ∧ G = rows r (i + 1 + 1) (ls.drop (i + 1))) := ⟨r, vc, vo, L, HR2.out, HRI.out.1, HRI.out.2, HL2.out, HG.out⟩
          have c1 : w2.cell? ⟨g2, 0, none⟩ = some (.string ⟨#[99]⟩) := c0
          clear HR2 HRI HL2 HG how HBA HEW hcw c0
          rw [hlen] at *
          go_wp2
          go_roundg (g0 - 1)
          case measure => omega
          case rel => exact ⟨i + 1, by simp, by omega, HN.out⟩
        · have n1 := strV_ne h99
          cases hh : r.hd with
          | false =>
            have HG2 : Hid (G = cnt1 i (ls.drop (i + 1)) (hd4 r (w0 :: rest))) := by show _ = _; rw [HG.out, row1_hd h99 hh]
            have c5 : w2.cell? ⟨w.heap.size + 1, 5, none⟩ = some (.bool false) := by have h5 : w2.cell? ⟨w.heap.size + 1, 5, none⟩ = some (.bool r.hd) := rg_cell HR2.out.blk 5; rw [hh] at h5; exact h5
            have HCH : Hid (Calls Tryz.prog 15 #[.pointer (some ⟨w.heap.size + 1, 0, none⟩), .slice (some ⟨g2, 0, none⟩) (rest.length + 1) cap2] w2 (WKP w w2 (w.heap.size + 1) w.heap.size (hd4 r (w0 :: rest)))) := begin_any w w2 _ _ r vc vo L _ (w0 :: rest) _ HR2.out how (by omega) HEW.out
            have HIV : Hid (∀ r', hd4 r (w0 :: rest) = .ok r' → RSI r' ∧ RSZ r') := fun r' h5 => by
              have h6 := hd4_inv HRI.out.1 (HRI.out.2 hh) h5
              exact ⟨h6.1, fun h7 => by rw [h6.2] at h7; cases h7⟩
            have HER : Hid (∀ x, hd4 r (w0 :: rest) = .error x → (x != 0) = true) := fun x h5 => hd4_err h5
            clear HG HR2 HRI hh how HEW hcw h99
            generalize hd4 r (w0 :: rest) = HX at *
            generalize (⟨w0.toArray⟩ : ByteArray) = W0 at *
            rw [hlen] at *
            cases HX with
            | error er =>
              have HFB : Hid (∀ w', Below w.heap.size w w' → PP (.returned (.tuple #[.agg #[.int .i64 0, .slice none 0 0], .int .i64 ((i : Int) + 1), .int .i64 er])) w') := fun w' hb => HBA.out (i + 1) er w' HG2.out hb
              have qe := HER.out er rfl
              clear HBA HIV HER HG2 HL2
              go_wp2_with fail
              refine HCH.out.mono ?_
              rintro e w3 ⟨rfl, hq3, hb3⟩
              have HQ : Hid (w3.heap[w.heap.size]? = some (.cells #[.int .i64 0, .slice none 0 0] 24 (0, 0)) ∧ Below w.heap.size w w3) := ⟨hq3, hb3⟩
              clear hq3 hb3 HCH
              have g0' : w3.cell? ⟨w.heap.size, 0, none⟩ = some (.int .i64 0) := rg_cell HQ.out.1 0
              have g1 : w3.cell? ⟨w.heap.size, 1, none⟩ = some (.slice none 0 0) := rg_cell HQ.out.1 1
              have f0 : w3.frozen? ⟨w.heap.size, 0, none⟩ = false := rg_fz HQ.out.1 0
              have f1 : w3.frozen? ⟨w.heap.size, 1, none⟩ = false := rg_fz HQ.out.1 1
              go_wp2
              have hfin : ((w3.setCell ⟨w.heap.size, 0, none⟩ (.int .i64 0)).setCell ⟨w.heap.size, 1, none⟩ (.slice none 0 0)).heap[w.heap.size]? = some (.cells #[.int .i64 0, .slice none 0 0] 24 (0, 0)) := by
                rw [heap_setCell_same _ w.heap.size 1 _ _ _ (heap_setCell_same _ w.heap.size 0 _ _ _ HQ.out.1)]; rfl
              refine bodyPost_ret (v := .tuple #[.agg #[.int .i64 0, .slice none 0 0], .int .i64 ((i : Int) + 1), .int .i64 er]) (res_ctt (p := 2) (u := 3) (v := 4) rfl _ _ w.heap.size 24 _ (0, 0) _ rfl hfin Tryz.underlying24 rfl (by kernel_rfl)) rfl ?_
              exact HFB.out _ (set2_below HQ.out.2 _ _)
            | ok r' =>
              have HI2 := HIV.out r' rfl
              have HI3 : Hid (RSI r' ∧ RSZ r') := HI2
              clear HBA HIV HER HI2
              go_wp2_with fail
              refine HCH.out.mono ?_
              rintro e w3 ⟨rfl, hst, vc', vo', L', hR3⟩
              have HN : Aside (∃ r vc vo L, RG w w3 (w.heap.size + 1) w.heap.size r vc vo L ∧ RSI r ∧ RSZ r ∧ w3.ownsRow w.heap.size 9 1 (.slice (some ⟨g, 0, none⟩) n cpl) n (ls.map strV) ∧ G = rows r (i + 1 + 1) (ls.drop (i + 1))) := ⟨r', vc', vo', L', hR3, HI3.out.1, HI3.out.2, hst.row HL2.out, HG2.out⟩
              clear hR3 HCH HI3 HG2 HL2 hst
              go_wp2
              go_roundg (g0 - 1)
              case measure => omega
              case rel => exact ⟨i + 1, by simp, by omega, HN.out⟩
          | true =>
            have HG2 : Hid (G = cnt1 i (ls.drop (i + 1)) (tks r ((w0 :: rest).drop 0))) := by show _ = _; rw [HG.out, row1_tk h99 hh]; rfl
            have c5 : w2.cell? ⟨w.heap.size + 1, 5, none⟩ = some (.bool true) := by have h5 : w2.cell? ⟨w.heap.size + 1, 5, none⟩ = some (.bool r.hd) := rg_cell HR2.out.blk 5; rw [hh] at h5; exact h5
            have HS2 : Hid (∃ r vc vo L, RG w w2 (w.heap.size + 1) w.heap.size r vc vo L ∧ RSI r ∧ r.hd = true ∧ w2.ownsRow w.heap.size 9 1 (.slice (some ⟨g, 0, none⟩) n cpl) n (ls.map strV) ∧ w2.ownsRow wr.heap.size 9 1 (.slice (some ⟨g2, 0, none⟩) (rest.length + 1) cap2) (rest.length + 1) ((w0 :: rest).map strV) ∧ G = cnt1 i (ls.drop (i + 1)) (tks r ((w0 :: rest).drop 0))) := ⟨r, vc, vo, L, HR2.out, HRI.out.1, hh, HL2.out, how, HG2.out⟩
            have HDR : Hid (∀ k, k < rest.length + 1 → (w0 :: rest).drop k = (w0 :: rest).getD k [] :: (w0 :: rest).drop (k + 1)) := fun k hk => drop_at (w0 :: rest) k [] (by rw [hlen]; exact hk)
            have HDE : Hid ((w0 :: rest).drop (rest.length + 1) = []) := List.drop_eq_nil_of_le (Nat.le_refl _)
            have HEK : Hid (∀ k, k < rest.length + 1 → ((w0 :: rest).getD k []).length ≤ 1048576) := fun k hk => HEW.out _ (by rw [List.getD_eq_getElem?_getD, List.getElem?_eq_getElem (by rw [hlen]; exact hk)]; exact List.getElem_mem _)
            clear HG HG2 HR2 HRI hh how HEW hcw h99 HL2
            generalize (⟨w0.toArray⟩ : ByteArray) = W0 at *
            rw [hlen] at *
            clear hlen
            generalize w0 :: rest = ws at *
            have hm0 : 0 < rest.length + 1 := by omega
            have hmm : rest.length + 1 ≤ 1048576 := hmz
            generalize rest.length + 1 = m at *
            generalize wr.heap.size = B2 at *
            go_wp2_with fail
            go_loopg [10] m (fun gk v10 wr => ∃ k : Nat, v10 = .int .i64 (k : Int) ∧ k + gk = m ∧ Aside (∃ r vc vo L, RG w wr (w.heap.size + 1) w.heap.size r vc vo L ∧ RSI r ∧ r.hd = true ∧ wr.ownsRow w.heap.size 9 1 (.slice (some ⟨g, 0, none⟩) n cpl) n (ls.map strV) ∧ wr.ownsRow B2 9 1 (.slice (some ⟨g2, 0, none⟩) m cap2) m (ws.map strV) ∧ G = cnt1 i (ls.drop (i + 1)) (tks r (ws.drop k))))
            case atStart => exact ⟨0, rfl, by omega, HS2.out⟩
            case round =>
              clear HS2 c0 c5 n1
              obtain ⟨k, rfl, hkg, HU⟩ := hrel
              obtain ⟨r, vc, vo, L, hRD, hRI, hh, hLR, hWR, hG⟩ := HU.out
              have HRD : Hid (RG w wr (w.heap.size + 1) w.heap.size r vc vo L) := hRD
              have HRI : Hid (RSI r ∧ r.hd = true) := ⟨hRI, hh⟩
              have HLR : Hid (wr.ownsRow w.heap.size 9 1 (.slice (some ⟨g, 0, none⟩) n cpl) n (ls.map strV)) := hLR
              have HWR : Hid (wr.ownsRow B2 9 1 (.slice (some ⟨g2, 0, none⟩) m cap2) m (ws.map strV)) := hWR
              clear HU hRD hRI hLR hh
              by_cases hkm : k < m
              · obtain ⟨g3, cap3, e3, hcel⟩ := str_cell hWR (by omega)
                cases e3
                have ck : wr.cell? ⟨g2, k, none⟩ = some (.string ⟨(ws.getD k []).toArray⟩) := hcel k hkm
                rw [HDR.out k hkm, tks_cons] at hG
                have HG2 : Hid (G = cnt1 i (ls.drop (i + 1)) (tksN (tk r (ws.getD k [])) (ws.drop (k + 1)))) := hG
                have HCH : Hid (Calls Tryz.prog 16 #[.pointer (some ⟨w.heap.size + 1, 0, none⟩), .string ⟨(ws.getD k []).toArray⟩] wr (WKP w wr (w.heap.size + 1) w.heap.size (tk r (ws.getD k [])))) := word_any w wr _ _ r vc vo L ⟨(ws.getD k []).toArray⟩ (by rw [Lib.size_eq]; simpa using HEK.out k hkm) HRD.out HRI.out.1
                have HIV : Hid (∀ r', tk r (ws.getD k []) = .ok r' → RSI r' ∧ r'.hd = true) := fun r' h5 => by
                  have h6 := tkN_inv HRI.out.1 h5
                  exact ⟨h6.1, h6.2.trans HRI.out.2⟩
                have HER : Hid (∀ x, tk r (ws.getD k []) = .error x → (x != 0) = true) := fun x h5 => tk_err h5
                clear hG hcel hWR HRD HRI HDR HDE HEK
                generalize tk r (ws.getD k []) = HX at *
                generalize (⟨(ws.getD k []).toArray⟩ : ByteArray) = WK at *
                have qk : (k : Int) < (m : Int) := by omega
                cases HX with
                | error er =>
                  have HFB : Hid (∀ w', Below w.heap.size w w' → PP (.returned (.tuple #[.agg #[.int .i64 0, .slice none 0 0], .int .i64 ((i : Int) + 1), .int .i64 er])) w') := fun w' hb => HBA.out (i + 1) er w' HG2.out hb
                  have qe := HER.out er rfl
                  clear HBA HIV HER HG2 HLR HWR
                  go_wp2_with fail
                  refine HCH.out.mono ?_
                  rintro e w3 ⟨rfl, hq3, hb3⟩
                  have HQ : Hid (w3.heap[w.heap.size]? = some (.cells #[.int .i64 0, .slice none 0 0] 24 (0, 0)) ∧ Below w.heap.size w w3) := ⟨hq3, hb3⟩
                  clear hq3 hb3 HCH ck
                  have g0' : w3.cell? ⟨w.heap.size, 0, none⟩ = some (.int .i64 0) := rg_cell HQ.out.1 0
                  have g1 : w3.cell? ⟨w.heap.size, 1, none⟩ = some (.slice none 0 0) := rg_cell HQ.out.1 1
                  have f0 : w3.frozen? ⟨w.heap.size, 0, none⟩ = false := rg_fz HQ.out.1 0
                  have f1 : w3.frozen? ⟨w.heap.size, 1, none⟩ = false := rg_fz HQ.out.1 1
                  go_wp2
                  have hfin : ((w3.setCell ⟨w.heap.size, 0, none⟩ (.int .i64 0)).setCell ⟨w.heap.size, 1, none⟩ (.slice none 0 0)).heap[w.heap.size]? = some (.cells #[.int .i64 0, .slice none 0 0] 24 (0, 0)) := by
                    rw [heap_setCell_same _ w.heap.size 1 _ _ _ (heap_setCell_same _ w.heap.size 0 _ _ _ HQ.out.1)]; rfl
                  refine bodyPost_ret (v := .tuple #[.agg #[.int .i64 0, .slice none 0 0], .int .i64 ((i : Int) + 1), .int .i64 er]) (res_ctt (p := 2) (u := 3) (v := 4) rfl _ _ w.heap.size 24 _ (0, 0) _ rfl hfin Tryz.underlying24 rfl (by kernel_rfl)) rfl ?_
                  exact HFB.out _ (set2_below HQ.out.2 _ _)
                | ok r' =>
                  have HI2 := HIV.out r' rfl
                  have HI3 : Hid (RSI r' ∧ r'.hd = true) := HI2
                  clear HBA HIV HER HI2
                  go_wp2_with fail
                  refine HCH.out.mono ?_
                  rintro e w3 ⟨rfl, hst, vc', vo', L', hR3⟩
                  have HN : Aside (∃ r vc vo L, RG w w3 (w.heap.size + 1) w.heap.size r vc vo L ∧ RSI r ∧ r.hd = true ∧ w3.ownsRow w.heap.size 9 1 (.slice (some ⟨g, 0, none⟩) n cpl) n (ls.map strV) ∧ w3.ownsRow B2 9 1 (.slice (some ⟨g2, 0, none⟩) m cap2) m (ws.map strV) ∧ G = cnt1 i (ls.drop (i + 1)) (tks r (ws.drop (k + 1)))) := ⟨r', vc', vo', L', hR3, HI3.out.1, HI3.out.2, hst.row HLR.out, hst.row HWR.out, HG2.out⟩
                  clear hR3 HCH HI3 HG2 HLR HWR hst ck
                  go_wp2
                  go_roundg (gk - 1)
                  case measure => omega
                  case rel => exact ⟨k + 1, by simp, by omega, HN⟩
              · obtain rfl : k = m := by omega
                have HN : Aside (∃ r vc vo L, RG w wr (w.heap.size + 1) w.heap.size r vc vo L ∧ RSI r ∧ RSZ r ∧ wr.ownsRow w.heap.size 9 1 (.slice (some ⟨g, 0, none⟩) n cpl) n (ls.map strV) ∧ G = rows r (i + 1 + 1) (ls.drop (i + 1))) := ⟨r, vc, vo, L, HRD.out, HRI.out.1, (fun h5 => by rw [HRI.out.2] at h5; cases h5), HLR.out, by rw [hG, HDE.out]; rfl⟩
                clear HRD HRI HLR HWR hWR hG HDR HDE HEK HBA
                go_wp2
                go_roundg (g0 - 1)
                case measure => omega
                case rel => exact ⟨i + 1, by simp, by omega, HN.out⟩
    · obtain rfl : i = n := by omega
      rw [HLE.out] at hG
      obtain ⟨adc, cc, rfl, hadc⟩ := ps_form HRD.out.rc.row
      have hC := HRI.out.1.cnt
      have hCl := HRI.out.1.cls
      have hMd := HRI.out.1.mid
      have HR9 : Hid (RG w wr.drew (w.heap.size + 1) w.heap.size r (.slice adc r.cls.length cc) vo L) := HRD.out.over ⟨rfl, rfl, rfl, Nat.le_refl _, fun _ _ => rfl⟩
      have HQ : Hid (wr.drew.heap[w.heap.size]? = some (.cells #[.int .i64 0, .slice none 0 0] 24 (0, 0)) ∧ Below w.heap.size w wr.drew) := ⟨HR9.out.res, HR9.out.rc.bel⟩
      have c0 : wr.cell? ⟨w.heap.size + 1, 0, none⟩ = some (.int .i64 (r.vars : Int)) := rg_cell HRD.out.blk 0
      have c1 : wr.cell? ⟨w.heap.size + 1, 1, none⟩ = some (.slice adc r.cls.length cc) := rg_cell HRD.out.blk 1
      have c3 : wr.cell? ⟨w.heap.size + 1, 3, none⟩ = some (.int .i64 (r.cnt : Int)) := rg_cell HRD.out.blk 3
      have c5 : wr.cell? ⟨w.heap.size + 1, 5, none⟩ = some (.bool r.hd) := rg_cell HRD.out.blk 5
      have c6 : wr.cell? ⟨w.heap.size + 1, 6, none⟩ = some (.bool (!r.op.isEmpty)) := rg_cell HRD.out.blk 6
      cases hh : r.hd with
      | false =>
        have hG2 : G = (RS0, i + 1, 3) := by rw [hG, rows, if_pos (Or.inl hh)]
        have HFB : Hid (∀ w', Below w.heap.size w w' → PP (.returned (.tuple #[.agg #[.int .i64 0, .slice none 0 0], .int .i64 ((i : Int) + 1), .int .i64 3])) w') := fun w' hb => HBA.out (i + 1) 3 w' hG2 hb
        rw [hh] at c5
        clear hG2 hG HBA HOK HRD HRI hh HWO HLS HLE HEL hLR hMd
        go_wp2_with fail
        go_region
        clear c0 c1 c3 HR9
        generalize wr.drew = w9 at *
        have g0' : w9.cell? ⟨w.heap.size, 0, none⟩ = some (.int .i64 0) := rg_cell HQ.out.1 0
        have g1 : w9.cell? ⟨w.heap.size, 1, none⟩ = some (.slice none 0 0) := rg_cell HQ.out.1 1
        have f0 : w9.frozen? ⟨w.heap.size, 0, none⟩ = false := rg_fz HQ.out.1 0
        have f1 : w9.frozen? ⟨w.heap.size, 1, none⟩ = false := rg_fz HQ.out.1 1
        go_wp2
        have hfin : ((w9.setCell ⟨w.heap.size, 0, none⟩ (.int .i64 0)).setCell ⟨w.heap.size, 1, none⟩ (.slice none 0 0)).heap[w.heap.size]? = some (.cells #[.int .i64 0, .slice none 0 0] 24 (0, 0)) := by
          rw [heap_setCell_same _ w.heap.size 1 _ _ _ (heap_setCell_same _ w.heap.size 0 _ _ _ HQ.out.1)]; rfl
        refine bodyPost_ret (v := .tuple #[.agg #[.int .i64 0, .slice none 0 0], .int .i64 ((i : Int) + 1), .int .i64 3]) (res_ctt (p := 2) (u := 3) (v := 4) rfl _ _ w.heap.size 24 _ (0, 0) _ rfl hfin Tryz.underlying24 rfl (by kernel_rfl)) rfl ?_
        exact HFB.out _ (set2_below HQ.out.2 _ _)
      | true =>
        rw [hh] at c5
        cases hop : r.op.isEmpty with
        | false =>
          have hlt2 : r.cls.length < r.cnt := hMd (fun e => by rw [e] at hop; cases hop)
          have hG2 : G = (RS0, i + 1, 3) := by rw [hG, rows, if_pos (Or.inr hlt2)]
          have HFB : Hid (∀ w', Below w.heap.size w w' → PP (.returned (.tuple #[.agg #[.int .i64 0, .slice none 0 0], .int .i64 ((i : Int) + 1), .int .i64 3])) w') := fun w' hb => HBA.out (i + 1) 3 w' hG2 hb
          rw [hop] at c6
          have c7 : wr.cell? ⟨w.heap.size + 1, 6, none⟩ = some (.bool true) := c6
          clear hG2 hG HBA HOK HRD HRI hh HWO HLS HLE HEL hLR hMd c6 hop
          go_wp2_with fail
          go_region
          clear c0 c1 c3 HR9
          generalize wr.drew = w9 at *
          have g0' : w9.cell? ⟨w.heap.size, 0, none⟩ = some (.int .i64 0) := rg_cell HQ.out.1 0
          have g1 : w9.cell? ⟨w.heap.size, 1, none⟩ = some (.slice none 0 0) := rg_cell HQ.out.1 1
          have f0 : w9.frozen? ⟨w.heap.size, 0, none⟩ = false := rg_fz HQ.out.1 0
          have f1 : w9.frozen? ⟨w.heap.size, 1, none⟩ = false := rg_fz HQ.out.1 1
          go_wp2
          have hfin : ((w9.setCell ⟨w.heap.size, 0, none⟩ (.int .i64 0)).setCell ⟨w.heap.size, 1, none⟩ (.slice none 0 0)).heap[w.heap.size]? = some (.cells #[.int .i64 0, .slice none 0 0] 24 (0, 0)) := by
            rw [heap_setCell_same _ w.heap.size 1 _ _ _ (heap_setCell_same _ w.heap.size 0 _ _ _ HQ.out.1)]; rfl
          refine bodyPost_ret (v := .tuple #[.agg #[.int .i64 0, .slice none 0 0], .int .i64 ((i : Int) + 1), .int .i64 3]) (res_ctt (p := 2) (u := 3) (v := 4) rfl _ _ w.heap.size 24 _ (0, 0) _ rfl hfin Tryz.underlying24 rfl (by kernel_rfl)) rfl ?_
          exact HFB.out _ (set2_below HQ.out.2 _ _)
        | true =>
          rw [hop] at c6
          have c7 : wr.cell? ⟨w.heap.size + 1, 6, none⟩ = some (.bool false) := c6
          clear c6
          by_cases hlt2 : r.cls.length < r.cnt
          · have hG2 : G = (RS0, i + 1, 3) := by rw [hG, rows, if_pos (Or.inr hlt2)]
            have HFB : Hid (∀ w', Below w.heap.size w w' → PP (.returned (.tuple #[.agg #[.int .i64 0, .slice none 0 0], .int .i64 ((i : Int) + 1), .int .i64 3])) w') := fun w' hb => HBA.out (i + 1) 3 w' hG2 hb
            have q1 : (r.cls.length : Int) < (r.cnt : Int) := by omega
            clear hG2 hG HBA HOK HRD HRI hh HWO HLS HLE HEL hLR hMd hop
            go_wp2_with fail
            go_region
            clear c0 c1 c3 HR9
            generalize wr.drew = w9 at *
            have g0' : w9.cell? ⟨w.heap.size, 0, none⟩ = some (.int .i64 0) := rg_cell HQ.out.1 0
            have g1 : w9.cell? ⟨w.heap.size, 1, none⟩ = some (.slice none 0 0) := rg_cell HQ.out.1 1
            have f0 : w9.frozen? ⟨w.heap.size, 0, none⟩ = false := rg_fz HQ.out.1 0
            have f1 : w9.frozen? ⟨w.heap.size, 1, none⟩ = false := rg_fz HQ.out.1 1
            go_wp2
            have hfin : ((w9.setCell ⟨w.heap.size, 0, none⟩ (.int .i64 0)).setCell ⟨w.heap.size, 1, none⟩ (.slice none 0 0)).heap[w.heap.size]? = some (.cells #[.int .i64 0, .slice none 0 0] 24 (0, 0)) := by
              rw [heap_setCell_same _ w.heap.size 1 _ _ _ (heap_setCell_same _ w.heap.size 0 _ _ _ HQ.out.1)]; rfl
            refine bodyPost_ret (v := .tuple #[.agg #[.int .i64 0, .slice none 0 0], .int .i64 ((i : Int) + 1), .int .i64 3]) (res_ctt (p := 2) (u := 3) (v := 4) rfl _ _ w.heap.size 24 _ (0, 0) _ rfl hfin Tryz.underlying24 rfl (by kernel_rfl)) rfl ?_
            exact HFB.out _ (set2_below HQ.out.2 _ _)
          · have hG2 : G = (r, 0, 0) := by rw [hG, rows, if_neg (by rw [hh]; simp; omega)]
            have HFG : Hid (∀ w', RC w w' r.cls r.op (.slice adc r.cls.length cc) vo L → PP (.returned (.tuple #[.agg #[.int .i64 (r.vars : Int), .slice adc r.cls.length cc], .int .i64 0, .int .i64 0])) w') := fun w' hb => HOK.out r _ vo L w' hG2 hb
            have q1 : ¬ (r.cls.length : Int) < (r.cnt : Int) := by omega
            have HF2 : Hid (RC w ((wr.drew.setCell ⟨w.heap.size, 0, none⟩ (.int .i64 (r.vars : Int))).setCell ⟨w.heap.size, 1, none⟩ (.slice adc r.cls.length cc)) r.cls r.op (.slice adc r.cls.length cc) vo L) := (HR9.out.rc.set 0 _ HQ.out.1 (by decide) (by decide) (Nat.le_refl _)).set 1 _ (heap_setCell_same _ w.heap.size 0 _ _ _ HQ.out.1) (by decide) (by decide) (Nat.le_refl _)
            have HFI := HFG.out _ HF2.out
            have HFJ : Hid (PP (.returned (.tuple #[.agg #[.int .i64 (r.vars : Int), .slice adc r.cls.length cc], .int .i64 0, .int .i64 0])) ((wr.drew.setCell ⟨w.heap.size, 0, none⟩ (.int .i64 (r.vars : Int))).setCell ⟨w.heap.size, 1, none⟩ (.slice adc r.cls.length cc))) := HFI
            have HBK : Hid (wr.drew.heap[w.heap.size + 1]? = some (.cells (rgC r (.slice adc r.cls.length cc) vo) 45 (0, 0))) := HR9.out.blk
            clear HFI HFG HF2 hG2 hG HBA HOK HRD HRI hh HWO HLS HLE HEL hLR hMd hop HR9
            generalize r.cls.length = cl at *
            go_wp2_with fail
            go_region
            clear c0 c1 c3 c5 c7
            generalize wr.drew = w9 at *
            have d0 : w9.cell? ⟨w.heap.size + 1, 0, none⟩ = some (.int .i64 (r.vars : Int)) := rg_cell HBK.out 0
            have d1 : w9.cell? ⟨w.heap.size + 1, 1, none⟩ = some (.slice adc cl cc) := rg_cell HBK.out 1
            have g0' : w9.cell? ⟨w.heap.size, 0, none⟩ = some (.int .i64 0) := rg_cell HQ.out.1 0
            have g1 : w9.cell? ⟨w.heap.size, 1, none⟩ = some (.slice none 0 0) := rg_cell HQ.out.1 1
            have f0 : w9.frozen? ⟨w.heap.size, 0, none⟩ = false := rg_fz HQ.out.1 0
            have f1 : w9.frozen? ⟨w.heap.size, 1, none⟩ = false := rg_fz HQ.out.1 1
            go_wp2
            have hfin : ((w9.setCell ⟨w.heap.size, 0, none⟩ (.int .i64 (r.vars : Int))).setCell ⟨w.heap.size, 1, none⟩ (.slice adc cl cc)).heap[w.heap.size]? = some (.cells #[.int .i64 (r.vars : Int), .slice adc cl cc] 24 (0, 0)) := by
              rw [heap_setCell_same _ w.heap.size 1 _ _ _ (heap_setCell_same _ w.heap.size 0 _ _ _ HQ.out.1)]; rfl
            refine bodyPost_ret (v := .tuple #[.agg #[.int .i64 (r.vars : Int), .slice adc cl cc], .int .i64 0, .int .i64 0]) (res_ctt (p := 2) (u := 3) (v := 4) rfl _ _ w.heap.size 24 _ (0, 0) _ rfl hfin Tryz.underlying24 rfl (by kernel_rfl)) rfl ?_
            exact HFJ.out
end Go.Proofs.YtbfaoepglifmfaaGreatDoor
