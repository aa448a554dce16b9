import Derived.Test.YtklkeajakmhkgaaDoorXP
import Derived.Test.YtklkeajakmhkgaaDoorXN
namespace Go.Proofs.YtklkeajakmhkgaaDoor
open Go.ChangeShapes Go.WideShapes Go.ChangeAt Go.RowKit Go.Lib

theorem read_zero (w : World) : Calls Tryd.prog 15 #[.string ⟨#[48]⟩] w fun e w' => e = .returned (.tuple #[.int .i64 0, .bool true]) ∧ w' = w := by
  go_enter Tryd.func15, Tryd.ntmps15
  go_wp2
  go_ret2
  exact ⟨rfl, rfl⟩
/-- words in memory -/
def Strs (w : World) (ad : Option Addr) (ws : List (List UInt8)) : Prop :=
  0 < ws.length → ∃ b off, ad = some ⟨b, off, none⟩ ∧ b < w.heap.size ∧ ∀ j, j < ws.length → w.cell? ⟨b, off + j, none⟩ = some (strV (ws.getD j []))
theorem Strs.below {w w' : World} {ad : Option Addr} {ws : List (List UInt8)} (h : Strs w ad ws) (hb : Below w.heap.size w w') : Strs w' ad ws := by
  intro h0
  obtain ⟨b, off, e, hlt, hc⟩ := h h0
  exact ⟨b, off, e, Nat.lt_of_lt_of_le hlt hb.size, fun j hj => (hb.cell (p := ⟨b, off + j, none⟩) hlt).trans (hc j hj)⟩
theorem lineGo_last {ws : List (List UInt8)} {i : Nat} (h : i < ws.length) : lineGo (ws.drop i) = if ws.getD i [] = [48] then (if i + 1 = ws.length then some [] else none) else if litW (ws.getD i []) = 0 then none else (lineGo (ws.drop (i + 1))).map (litW (ws.getD i []) :: ·) := by
  rw [List.drop_eq_getElem_cons h, lineGo, getD_of _ _ _ h]
  split
  · by_cases e : i + 1 = ws.length
    · rw [if_pos e, if_pos (List.drop_eq_nil_of_le (by omega))]
    · rw [if_neg e, if_neg (fun e2 => by have := congrArg List.length e2; rw [List.length_drop] at this; simp at this; omega)]
  · rfl
theorem lineGo_nil : lineGo [] = none := rfl
/-- what is known of a line on its way -/
def LRel (FL : Option (List Int)) (ws : List (List UInt8)) (i : Nat) (acc : List Int) : Prop := (i < ws.length → FL = (lineGo (ws.drop i)).map (acc ++ ·)) ∧ (i = ws.length → 0 < ws.length → FL = some acc)
/-- what line answers of words, d told already -/
def LNP (w : World) (d : Bool) (FL : Option (List Int)) (e : Ending) (w' : World) : Prop := Below w.heap.size w w' ∧ match FL with
  | none => ∃ d a n c, e = .returned (.tuple #[.agg #[.bool d, .slice a n c], .bool false])
  | some c => ∃ v, e = .returned (.tuple #[.agg #[.bool d, v], .bool true]) ∧ w'.ownsRow w.heap.size 3 1 v c.length (c.map (Value.int .i64))
def lnD (ws : List (List UInt8)) : Bool := decide (ws.headD [] = [100])
def lnW (ws : List (List UInt8)) : List (List UInt8) := if ws.headD [] = [100] then ws.drop 1 else ws
set_option maxHeartbeats 8000000 in
set_option maxRecDepth 100000 in
theorem line_any (ad : Option Addr) (ws : List (List UInt8)) (c : Nat) (w : World) (h : Strs w ad ws) (hp : 0 < ws.length) (hc : ws.length ≤ c) (hl : ws.length ≤ 1048576) (hel : ∀ u ∈ ws, u.length ≤ 1048576) :
    Calls Tryd.prog 10 #[.slice ad ws.length c] w (LNP w (lnD ws) (lineGo (lnW ws))) := by
  generalize hPP : LNP w (lnD ws) (lineGo (lnW ws)) = PP
  have HNO : Hid (lineGo (lnW ws) = none → ∀ d a n c w', Below w.heap.size w w' → PP (.returned (.tuple #[.agg #[.bool d, .slice a n c], .bool false])) w') := fun h d a n c w' hb => by rw [← hPP]; unfold LNP; rw [h]; exact ⟨hb, d, a, n, c, rfl⟩
  have HYE : Hid (∀ c, lineGo (lnW ws) = some c → ∀ v w', Below w.heap.size w w' → w'.ownsRow w.heap.size 3 1 v c.length (c.map (Value.int .i64)) → PP (.returned (.tuple #[.agg #[.bool (lnD ws), v], .bool true])) w') := fun c h v w' hb ho => by rw [← hPP]; unfold LNP; rw [h]; exact ⟨hb, v, rfl, ho⟩
  clear hPP
  obtain ⟨i0, hi, hz0, hz1, hz2⟩ := info_parts (P := Tryd.prog) (e := 3) (z := .int .i64 0) (size := 1) (bytes := 8) (by kernel_rfl)
  obtain ⟨b, off, rfl, hb, hcel⟩ := h hp
  have HCE : Hid (∀ (W : World) j, Below w.heap.size w W → j < ws.length → W.cell? ⟨b, off + j, none⟩ = some (strV (ws.getD j []))) := fun W j hB hj => (hB.cell (p := ⟨b, off + j, none⟩) hb).trans (hcel j hj)
  have HEL : Hid (∀ u ∈ ws, u.length ≤ 1048576) := hel
  have HB0 : Hid (∀ o o2, Below w.heap.size w ((w.alloc o).alloc o2)) := fun o o2 => ((Below.refl w.heap.size w).alloc (Nat.le_refl _) o).alloc (by simp) o2
  have HP0 : Hid (PLS w ((w.alloc (.cells #[.bool false, .slice none 0 0] 30)).alloc (.cells #[.bool false, .slice none 0 0] 30)) false (.slice none 0 0) []) := ⟨(Below.heap_alloc _ _ _ (by simp)).trans (heap_alloc_new _ _), by
      have h5 := heap_alloc_new (w.alloc (.cells #[.bool false, .slice none 0 0] 30)) (.cells #[.bool false, .slice none 0 0] 30)
      rw [show (w.alloc (.cells #[.bool false, .slice none 0 0] 30)).heap.size = w.heap.size + 1 by simp] at h5
      exact h5, World.ownsRow_nil _ _ _ _, HB0.out _ _⟩
  have HP1 : Hid (PLS w ((w.alloc (.cells #[.bool false, .slice none 0 0] 30)).alloc (.cells #[.bool true, .slice none 0 0] 30)) true (.slice none 0 0) []) := ⟨(Below.heap_alloc _ _ _ (by simp)).trans (heap_alloc_new _ _), by
      have h5 := heap_alloc_new (w.alloc (.cells #[.bool false, .slice none 0 0] 30)) (.cells #[.bool true, .slice none 0 0] 30)
      rw [show (w.alloc (.cells #[.bool false, .slice none 0 0] 30)).heap.size = w.heap.size + 1 by simp] at h5
      exact h5, World.ownsRow_nil _ _ _ _, HB0.out _ _⟩
  have z0 : ∀ o o2, ((w.alloc o).alloc o2).cell? ⟨b, off, none⟩ = some (strV (ws.getD 0 [])) := fun o o2 => HCE.out _ 0 (HB0.out o o2) hp
  have hw0 : ws.headD [] = ws.getD 0 [] := by cases ws <;> rfl
  clear h hel hcel
  by_cases hd : ws.getD 0 [] = [100]
  · have HD : Hid (lnD ws = true ∧ lnW ws = ws.drop 1) := by
      show _ ∧ _
      unfold lnD lnW
      rw [hw0, hd]
      exact ⟨rfl, rfl⟩
    rw [HD.out.2] at HNO HYE
    rw [HD.out.1] at HYE
    have z0' : ∀ o o2, ((w.alloc o).alloc o2).cell? ⟨b, off, none⟩ = some (.string ⟨#[100]⟩) := fun o o2 => by rw [z0, hd]; rfl
    have HCE2 : Hid (∀ (W : World) j, Below w.heap.size w W → j < (ws.drop 1).length → W.cell? ⟨b, off + 1 + j, none⟩ = some (strV ((ws.drop 1).getD j []))) := fun W j hB hj => by
      rw [List.length_drop] at hj
      have h5 := HCE.out W (1 + j) hB (by omega)
      rw [show off + (1 + j) = off + 1 + j by omega] at h5
      rw [h5, List.getD_eq_getElem?_getD, List.getD_eq_getElem?_getD, List.getElem?_drop]
    have HEL2 : Hid (∀ u ∈ ws.drop 1, u.length ≤ 1048576) := fun u hu => HEL.out u (List.mem_of_mem_drop hu)
    have hl2 : (ws.drop 1).length = ws.length - 1 := by rw [List.length_drop]
    have hc1 : (1 : Int) ≤ (ws.length : Int) := by omega
    have hc2 : (1 : Int) ≤ (c : Int) := by omega
    clear z0 hd hw0 HD HCE HEL HP0
    obtain ⟨us, hus⟩ : ∃ us, ws.drop 1 = us := ⟨_, rfl⟩
    rw [hus] at HNO HYE HCE2 HEL2 hl2
    have hun : us.length ≤ 1048576 := by omega
    obtain ⟨n, hn⟩ : ∃ n, ws.length - 1 = n := ⟨_, rfl⟩
    have hwn : ws.length = n + 1 := by omega
    rw [hn] at hl2
    rw [hwn] at hc hl hc1 ⊢
    have HUN : Hid (us.length = n) := hl2
    clear hus hn hwn hp hl2
    by_cases hce : c = 1
    · have hn0 : n = 0 := by omega
      subst hce
      go_enter Tryd.func10, Tryd.ntmps10
      go_wp2_with fail
      have HP : Hid (PLS w ((w.alloc (.cells #[.bool false, .slice none 0 0] 30)).alloc (.cells #[.bool true, .slice none 0 0] 30)) true (.slice none 0 0) []) := HP1.out
      clear HP1 z0'
      go_loopg [5] n (fun gk v5 wr => ∃ i : Nat, v5 = .int .i64 (i : Int) ∧ i + gk = n ∧ Aside (∃ v acc, acc.length ≤ i ∧ PLS w wr true v acc ∧ LRel (lineGo us) us i acc))
      case atStart => exact ⟨0, rfl, by omega, _, [], Nat.le_refl _, HP.out, ⟨fun _ => by rw [List.drop_zero]; simp, fun h1 h2 => by omega⟩⟩
      case round =>
        obtain ⟨i, rfl, hin, HU⟩ := hrel
        clear HP
        obtain ⟨v, acc, hal, hP, hrel⟩ := HU.out
        obtain ⟨aV, cV, eV, _⟩ := rowO_form hP.row
        subst eV
        have HPS : Hid (PLS w wr true (.slice aV acc.length cV) acc) := hP
        have HRE : Hid (LRel (lineGo us) us i acc) := hrel
        have hz := hP.size
        have HSET : Hid (∀ u0 u1, Below w.heap.size w ((wr.setCell ⟨w.heap.size, 0, none⟩ u0).setCell ⟨w.heap.size, 1, none⟩ u1)) := fun u0 u1 => set2_below HPS.out.bel u0 u1
        clear HU hP hrel
        by_cases hlt : i < n
        · exact absurd hlt (by omega)
        · obtain rfl : i = n := by omega
          have c0 : wr.cell? ⟨w.heap.size, 0, none⟩ = some (.bool false) := blk_cell HPS.out.r1 0
          have c1 : wr.cell? ⟨w.heap.size, 1, none⟩ = some (.slice none 0 0) := blk_cell HPS.out.r1 1
          have f0 : wr.frozen? ⟨w.heap.size, 0, none⟩ = false := blk_fz HPS.out.r1 0
          have f1 : wr.frozen? ⟨w.heap.size, 1, none⟩ = false := blk_fz HPS.out.r1 1
          have g0 : wr.cell? ⟨w.heap.size + 1, 0, none⟩ = some (.bool true) := blk_cell HPS.out.r2 0
          have g1 : wr.cell? ⟨w.heap.size + 1, 1, none⟩ = some (.slice aV acc.length cV) := blk_cell HPS.out.r2 1
          have hfin : ((wr.setCell ⟨w.heap.size, 0, none⟩ (.bool true)).setCell ⟨w.heap.size, 1, none⟩ (.slice aV acc.length cV)).heap[w.heap.size]? = some (.cells #[.bool true, .slice aV acc.length cV] 30 (0, 0)) := by
            rw [heap_setCell_same _ w.heap.size 1 _ _ _ (heap_setCell_same _ w.heap.size 0 _ _ _ HPS.out.r1)]; rfl
          have hh : ∀ j, j ≠ w.heap.size → ((wr.setCell ⟨w.heap.size, 0, none⟩ (.bool true)).setCell ⟨w.heap.size, 1, none⟩ (.slice aV acc.length cV)).heap[j]? = wr.heap[j]? := fun j hj => (heap_setCell_other _ _ _ _ hj).trans (heap_setCell_other _ _ _ _ hj)
          have HRW : Hid (((wr.setCell ⟨w.heap.size, 0, none⟩ (.bool true)).setCell ⟨w.heap.size, 1, none⟩ (.slice aV acc.length cV)).ownsRow w.heap.size 3 1 (.slice aV acc.length cV) acc.length (acc.map (Value.int .i64))) := rowO_same HPS.out.row (fun j hj => hh j (fun e => row_ne_blk HPS.out.row HPS.out.r1 (by decide) (by rw [hj, e])))
          by_cases hi0 : 0 < i
          · exact absurd hi0 (by omega)
          · have HF : Hid (lineGo us = none) := by
              have : us = [] := List.eq_nil_of_length_eq_zero (by rw [HUN.out]; omega)
              show lineGo us = none
              rw [this]
              rfl
            have hi00 : i = 0 := by omega
            subst hi00
            clear hh
            go_wp2
            refine bodyPost_ret (v := .tuple #[.agg #[.bool true, .slice aV acc.length cV], .bool false]) (res_ct (p := 2) (u := 3) rfl _ _ w.heap.size 30 _ (0, 0) _ rfl hfin Tryd.underlying30 rfl (by kernel_rfl)) rfl ?_
            exact HNO.out HF.out _ _ _ _ _ (HSET.out _ _)
    · have hce2 : ¬ ((c : Int) - 1 = 0) := by omega
      have hce3 : 1 < c := by omega
      go_enter Tryd.func10, Tryd.ntmps10
      go_wp2_with fail
      have HP : Hid (PLS w ((w.alloc (.cells #[.bool false, .slice none 0 0] 30)).alloc (.cells #[.bool true, .slice none 0 0] 30)) true (.slice none 0 0) []) := HP1.out
      clear HP1 z0'
      go_loopg [5] n (fun gk v5 wr => ∃ i : Nat, v5 = .int .i64 (i : Int) ∧ i + gk = n ∧ Aside (∃ v acc, acc.length ≤ i ∧ PLS w wr true v acc ∧ LRel (lineGo us) us i acc))
      case atStart => exact ⟨0, rfl, by omega, _, [], Nat.le_refl _, HP.out, ⟨fun _ => by rw [List.drop_zero]; simp, fun h1 h2 => by omega⟩⟩
      case round =>
        obtain ⟨i, rfl, hin, HU⟩ := hrel
        clear HP
        obtain ⟨v, acc, hal, hP, hrel⟩ := HU.out
        obtain ⟨aV, cV, eV, _⟩ := rowO_form hP.row
        subst eV
        have HPS : Hid (PLS w wr true (.slice aV acc.length cV) acc) := hP
        have HRE : Hid (LRel (lineGo us) us i acc) := hrel
        have hz := hP.size
        have HSET : Hid (∀ u0 u1, Below w.heap.size w ((wr.setCell ⟨w.heap.size, 0, none⟩ u0).setCell ⟨w.heap.size, 1, none⟩ u1)) := fun u0 u1 => set2_below HPS.out.bel u0 u1
        clear HU hP hrel
        by_cases hlt : i < n
        · have hcj := HCE2.out wr i HPS.out.bel (by rw [HUN.out]; exact hlt)
          have hmem : us.getD i [] ∈ us := by rw [getD_of _ _ _ (by rw [HUN.out]; exact hlt)]; exact List.getElem_mem _
          have hul := HEL2.out _ hmem
          have HLG := lineGo_last (ws := us) (i := i) (by rw [HUN.out]; exact hlt)
          have q1 : (i : Int) < (n : Int) := by omega
          have HR0 : Hid (lineGo us = (lineGo (us.drop i)).map (acc ++ ·)) := HRE.out.1 (by rw [HUN.out]; exact hlt)
          rw [HUN.out] at HLG
          have HLG2 : Hid (lineGo (us.drop i) = if us.getD i [] = [48] then (if i + 1 = n then some [] else none) else if litW (us.getD i []) = 0 then none else (lineGo (us.drop (i + 1))).map (litW (us.getD i []) :: ·)) := HLG
          clear HLG hmem
          obtain ⟨u, hu⟩ : ∃ u, us.getD i [] = u := ⟨_, rfl⟩
          rw [hu] at hcj hul HLG2
          clear hu
          have g0 : wr.cell? ⟨w.heap.size + 1, 0, none⟩ = some (.bool true) := blk_cell HPS.out.r2 0
          have g1 : wr.cell? ⟨w.heap.size + 1, 1, none⟩ = some (.slice aV acc.length cV) := blk_cell HPS.out.r2 1
          have g1a : ∀ o, (wr.alloc o).cell? ⟨w.heap.size + 1, 1, none⟩ = some (.slice aV acc.length cV) := fun o => (World.cell?_of_block (w' := wr.alloc o) (w := wr) (a := ⟨w.heap.size + 1, 1, none⟩) (Below.heap_alloc _ _ (w.heap.size + 1) (by omega))).trans g1
          have c0 : wr.cell? ⟨w.heap.size, 0, none⟩ = some (.bool false) := blk_cell HPS.out.r1 0
          have c1 : wr.cell? ⟨w.heap.size, 1, none⟩ = some (.slice none 0 0) := blk_cell HPS.out.r1 1
          have f0 : wr.frozen? ⟨w.heap.size, 0, none⟩ = false := blk_fz HPS.out.r1 0
          have f1 : wr.frozen? ⟨w.heap.size, 1, none⟩ = false := blk_fz HPS.out.r1 1
          have hfin : ((wr.setCell ⟨w.heap.size, 0, none⟩ (.bool true)).setCell ⟨w.heap.size, 1, none⟩ (.slice aV acc.length cV)).heap[w.heap.size]? = some (.cells #[.bool true, .slice aV acc.length cV] 30 (0, 0)) := by
            rw [heap_setCell_same _ w.heap.size 1 _ _ _ (heap_setCell_same _ w.heap.size 0 _ _ _ HPS.out.r1)]; rfl
          by_cases h48 : u = [48]
          · have hcz : wr.cell? ⟨b, off + 1 + i, none⟩ = some (.string ⟨#[48]⟩) := by rw [hcj, h48]; rfl
            have HRD : Hid (∀ W, Calls Tryd.prog 15 #[.string ⟨#[48]⟩] W fun e w' => e = .returned (.tuple #[.int .i64 0, .bool true]) ∧ w' = W) := fun W => read_zero W
            by_cases hla : i + 1 = n
            · have HN : Aside (∃ v acc, acc.length ≤ i + 1 ∧ PLS w wr true v acc ∧ LRel (lineGo us) us (i + 1) acc) := ⟨_, acc, by omega, HPS.out, fun h1 => by rw [HUN.out] at h1; omega, fun _ _ => by rw [HR0.out, HLG2.out, if_pos h48, if_pos hla]; simp⟩
              have q2 : ((i : Int) == (n : Int) - 1) = true := beq_iff_eq.2 (by omega)
              clear hcj HR0 HLG2 h48
              go_wp2_with fail
              refine (HRD.out _).mono ?_
              rintro e w1 ⟨rfl, hw1⟩
              rw [hw1]
              clear hw1
              go_wp2
              go_roundg (gk - 1)
              case measure => omega
              case rel => exact ⟨i + 1, by simp, by omega, HN⟩
            · have HF : Hid (lineGo us = none) := by show _ = _; rw [HR0.out, HLG2.out, if_pos h48, if_neg hla]; rfl
              have q2 : ((i : Int) == (n : Int) - 1) = false := beq_eq_false_iff_ne.2 (by omega)
              clear hcj HR0 HLG2 h48
              go_wp2_with fail
              refine (HRD.out _).mono ?_
              rintro e w1 ⟨rfl, hw1⟩
              rw [hw1]
              clear hw1
              go_wp2
              refine bodyPost_ret (v := .tuple #[.agg #[.bool true, .slice aV acc.length cV], .bool false]) (res_ct (p := 2) (u := 3) rfl _ _ w.heap.size 30 _ (0, 0) _ rfl hfin Tryd.underlying30 rfl (by kernel_rfl)) rfl ?_
              exact HNO.out HF.out _ _ _ _ _ (HSET.out _ _)
          · obtain ⟨U, hU⟩ : ∃ U : ByteArray, (⟨u.toArray⟩ : ByteArray) = U := ⟨_, rfl⟩
            have hUl : U.data.toList = u := by rw [← hU]
            have hcz : wr.cell? ⟨b, off + 1 + i, none⟩ = some (.string U) := by rw [hcj, ← hU]; rfl
            have HRD : Hid (Calls Tryd.prog 15 #[.string U] wr fun e w' => e = .returned (.tuple #[.int .i64 (litW u), .bool (decide (litW u ≠ 0))]) ∧ w' = wr) := by
              have h5 := read_any U wr (by rw [Lib.size_eq, hUl]; omega) (fun e => h48 (by rw [← hUl, e]))
              rw [hUl] at h5
              exact h5
            by_cases hx : litW u = 0
            · have HF : Hid (lineGo us = none) := by show _ = _; rw [HR0.out, HLG2.out, if_neg h48, if_pos hx]; rfl
              rw [hx] at HRD
              have HRD2 : Hid (Calls Tryd.prog 15 #[.string U] wr fun e w' => e = .returned (.tuple #[.int .i64 0, .bool false]) ∧ w' = wr) := HRD.out
              clear hcj HR0 HLG2 h48 hU hUl HRD hx
              go_wp2_with fail
              refine HRD2.out.mono ?_
              rintro e w1 ⟨rfl, hw1⟩
              rw [hw1]
              clear hw1
              go_wp2
              refine bodyPost_ret (v := .tuple #[.agg #[.bool true, .slice aV acc.length cV], .bool false]) (res_ct (p := 2) (u := 3) rfl _ _ w.heap.size 30 _ (0, 0) _ rfl hfin Tryd.underlying30 rfl (by kernel_rfl)) rfl ?_
              exact HNO.out HF.out _ _ _ _ _ (HSET.out _ _)
            · have hxq : (litW u == 0) = false := beq_eq_false_iff_ne.2 hx
              have hxn : (litW u != 0) = true := by rw [bne, hxq]; rfl
              rw [decide_eq_true hx] at HRD
              by_cases hla : i + 1 = n
              · have HF : Hid (lineGo us = none) := by
                  show _ = _
                  rw [HR0.out, HLG2.out, if_neg h48, if_neg hx, List.drop_eq_nil_of_le (by rw [HUN.out]; omega), lineGo_nil]
                  rfl
                have q2 : ((i : Int) == (n : Int) - 1) = true := beq_iff_eq.2 (by omega)
                clear hcj HR0 HLG2 h48 hU hUl hx
                generalize litW u = x at *
                go_wp2_with fail
                refine HRD.out.mono ?_
                rintro e w1 ⟨rfl, hw1⟩
                rw [hw1]
                clear hw1
                go_wp2
                refine bodyPost_ret (v := .tuple #[.agg #[.bool true, .slice aV acc.length cV], .bool false]) (res_ct (p := 2) (u := 3) rfl _ _ w.heap.size 30 _ (0, 0) _ rfl hfin Tryd.underlying30 rfl (by kernel_rfl)) rfl ?_
                exact HNO.out HF.out _ _ _ _ _ (HSET.out _ _)
              · have q2 : ((i : Int) == (n : Int) - 1) = false := beq_eq_false_iff_ne.2 (by omega)
                have HR5 : Hid (LRel (lineGo us) us (i + 1) (acc ++ [litW u])) := ⟨fun _ => by
                  rw [HR0.out, HLG2.out, if_neg h48, if_neg hx, Option.map_map]
                  congr 1
                  funext c
                  simp, fun h1 => by rw [HUN.out] at h1; omega⟩
                have hxb := litW_bd u
                clear hcj HR0 HLG2 h48 hU hUl hx hfin
                generalize litW u = x at *
                go_wp2_with fail
                refine HRD.out.mono ?_
                rintro e w1 ⟨rfl, hw1⟩
                rw [hw1]
                clear hw1
                have hsz1 : w.heap.size ≤ wr.heap.size := HPS.out.bel.size
                go_wp2_with (at_builtin; refine wpList_append_lies _ rfl _ _ 28 rfl w.heap.size 3 i0 (.int .i64 0) 1 8 Tryd.underlying28 hi hz0 hz1 hz2 rfl (by decide) _ _ _ rfl (HPS.out.row.alloc _) ⟨wr.heap.size, 0, none⟩ 1 1 [.int .i64 x] rfl rfl (World.news_of_block (cs := #[.int .i64 x]) (t := 3) (fr := (0, 0)) (heap_alloc_new wr _)) (ints_oneCell .i64 [x]) (by omega) (by unfold maxLen; omega) (by omega) (by simp; omega) (wr.heap.size + 1) (by simp) ?_; intro g4 cap4 w2 hown2 hgrow2 hat4 hlt4; have HA : Hid (w2.heap[w.heap.size + 1]? = some (.cells #[.bool true, .slice aV acc.length cV] 30 (0, 0)) ∧ PLS w (w2.setCell ⟨w.heap.size + 1, 1, none⟩ (.slice (some ⟨g4, 0, none⟩) (acc.length + 1) cap4)) true (.slice (some ⟨g4, 0, none⟩) (acc.length + 1) cap4) (acc ++ [x])) := HPS.out.add hown2 hgrow2; have e3 : w2.cell? ⟨w.heap.size + 1, 1, none⟩ = some (.slice aV acc.length cV) := blk_cell HA.out.1 1; have f3 : w2.frozen? ⟨w.heap.size + 1, 1, none⟩ = false := (by simp [World.frozen?, HA.out.1]); clear hown2 hgrow2 hat4 hlt4; refine Hid.out ?_)
                refine Lib.hid ?_
                have HN : Aside (∃ v acc', acc'.length ≤ i + 1 ∧ PLS w (w2.setCell ⟨w.heap.size + 1, 1, none⟩ (.slice (some ⟨g4, 0, none⟩) (acc.length + 1) cap4)) true v acc' ∧ LRel (lineGo us) us (i + 1) acc') := ⟨_, acc ++ [x], by rw [List.length_append]; simp; omega, HA.out.2, HR5.out⟩
                clear HA HR5
                go_wp2
                go_roundg (gk - 1)
                case measure => omega
                case rel => exact ⟨i + 1, by simp, by omega, HN⟩
        · obtain rfl : i = n := by omega
          have c0 : wr.cell? ⟨w.heap.size, 0, none⟩ = some (.bool false) := blk_cell HPS.out.r1 0
          have c1 : wr.cell? ⟨w.heap.size, 1, none⟩ = some (.slice none 0 0) := blk_cell HPS.out.r1 1
          have f0 : wr.frozen? ⟨w.heap.size, 0, none⟩ = false := blk_fz HPS.out.r1 0
          have f1 : wr.frozen? ⟨w.heap.size, 1, none⟩ = false := blk_fz HPS.out.r1 1
          have g0 : wr.cell? ⟨w.heap.size + 1, 0, none⟩ = some (.bool true) := blk_cell HPS.out.r2 0
          have g1 : wr.cell? ⟨w.heap.size + 1, 1, none⟩ = some (.slice aV acc.length cV) := blk_cell HPS.out.r2 1
          have hfin : ((wr.setCell ⟨w.heap.size, 0, none⟩ (.bool true)).setCell ⟨w.heap.size, 1, none⟩ (.slice aV acc.length cV)).heap[w.heap.size]? = some (.cells #[.bool true, .slice aV acc.length cV] 30 (0, 0)) := by
            rw [heap_setCell_same _ w.heap.size 1 _ _ _ (heap_setCell_same _ w.heap.size 0 _ _ _ HPS.out.r1)]; rfl
          have hh : ∀ j, j ≠ w.heap.size → ((wr.setCell ⟨w.heap.size, 0, none⟩ (.bool true)).setCell ⟨w.heap.size, 1, none⟩ (.slice aV acc.length cV)).heap[j]? = wr.heap[j]? := fun j hj => (heap_setCell_other _ _ _ _ hj).trans (heap_setCell_other _ _ _ _ hj)
          have HRW : Hid (((wr.setCell ⟨w.heap.size, 0, none⟩ (.bool true)).setCell ⟨w.heap.size, 1, none⟩ (.slice aV acc.length cV)).ownsRow w.heap.size 3 1 (.slice aV acc.length cV) acc.length (acc.map (Value.int .i64))) := rowO_same HPS.out.row (fun j hj => hh j (fun e => row_ne_blk HPS.out.row HPS.out.r1 (by decide) (by rw [hj, e])))
          by_cases hi0 : 0 < i
          · have HF : Hid (lineGo us = some acc) := HRE.out.2 HUN.out.symm (by rw [HUN.out]; exact hi0)
            have q3 : (0 : Int) < (i : Int) := by omega
            clear hh
            go_wp2
            refine bodyPost_ret (v := .tuple #[.agg #[.bool true, .slice aV acc.length cV], .bool true]) (res_ct (p := 2) (u := 3) rfl _ _ w.heap.size 30 _ (0, 0) _ rfl hfin Tryd.underlying30 rfl (by kernel_rfl)) rfl ?_
            exact HYE.out acc HF.out _ _ (HSET.out _ _) HRW.out
          · have HF : Hid (lineGo us = none) := by
              have : us = [] := List.eq_nil_of_length_eq_zero (by rw [HUN.out]; omega)
              show lineGo us = none
              rw [this]
              rfl
            have hi00 : i = 0 := by omega
            subst hi00
            clear hh
            go_wp2
            refine bodyPost_ret (v := .tuple #[.agg #[.bool true, .slice aV acc.length cV], .bool false]) (res_ct (p := 2) (u := 3) rfl _ _ w.heap.size 30 _ (0, 0) _ rfl hfin Tryd.underlying30 rfl (by kernel_rfl)) rfl ?_
            exact HNO.out HF.out _ _ _ _ _ (HSET.out _ _)
  · have HD : Hid (lnD ws = false ∧ lnW ws = ws) := by
      show _ ∧ _
      unfold lnD lnW
      rw [hw0, if_neg hd]
      exact ⟨decide_eq_false hd, rfl⟩
    rw [HD.out.2] at HNO HYE
    rw [HD.out.1] at HYE
    have z0' : ∀ o o2, ((w.alloc o).alloc o2).cell? ⟨b, off, none⟩ = some (.string ⟨(ws.getD 0 []).toArray⟩) := fun o o2 => z0 o o2
    have hq0 : ((⟨(ws.getD 0 []).toArray⟩ : ByteArray).toList == [100]) = false := bytes_is (by simp only; exact hd)
    have HCE2 : Hid (∀ (W : World) j, Below w.heap.size w W → j < ws.length → W.cell? ⟨b, off + j, none⟩ = some (strV (ws.getD j []))) := HCE.out
    have HEL2 : Hid (∀ u ∈ ws, u.length ≤ 1048576) := HEL.out
    have hc1 : (0 : Int) < (ws.length : Int) := by omega
    clear z0 hd hw0 HD HCE HEL HP1
    generalize (⟨(ws.getD 0 []).toArray⟩ : ByteArray) = Z0 at *
    obtain ⟨us, hus⟩ : ∃ us, ws = us := ⟨_, rfl⟩
    subst hus
    have hun : ws.length ≤ 1048576 := hl
    obtain ⟨n, hn⟩ : ∃ n, ws.length = n := ⟨_, rfl⟩
    have HUN : Hid (ws.length = n) := hn
    rw [hn] at hc hl hc1 hp hun ⊢
    clear hn
    go_enter Tryd.func10, Tryd.ntmps10
    go_wp2_with fail
    have HP : Hid (PLS w ((w.alloc (.cells #[.bool false, .slice none 0 0] 30)).alloc (.cells #[.bool false, .slice none 0 0] 30)) false (.slice none 0 0) []) := HP0.out
    clear HP0 z0'
    go_loopg [5] n (fun gk v5 wr => ∃ i : Nat, v5 = .int .i64 (i : Int) ∧ i + gk = n ∧ Aside (∃ v acc, acc.length ≤ i ∧ PLS w wr false v acc ∧ LRel (lineGo ws) ws i acc))
    case atStart => exact ⟨0, rfl, by omega, _, [], Nat.le_refl _, HP.out, ⟨fun _ => by rw [List.drop_zero]; simp, fun h1 h2 => by omega⟩⟩
    case round =>
      obtain ⟨i, rfl, hin, HU⟩ := hrel
      clear HP
      obtain ⟨v, acc, hal, hP, hrel⟩ := HU.out
      obtain ⟨aV, cV, eV, _⟩ := rowO_form hP.row
      subst eV
      have HPS : Hid (PLS w wr false (.slice aV acc.length cV) acc) := hP
      have HRE : Hid (LRel (lineGo ws) ws i acc) := hrel
      have hz := hP.size
      have HSET : Hid (∀ u0 u1, Below w.heap.size w ((wr.setCell ⟨w.heap.size, 0, none⟩ u0).setCell ⟨w.heap.size, 1, none⟩ u1)) := fun u0 u1 => set2_below HPS.out.bel u0 u1
      clear HU hP hrel
      by_cases hlt : i < n
      · have hcj := HCE2.out wr i HPS.out.bel (by rw [HUN.out]; exact hlt)
        have hmem : ws.getD i [] ∈ ws := by rw [getD_of _ _ _ (by rw [HUN.out]; exact hlt)]; exact List.getElem_mem _
        have hul := HEL2.out _ hmem
        have HLG := lineGo_last (ws := ws) (i := i) (by rw [HUN.out]; exact hlt)
        have q1 : (i : Int) < (n : Int) := by omega
        have HR0 : Hid (lineGo ws = (lineGo (ws.drop i)).map (acc ++ ·)) := HRE.out.1 (by rw [HUN.out]; exact hlt)
        rw [HUN.out] at HLG
        have HLG2 : Hid (lineGo (ws.drop i) = if ws.getD i [] = [48] then (if i + 1 = n then some [] else none) else if litW (ws.getD i []) = 0 then none else (lineGo (ws.drop (i + 1))).map (litW (ws.getD i []) :: ·)) := HLG
        clear HLG hmem
        obtain ⟨u, hu⟩ : ∃ u, ws.getD i [] = u := ⟨_, rfl⟩
        rw [hu] at hcj hul HLG2
        clear hu
        have g0 : wr.cell? ⟨w.heap.size + 1, 0, none⟩ = some (.bool false) := blk_cell HPS.out.r2 0
        have g1 : wr.cell? ⟨w.heap.size + 1, 1, none⟩ = some (.slice aV acc.length cV) := blk_cell HPS.out.r2 1
        have g1a : ∀ o, (wr.alloc o).cell? ⟨w.heap.size + 1, 1, none⟩ = some (.slice aV acc.length cV) := fun o => (World.cell?_of_block (w' := wr.alloc o) (w := wr) (a := ⟨w.heap.size + 1, 1, none⟩) (Below.heap_alloc _ _ (w.heap.size + 1) (by omega))).trans g1
        have c0 : wr.cell? ⟨w.heap.size, 0, none⟩ = some (.bool false) := blk_cell HPS.out.r1 0
        have c1 : wr.cell? ⟨w.heap.size, 1, none⟩ = some (.slice none 0 0) := blk_cell HPS.out.r1 1
        have f0 : wr.frozen? ⟨w.heap.size, 0, none⟩ = false := blk_fz HPS.out.r1 0
        have f1 : wr.frozen? ⟨w.heap.size, 1, none⟩ = false := blk_fz HPS.out.r1 1
        have hfin : ((wr.setCell ⟨w.heap.size, 0, none⟩ (.bool false)).setCell ⟨w.heap.size, 1, none⟩ (.slice aV acc.length cV)).heap[w.heap.size]? = some (.cells #[.bool false, .slice aV acc.length cV] 30 (0, 0)) := by
          rw [heap_setCell_same _ w.heap.size 1 _ _ _ (heap_setCell_same _ w.heap.size 0 _ _ _ HPS.out.r1)]; rfl
        by_cases h48 : u = [48]
        · have hcz : wr.cell? ⟨b, off + i, none⟩ = some (.string ⟨#[48]⟩) := by rw [hcj, h48]; rfl
          have HRD : Hid (∀ W, Calls Tryd.prog 15 #[.string ⟨#[48]⟩] W fun e w' => e = .returned (.tuple #[.int .i64 0, .bool true]) ∧ w' = W) := fun W => read_zero W
          by_cases hla : i + 1 = n
          · have HN : Aside (∃ v acc, acc.length ≤ i + 1 ∧ PLS w wr false v acc ∧ LRel (lineGo ws) ws (i + 1) acc) := ⟨_, acc, by omega, HPS.out, fun h1 => by rw [HUN.out] at h1; omega, fun _ _ => by rw [HR0.out, HLG2.out, if_pos h48, if_pos hla]; simp⟩
            have q2 : ((i : Int) == (n : Int) - 1) = true := beq_iff_eq.2 (by omega)
            clear hcj HR0 HLG2 h48
            go_wp2_with fail
            refine (HRD.out _).mono ?_
            rintro e w1 ⟨rfl, hw1⟩
            rw [hw1]
            clear hw1
            go_wp2
            go_roundg (gk - 1)
            case measure => omega
            case rel => exact ⟨i + 1, by simp, by omega, HN⟩
          · have HF : Hid (lineGo ws = none) := by show _ = _; rw [HR0.out, HLG2.out, if_pos h48, if_neg hla]; rfl
            have q2 : ((i : Int) == (n : Int) - 1) = false := beq_eq_false_iff_ne.2 (by omega)
            clear hcj HR0 HLG2 h48
            go_wp2_with fail
            refine (HRD.out _).mono ?_
            rintro e w1 ⟨rfl, hw1⟩
            rw [hw1]
            clear hw1
            go_wp2
            refine bodyPost_ret (v := .tuple #[.agg #[.bool false, .slice aV acc.length cV], .bool false]) (res_ct (p := 2) (u := 3) rfl _ _ w.heap.size 30 _ (0, 0) _ rfl hfin Tryd.underlying30 rfl (by kernel_rfl)) rfl ?_
            exact HNO.out HF.out _ _ _ _ _ (HSET.out _ _)
        · obtain ⟨U, hU⟩ : ∃ U : ByteArray, (⟨u.toArray⟩ : ByteArray) = U := ⟨_, rfl⟩
          have hUl : U.data.toList = u := by rw [← hU]
          have hcz : wr.cell? ⟨b, off + i, none⟩ = some (.string U) := by rw [hcj, ← hU]; rfl
          have HRD : Hid (Calls Tryd.prog 15 #[.string U] wr fun e w' => e = .returned (.tuple #[.int .i64 (litW u), .bool (decide (litW u ≠ 0))]) ∧ w' = wr) := by
            have h5 := read_any U wr (by rw [Lib.size_eq, hUl]; omega) (fun e => h48 (by rw [← hUl, e]))
            rw [hUl] at h5
            exact h5
          by_cases hx : litW u = 0
          · have HF : Hid (lineGo ws = none) := by show _ = _; rw [HR0.out, HLG2.out, if_neg h48, if_pos hx]; rfl
            rw [hx] at HRD
            have HRD2 : Hid (Calls Tryd.prog 15 #[.string U] wr fun e w' => e = .returned (.tuple #[.int .i64 0, .bool false]) ∧ w' = wr) := HRD.out
            clear hcj HR0 HLG2 h48 hU hUl HRD hx
            go_wp2_with fail
            refine HRD2.out.mono ?_
            rintro e w1 ⟨rfl, hw1⟩
            rw [hw1]
            clear hw1
            go_wp2
            refine bodyPost_ret (v := .tuple #[.agg #[.bool false, .slice aV acc.length cV], .bool false]) (res_ct (p := 2) (u := 3) rfl _ _ w.heap.size 30 _ (0, 0) _ rfl hfin Tryd.underlying30 rfl (by kernel_rfl)) rfl ?_
            exact HNO.out HF.out _ _ _ _ _ (HSET.out _ _)
          · have hxq : (litW u == 0) = false := beq_eq_false_iff_ne.2 hx
            have hxn : (litW u != 0) = true := by rw [bne, hxq]; rfl
            rw [decide_eq_true hx] at HRD
            by_cases hla : i + 1 = n
            · have HF : Hid (lineGo ws = none) := by
                show _ = _
                rw [HR0.out, HLG2.out, if_neg h48, if_neg hx, List.drop_eq_nil_of_le (by rw [HUN.out]; omega), lineGo_nil]
                rfl
              have q2 : ((i : Int) == (n : Int) - 1) = true := beq_iff_eq.2 (by omega)
              clear hcj HR0 HLG2 h48 hU hUl hx
              generalize litW u = x at *
              go_wp2_with fail
              refine HRD.out.mono ?_
              rintro e w1 ⟨rfl, hw1⟩
              rw [hw1]
              clear hw1
              go_wp2
              refine bodyPost_ret (v := .tuple #[.agg #[.bool false, .slice aV acc.length cV], .bool false]) (res_ct (p := 2) (u := 3) rfl _ _ w.heap.size 30 _ (0, 0) _ rfl hfin Tryd.underlying30 rfl (by kernel_rfl)) rfl ?_
              exact HNO.out HF.out _ _ _ _ _ (HSET.out _ _)
            · have q2 : ((i : Int) == (n : Int) - 1) = false := beq_eq_false_iff_ne.2 (by omega)
              have HR5 : Hid (LRel (lineGo ws) ws (i + 1) (acc ++ [litW u])) := ⟨fun _ => by
                rw [HR0.out, HLG2.out, if_neg h48, if_neg hx, Option.map_map]
                congr 1
                funext c
                simp, fun h1 => by rw [HUN.out] at h1; omega⟩
              have hxb := litW_bd u
              clear hcj HR0 HLG2 h48 hU hUl hx hfin
              generalize litW u = x at *
              go_wp2_with fail
              refine HRD.out.mono ?_
              rintro e w1 ⟨rfl, hw1⟩
              rw [hw1]
              clear hw1
              have hsz1 : w.heap.size ≤ wr.heap.size := HPS.out.bel.size
              go_wp2_with (at_builtin; refine wpList_append_lies _ rfl _ _ 28 rfl w.heap.size 3 i0 (.int .i64 0) 1 8 Tryd.underlying28 hi hz0 hz1 hz2 rfl (by decide) _ _ _ rfl (HPS.out.row.alloc _) ⟨wr.heap.size, 0, none⟩ 1 1 [.int .i64 x] rfl rfl (World.news_of_block (cs := #[.int .i64 x]) (t := 3) (fr := (0, 0)) (heap_alloc_new wr _)) (ints_oneCell .i64 [x]) (by omega) (by unfold maxLen; omega) (by omega) (by simp; omega) (wr.heap.size + 1) (by simp) ?_; intro g4 cap4 w2 hown2 hgrow2 hat4 hlt4; have HA : Hid (w2.heap[w.heap.size + 1]? = some (.cells #[.bool false, .slice aV acc.length cV] 30 (0, 0)) ∧ PLS w (w2.setCell ⟨w.heap.size + 1, 1, none⟩ (.slice (some ⟨g4, 0, none⟩) (acc.length + 1) cap4)) false (.slice (some ⟨g4, 0, none⟩) (acc.length + 1) cap4) (acc ++ [x])) := HPS.out.add hown2 hgrow2; have e3 : w2.cell? ⟨w.heap.size + 1, 1, none⟩ = some (.slice aV acc.length cV) := blk_cell HA.out.1 1; have f3 : w2.frozen? ⟨w.heap.size + 1, 1, none⟩ = false := (by simp [World.frozen?, HA.out.1]); clear hown2 hgrow2 hat4 hlt4; refine Hid.out ?_)
              refine Lib.hid ?_
              have HN : Aside (∃ v acc', acc'.length ≤ i + 1 ∧ PLS w (w2.setCell ⟨w.heap.size + 1, 1, none⟩ (.slice (some ⟨g4, 0, none⟩) (acc.length + 1) cap4)) false v acc' ∧ LRel (lineGo ws) ws (i + 1) acc') := ⟨_, acc ++ [x], by rw [List.length_append]; simp; omega, HA.out.2, HR5.out⟩
              clear HA HR5
              go_wp2
              go_roundg (gk - 1)
              case measure => omega
              case rel => exact ⟨i + 1, by simp, by omega, HN⟩
      · obtain rfl : i = n := by omega
        have c0 : wr.cell? ⟨w.heap.size, 0, none⟩ = some (.bool false) := blk_cell HPS.out.r1 0
        have c1 : wr.cell? ⟨w.heap.size, 1, none⟩ = some (.slice none 0 0) := blk_cell HPS.out.r1 1
        have f0 : wr.frozen? ⟨w.heap.size, 0, none⟩ = false := blk_fz HPS.out.r1 0
        have f1 : wr.frozen? ⟨w.heap.size, 1, none⟩ = false := blk_fz HPS.out.r1 1
        have g0 : wr.cell? ⟨w.heap.size + 1, 0, none⟩ = some (.bool false) := blk_cell HPS.out.r2 0
        have g1 : wr.cell? ⟨w.heap.size + 1, 1, none⟩ = some (.slice aV acc.length cV) := blk_cell HPS.out.r2 1
        have hfin : ((wr.setCell ⟨w.heap.size, 0, none⟩ (.bool false)).setCell ⟨w.heap.size, 1, none⟩ (.slice aV acc.length cV)).heap[w.heap.size]? = some (.cells #[.bool false, .slice aV acc.length cV] 30 (0, 0)) := by
          rw [heap_setCell_same _ w.heap.size 1 _ _ _ (heap_setCell_same _ w.heap.size 0 _ _ _ HPS.out.r1)]; rfl
        have hh : ∀ j, j ≠ w.heap.size → ((wr.setCell ⟨w.heap.size, 0, none⟩ (.bool false)).setCell ⟨w.heap.size, 1, none⟩ (.slice aV acc.length cV)).heap[j]? = wr.heap[j]? := fun j hj => (heap_setCell_other _ _ _ _ hj).trans (heap_setCell_other _ _ _ _ hj)
        have HRW : Hid (((wr.setCell ⟨w.heap.size, 0, none⟩ (.bool false)).setCell ⟨w.heap.size, 1, none⟩ (.slice aV acc.length cV)).ownsRow w.heap.size 3 1 (.slice aV acc.length cV) acc.length (acc.map (Value.int .i64))) := rowO_same HPS.out.row (fun j hj => hh j (fun e => row_ne_blk HPS.out.row HPS.out.r1 (by decide) (by rw [hj, e])))
        by_cases hi0 : 0 < i
        · have HF : Hid (lineGo ws = some acc) := HRE.out.2 HUN.out.symm (by rw [HUN.out]; exact hi0)
          have q3 : (0 : Int) < (i : Int) := by omega
          clear hh
          go_wp2
          refine bodyPost_ret (v := .tuple #[.agg #[.bool false, .slice aV acc.length cV], .bool true]) (res_ct (p := 2) (u := 3) rfl _ _ w.heap.size 30 _ (0, 0) _ rfl hfin Tryd.underlying30 rfl (by kernel_rfl)) rfl ?_
          exact HYE.out acc HF.out _ _ (HSET.out _ _) HRW.out
        · have HF : Hid (lineGo ws = none) := by
            have : ws = [] := List.eq_nil_of_length_eq_zero (by rw [HUN.out]; omega)
            show lineGo ws = none
            rw [this]
            rfl
          exact absurd hp (by omega)
end Go.Proofs.YtklkeajakmhkgaaDoor
