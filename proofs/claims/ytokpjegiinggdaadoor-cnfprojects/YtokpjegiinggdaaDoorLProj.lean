import Derived.Test.YtokpjegiinggdaaDoorElim8
import Derived.Test.YtokpjegiinggdaaDoorSameW
import Derived.Test.YtokpjegiinggdaaDoorMathZ
namespace Go.Proofs.YtokpjegiinggdaaDoor
open Go.ChangeShapes Go.WideShapes Go.ChangeAt Go.RowKit Go.Cn

theorem OwnL.rowAtN {w : World} {B co j n : Nat} {ao : Option Addr} {L : List Value} {cs : List (List Int)} (h : OwnL w B (.slice ao n co) L cs) (hn : n = cs.length) (hj : j < cs.length) :
    ∃ g aj cj, ao = some ⟨g, 0, none⟩ ∧ w.cell? ⟨g, j, none⟩ = some (.slice aj (cs.getD j []).length cj) ∧ w.ownsRow B 3 1 (.slice aj (cs.getD j []).length cj) (cs.getD j []).length ((cs.getD j []).map (Value.int .i64)) ∧ Ints w aj (cs.getD j []) := by
  subst hn
  exact h.rowAt hj
theorem elE_all {vars v : Int} {cs : List (List Int)} (h : elE vars cs v = 0) : (ck vars cs).2 = 0 ∧ (1 ≤ v ∧ v ≤ vars) ∧ elLong v (td cs) = false ∧ (ck vars (td (elX v (td cs)))).2 = 0 := by
  unfold elE at h
  split at h
  · next h1 => exact absurd h h1
  · next h1 =>
    split at h
    · cases h
    · next h2 =>
      split at h
      · cases h
      · split at h
        · cases h
        · next h3 => exact ⟨by simpa using h1, by omega, by simpa using h3, h⟩
theorem fm_cls {w : World} {ad : Option Addr} {cs : List (List Int)} (h : Fm w ad cs) {W : World} (hW : Below w.heap.size w W) : Cls W ad cs := (h.cls.below hW).cls
set_option maxHeartbeats 8000000 in
set_option maxRecDepth 100000 in
theorem projects_walk (vars v bits : Int) (ad : Option Addr) (cs : List (List Int)) (c : Nat) (w : World) (hf : Fm w ad cs) (hv0 : -9223372036854775808 ≤ v) (hv1 : v ≤ 9223372036854775807) (hlv : LV w) :
    Calls Tryd.prog 4 #[.agg #[.int .i64 vars, .slice ad cs.length c], .int .i64 v, .int .u64 bits] w fun e w' => e = .returned (.bool true) ∧ Below w.heap.size w w' := by
  have HN : Hid (∀ x W, Calls Tryd.prog 9 #[.int .i64 x] W fun e w' => e = .returned (.int .i64 x) ∧ w' = W) := fun x W => no_any x W
  have HB0 : Hid (∀ o, Below w.heap.size w (w.alloc o)) := fun o => (Below.refl _ _).alloc (Nat.le_refl _) o
  have HLv : Hid (∀ W, Below w.heap.size w W → Calls Tryd.prog 11 #[] W fun e w' => e = .returned (.bool true) ∧ Below W.heap.size W w') := fun W hW => live_any W (hlv.below hW)
  have HEl : Hid (∀ W, Below w.heap.size w W → Calls Tryd.prog 12 #[.agg #[.int .i64 vars, .slice ad cs.length c], .int .i64 v] W (ElPost vars cs v W)) := fun W hW => elim_any vars v ad cs c W (hf.cls.below hW) (by have := hf.len; omega) (fun j hj => by have := hf.each j hj; omega) (hlv.below hW) hv0 hv1
  have HUf : Hid (∀ W ms bd d, Below w.heap.size w W → I8 W bd ms → ms.length ≤ 1048576 → Calls Tryd.prog 15 #[.agg #[.int .i64 vars, .slice ad cs.length c], .slice bd ms.length d] W fun e w' => e = .returned (.tuple #[.int .i8 (un vars cs ms).1, .int .i64 (un vars cs ms).2.1, .int .i64 (un vars cs ms).2.2]) ∧ Below W.heap.size W w') := fun W ms bd d hW hI hm => under_any vars ad bd cs ms c d W (fm_cls hf hW) hI (by have := hf.len; omega) (fun j hj => by have := hf.each j hj; omega) (by omega)
  clear hf hlv
  by_cases h0 : elE vars cs v = 0
  rotate_left
  · have HP : Hid (elC vars cs v = [] ∧ elV vars cs v = 0) := ⟨by unfold elC; rw [if_neg h0], by unfold elV; rw [if_neg h0]⟩
    unfold ElPost at HEl
    rw [HP.out.1, HP.out.2] at HEl
    generalize elE vars cs v = r2 at *
    have e1 : (r2 != 0) = true := by simpa using h0
    clear HUf
    generalize cs.length = n at *
    go_enter Tryd.func4, Tryd.ntmps4
    go_wp2_with fail
    have y0 : (w.alloc (.cells #[.int .i64 vars, .slice ad n c] 24)).heap[w.heap.size]? = some (.cells #[.int .i64 vars, .slice ad n c] 24 (0, 0)) := heap_alloc_at _ _
    have HBa : Hid (Below w.heap.size w (w.alloc (.cells #[.int .i64 vars, .slice ad n c] 24))) := HB0.out _
    have HSa : Hid ((w.alloc (.cells #[.int .i64 vars, .slice ad n c] 24)).heap.size = w.heap.size + 1) := sz1 _ _
    generalize w.alloc (.cells #[.int .i64 vars, .slice ad n c] 24) = w1 at *
    refine (HLv.out w1 HBa.out).mono ?_
    rintro e w2 ⟨rfl, hb2⟩
    have HB2 : Hid (Below w.heap.size w w2) := below_next HBa.out hb2
    have y1 : w2.heap[w.heap.size]? = some (.cells #[.int .i64 vars, .slice ad n c] 24 (0, 0)) := (hb2.block _ (by have := HSa.out; omega)).trans y0
    have z0 : w2.cell? ⟨w.heap.size, 0, none⟩ = some (.int .i64 vars) := blk_cell y1 0
    have z1 : w2.cell? ⟨w.heap.size, 1, none⟩ = some (.slice ad n c) := blk_cell y1 1
    clear y0 y1 hb2 HSa HBa
    go_wp2_with fail
    refine (HEl.out w2 HB2.out).mono ?_
    rintro e w3 ⟨v3, L3, rfl, hO3, hb3⟩
    obtain ⟨ad3, cap3, rfl⟩ := own_shapeC hO3.row
    have HB3 : Hid (Below w.heap.size w w3) := below_next HB2.out hb3
    have HBo : Hid (∀ o, Below w.heap.size w (w3.alloc o)) := fun o => below_next HB3.out ((Below.refl _ _).alloc (Nat.le_refl _) o)
    clear hb3 hO3 z0 z1
    go_wp2_with fail
    refine (HN.out _ _).mono ?_
    rintro e w' ⟨rfl, hw⟩
    obtain rfl := hw.symm
    go_wp2
    go_ret
    exact ⟨rfl, HBo.out _⟩
  · obtain ⟨k1, k2, k3, k4⟩ := elE_all h0
    have hz := ck_zero k1
    have hz4 := ck_zero k4
    have HP : Hid (elC vars cs v = td (elX v (td cs)) ∧ elV vars cs v = vars) := ⟨by unfold elC; rw [if_pos h0], by unfold elV; rw [if_pos h0]⟩
    have HW : Hid (∀ S ∈ td (elX v (td cs)), v ∉ S ∧ -v ∉ S) := el_without (cl1_td k1)
    have HTl : Hid (∀ j, j < (td (elX v (td cs))).length → ((td (elX v (td cs))).getD j []).length ≤ 65536) := fun j hj => (hz4.2.2.2.1 _ (by rw [getD_at _ _ _ hj]; exact List.getElem_mem _)).1
    have HPr : Hid (∀ ms, Full vars ms → (fVal ms (td (elX v (td cs))) = 1 ↔ fVal (put1 ms v 1) cs = 1 ∨ fVal (put1 ms v (-1)) cs = 1)) := fun ms hm => proj k1 k2.1 k2.2 k3 hm
    have HVf : Hid (∀ ms, Full vars ms → (un vars cs ms).1 = fVal ms cs ∧ (fVal ms cs = 1 ∨ fVal ms cs = -1)) := fun ms hm => ⟨(un_val k1).1, full_fVal hm (fun c hc => (hz.2.2.2.1 c hc).2)⟩
    have HVg : Hid (∀ ms, Full vars ms → (un vars (td (elX v (td cs))) ms).1 = fVal ms (td (elX v (td cs))) ∧ (fVal ms (td (elX v (td cs))) = 1 ∨ fVal ms (td (elX v (td cs))) = -1)) := fun ms hm => ⟨(un_val k4).1, full_fVal hm (fun c hc => (hz4.2.2.2.1 c hc).2)⟩
    have hTX : (td (elX v (td cs))).length ≤ 1048576 := hz4.2.2.1
    have hvars : vars ≤ 1048576 := hz.2.1
    have hva := k2.1
    have hvb := k2.2
    obtain ⟨nv, hnv⟩ : ∃ nv : Nat, vars = (nv : Int) := ⟨vars.toNat, by omega⟩
    subst hnv
    unfold ElPost at HEl
    rw [HP.out.1, HP.out.2, h0] at HEl
    clear k1 k2 k3 k4 hz hz4 h0 HP
    generalize hTT : td (elX v (td cs)) = TX at *
    clear hTT
    generalize hn : cs.length = n at *
    clear hn
    generalize hq : TX.length = q at *
    have HL : Aside (TX.length = q) := hq
    clear hq
    go_enter Tryd.func4, Tryd.ntmps4
    go_wp2_with fail
    have y0 : (w.alloc (.cells #[.int .i64 (nv : Int), .slice ad n c] 24)).heap[w.heap.size]? = some (.cells #[.int .i64 (nv : Int), .slice ad n c] 24 (0, 0)) := heap_alloc_at _ _
    have HBa : Hid (Below w.heap.size w (w.alloc (.cells #[.int .i64 (nv : Int), .slice ad n c] 24))) := HB0.out _
    have HSa : Hid ((w.alloc (.cells #[.int .i64 (nv : Int), .slice ad n c] 24)).heap.size = w.heap.size + 1) := sz1 _ _
    generalize w.alloc (.cells #[.int .i64 (nv : Int), .slice ad n c] 24) = w1 at *
    refine (HLv.out w1 HBa.out).mono ?_
    rintro e w2 ⟨rfl, hb2⟩
    have HB2 : Hid (Below w.heap.size w w2) := below_next HBa.out hb2
    have y1 : w2.heap[w.heap.size]? = some (.cells #[.int .i64 (nv : Int), .slice ad n c] 24 (0, 0)) := (hb2.block _ (by have := HSa.out; omega)).trans y0
    have hs2 : w.heap.size < w2.heap.size := by have := hb2.size; have := HSa.out; omega
    have z0 : w2.cell? ⟨w.heap.size, 0, none⟩ = some (.int .i64 (nv : Int)) := blk_cell y1 0
    have z1 : w2.cell? ⟨w.heap.size, 1, none⟩ = some (.slice ad n c) := blk_cell y1 1
    have HY1 : Hid (w2.heap[w.heap.size]? = some (.cells #[.int .i64 (nv : Int), .slice ad n c] 24 (0, 0))) := y1
    clear y0 y1 hb2 HSa HBa
    go_wp2_with fail
    refine (HEl.out w2 HB2.out).mono ?_
    rintro e w3 ⟨v3, L3, rfl, hO3, hb3⟩
    have hO3r := hO3.row
    rw [HL.out] at hO3r
    obtain ⟨ad3, cap3, rfl⟩ := own_shapeC hO3r
    have HB3 : Hid (Below w.heap.size w w3) := below_next HB2.out hb3
    have y3 : w3.heap[w.heap.size]? = some (.cells #[.int .i64 (nv : Int), .slice ad n c] 24 (0, 0)) := (hb3.block _ hs2).trans HY1.out
    have hs3 : w.heap.size < w3.heap.size := by have := hb3.size; omega
    have H3 : Hid (w3.heap[w.heap.size]? = some (.cells #[.int .i64 (nv : Int), .slice ad n c] 24 (0, 0)) ∧ OwnL w3 w.heap.size (.slice ad3 q cap3) L3 TX) := ⟨y3, hO3.up (by omega)⟩
    clear hb3 hO3 y3 z0 z1 HY1 HEl HLv
    go_wp2_with fail
    refine (HN.out _ _).mono ?_
    rintro e w' ⟨rfl, hw⟩
    obtain rfl := hw.symm
    have x0 : (w3.alloc (.cells #[.int .i64 (nv : Int), .slice ad3 q cap3] 24)).heap[w3.heap.size]? = some (.cells #[.int .i64 (nv : Int), .slice ad3 q cap3] 24 (0, 0)) := heap_alloc_at _ _
    have x1 : Below w3.heap.size w3 (w3.alloc (.cells #[.int .i64 (nv : Int), .slice ad3 q cap3] 24)) := (Below.refl _ _).alloc (Nat.le_refl _) _
    have hs4 : w3.heap.size < (w3.alloc (.cells #[.int .i64 (nv : Int), .slice ad3 q cap3] 24)).heap.size := by rw [sz1]; omega
    generalize w3.alloc (.cells #[.int .i64 (nv : Int), .slice ad3 q cap3] 24) = w4 at *
    have H4 : Hid (∀ W, Below w4.heap.size w4 W → W.heap[w.heap.size]? = some (.cells #[.int .i64 (nv : Int), .slice ad n c] 24 (0, 0)) ∧ W.heap[w3.heap.size]? = some (.cells #[.int .i64 (nv : Int), .slice ad3 q cap3] 24 (0, 0)) ∧ OwnL W w.heap.size (.slice ad3 q cap3) L3 TX ∧ Below w.heap.size w W) := fun W hW =>
      ⟨(hW.block _ (by omega)).trans ((x1.block _ hs3).trans H3.out.1), (hW.block _ hs4).trans x0, (H3.out.2.below x1).below hW, below_next (below_next HB3.out x1) hW⟩
    have c0 : w4.cell? ⟨w.heap.size, 0, none⟩ = some (.int .i64 (nv : Int)) := blk_cell (H4.out w4 (Below.refl _ _)).1 0
    have c1 : w4.cell? ⟨w3.heap.size, 0, none⟩ = some (.int .i64 (nv : Int)) := blk_cell (H4.out w4 (Below.refl _ _)).2.1 0
    have c2 : w4.cell? ⟨w3.heap.size, 1, none⟩ = some (.slice ad3 q cap3) := blk_cell (H4.out w4 (Below.refl _ _)).2.1 1
    clear x0 x1 H3 HB3
    have hnb : ¬ (v < 1) := by omega
    have hnc : ¬ ((nv : Int) < v) := by omega
    go_wp2
    go_loopg [9] q (fun gk s9 wr => ∃ (k : Nat), s9 = .int .i64 k ∧ k + gk = q ∧ w4 = wr)
    case atStart => exact ⟨0, rfl, by omega, rfl⟩
    case round =>
      obtain ⟨k, rfl, hk, rfl⟩ := hrel
      by_cases hlt : k < q
      · obtain ⟨gt, ak, ck, rfl, cck, hrk, hik⟩ := (H4.out w4 (Below.refl _ _)).2.2.1.rowAtN HL.out.symm (j := k) (by rw [HL.out]; exact hlt)
        have hm := HW.out (TX.getD k []) (by rw [getD_at _ _ _ (by rw [HL.out]; exact hlt)]; exact List.getElem_mem _)
        have hkl := HTl.out k hlt
        have q1 : (k : Int) < (q : Int) := by omega
        obtain ⟨Ck, hCk⟩ : ∃ x, x = TX.getD k [] := ⟨_, rfl⟩
        rw [← hCk] at cck hik hm hkl
        clear hCk hrk
        have HHa : Hid (Calls Tryd.prog 13 #[.slice ak Ck.length ck, .int .i64 v] w4 fun e w' => e = .returned (.bool false) ∧ w' = w4) := by
          have := rhas_any ak Ck ck v w4 hik (by omega)
          rw [decide_eq_false hm.1] at this
          exact this
        have HHb : Hid (Calls Tryd.prog 13 #[.slice ak Ck.length ck, .int .i64 (-v)] w4 fun e w' => e = .returned (.bool false) ∧ w' = w4) := by
          have := rhas_any ak Ck ck (-v) w4 hik (by omega)
          rw [decide_eq_false hm.2] at this
          exact this
        clear hm hik
        go_wp2_with fail
        refine HHa.out.mono ?_
        rintro e w' ⟨rfl, hw⟩
        obtain rfl := hw.symm
        go_wp2_with fail
        refine HHb.out.mono ?_
        rintro e w' ⟨rfl, hw⟩
        obtain rfl := hw.symm
        go_wp2
        go_roundg (q - k - 1)
        case measure => omega
        case rel => exact ⟨k + 1, by simp, by omega, rfl⟩
      · obtain rfl : k = q := by omega
        have HRo : Hid (Calls Tryd.prog 14 #[.int .i64 nv, .int .u64 bits] w4 (RowPost nv w4)) := row_any nv bits w4 (by omega)
        go_wp2_with fail
        refine HRo.out.mono ?_
        rintro e w5 ⟨gm, ms, rfl, hml, hmv, hmo, hb5⟩
        have hFull : Full (nv : Int) ms := ⟨by rw [hml], hmv⟩
        have HMs : Hid (w5.ownsRow w4.heap.size 43 1 (.slice (some ⟨gm, 0, none⟩) nv nv) nv (ms.map (Value.int .i8)) ∧ Below w4.heap.size w4 w5 ∧ Full (nv : Int) ms ∧ ms.length = nv) := ⟨hmo, hb5, hFull, hml⟩
        have d1 : w5.cell? ⟨w3.heap.size, 0, none⟩ = some (.int .i64 (nv : Int)) := blk_cell (H4.out w5 hb5).2.1 0
        have d2 : w5.cell? ⟨w3.heap.size, 1, none⟩ = some (.slice ad3 k cap3) := blk_cell (H4.out w5 hb5).2.1 1
        have HUg : Hid (Calls Tryd.prog 15 #[.agg #[.int .i64 (nv : Int), .slice ad3 k cap3], .slice (some ⟨gm, 0, none⟩) nv nv] w5 fun e w' => ∃ p1 p2, e = .returned (.tuple #[.int .i8 (fVal ms TX), .int .i64 p1, .int .i64 p2]) ∧ Below w5.heap.size w5 w') := by
          have hu := under_any (nv : Int) ad3 (some ⟨gm, 0, none⟩) TX ms cap3 nv w5 (H4.out w5 hb5).2.2.1.cls (own_i8 hmo hml) (by rw [HL.out]; omega) (fun j hj => by have := HTl.out j (by rw [← HL.out]; exact hj); omega) (by omega)
          rw [HL.out, hml, (HVg.out ms hFull).1] at hu
          exact hu.mono fun e w' ⟨x1, x2⟩ => ⟨_, _, x1, x2⟩
        have hxv := (HVg.out ms hFull).2
        have hkey := HPr.out ms hFull
        have hf1 := full_put (v := v) hFull (Or.inl rfl : (1 : Int) = 1 ∨ (1 : Int) = -1)
        have hf2 := full_put (v := v) hFull (Or.inr rfl : (-1 : Int) = 1 ∨ (-1 : Int) = -1)
        have hyv := (HVf.out _ hf1).2
        have hzv := (HVf.out _ hf2).2
        have HF1 : Hid (Full (nv : Int) (put1 ms v 1) ∧ Full (nv : Int) (put1 ms v (-1))) := ⟨hf1, hf2⟩
        clear hml hmv hmo hb5 hFull hf1 hf2 c0 c1 c2
        obtain ⟨xx, hxx⟩ : ∃ x, x = fVal ms TX := ⟨_, rfl⟩
        rw [← hxx] at HUg hxv hkey
        obtain ⟨yy, hyy⟩ : ∃ x, x = fVal (put1 ms v 1) cs := ⟨_, rfl⟩
        obtain ⟨zz, hzz⟩ : ∃ x, x = fVal (put1 ms v (-1)) cs := ⟨_, rfl⟩
        rw [← hyy, ← hzz] at hkey
        rw [← hyy] at hyv
        rw [← hzz] at hzv
        have HYZ : Hid (yy = fVal (put1 ms v 1) cs ∧ zz = fVal (put1 ms v (-1)) cs) := ⟨hyy, hzz⟩
        have HK : Hid ((xx = 1 ↔ yy = 1 ∨ zz = 1) ∧ (xx = 1 ∨ xx = -1) ∧ (yy = 1 ∨ yy = -1) ∧ (zz = 1 ∨ zz = -1)) := ⟨hkey, hxv, hyv, hzv⟩
        clear hkey hxv hyv hzv hxx hyy hzz
        go_wp2_with fail
        refine HUg.out.mono ?_
        rintro e w6 ⟨p1, p2, rfl, hb6⟩
        have hm6 := row_below HMs.out.1 hb6
        have hbw6 : Below w4.heap.size w4 w6 := below_next HMs.out.2.1 hb6
        have hgm : w4.heap.size ≤ gm := (HMs.out.1.lt gm rfl).1
        have hpl : ∀ x, put1 ms v x = ms.set (v.toNat - 1) x := fun x => by unfold put1; congr 1; omega
        have hmlen := HMs.out.2.2.2
        have e1 := hm6.cellAt (v.toNat - 1) (by omega)
        rw [List.getElem?_map, List.getElem?_eq_getElem (by omega)] at e1
        generalize ms[v.toNat - 1]'(by omega) = mv0 at e1
        have e2 := hm6.frozenAt (v.toNat - 1)
        have s7 : (w6.setCell ⟨gm, v.toNat - 1, none⟩ (.int .i8 1)).ownsRow w4.heap.size 43 1 (.slice (some ⟨gm, 0, none⟩) nv nv) nv ((put1 ms v 1).map (Value.int .i8)) := by rw [hpl, List.map_set]; exact (hm6.stored (v.toNat - 1) _).1
        have b7 : Below w4.heap.size w4 (w6.setCell ⟨gm, v.toNat - 1, none⟩ (.int .i8 1)) := hbw6.setCell hgm _
        have f0 : (w6.setCell ⟨gm, v.toNat - 1, none⟩ (.int .i8 1)).cell? ⟨w.heap.size, 0, none⟩ = some (.int .i64 (nv : Int)) := blk_cell (H4.out _ b7).1 0
        have f1 : (w6.setCell ⟨gm, v.toNat - 1, none⟩ (.int .i8 1)).cell? ⟨w.heap.size, 1, none⟩ = some (.slice ad n c) := blk_cell (H4.out _ b7).1 1
        have hlp1 : (put1 ms v 1).length = nv := by unfold put1; rw [List.length_set]; exact hmlen
        have hlp2 : (put1 ms v (-1)).length = nv := by unfold put1; rw [List.length_set]; exact hmlen
        have HU1 : Hid (Calls Tryd.prog 15 #[.agg #[.int .i64 (nv : Int), .slice ad n c], .slice (some ⟨gm, 0, none⟩) nv nv] (w6.setCell ⟨gm, v.toNat - 1, none⟩ (.int .i8 1)) fun e w' => ∃ p1 p2, e = .returned (.tuple #[.int .i8 yy, .int .i64 p1, .int .i64 p2]) ∧ Below (w6.setCell ⟨gm, v.toNat - 1, none⟩ (.int .i8 1)).heap.size (w6.setCell ⟨gm, v.toNat - 1, none⟩ (.int .i8 1)) w') := by
          have hu := HUf.out _ (put1 ms v 1) (some ⟨gm, 0, none⟩) nv (H4.out _ b7).2.2.2 (own_i8 s7 hlp1) (by omega)
          rw [hlp1, (HVf.out _ HF1.out.1).1, ← HYZ.out.1] at hu
          exact hu.mono fun e w' ⟨x1, x2⟩ => ⟨_, _, x1, x2⟩
        have H7 : Hid ((w6.setCell ⟨gm, v.toNat - 1, none⟩ (.int .i8 1)).ownsRow w4.heap.size 43 1 (.slice (some ⟨gm, 0, none⟩) nv nv) nv ((put1 ms v 1).map (Value.int .i8)) ∧ Below w4.heap.size w4 (w6.setCell ⟨gm, v.toNat - 1, none⟩ (.int .i8 1))) := ⟨s7, b7⟩
        have HLp : Hid ((put1 ms v 1).length = nv ∧ (put1 ms v (-1)).length = nv ∧ (put1 ms v 1).set (v.toNat - 1) (-1) = put1 ms v (-1)) := ⟨hlp1, hlp2, by rw [hpl, hpl, List.set_set]⟩
        have hvp : (v - 1) < (nv : Int) := by omega
        have hvq : 0 ≤ v - 1 := by omega
        clear hb6 hm6 hbw6 s7 b7 hpl hlp1 hlp2 d1 d2
        go_wp2_with fail
        generalize w6.setCell ⟨gm, v.toNat - 1, none⟩ (.int .i8 1) = w7 at *
        refine HU1.out.mono ?_
        rintro e w8 ⟨p3, p4, rfl, hb8⟩
        have hm8 := row_below H7.out.1 hb8
        have hbw8 : Below w4.heap.size w4 w8 := below_next H7.out.2 hb8
        have g1 := hm8.cellAt (v.toNat - 1) (by omega)
        rw [List.getElem?_map, List.getElem?_eq_getElem (by have := HLp.out.1; omega)] at g1
        generalize (put1 ms v 1)[v.toNat - 1]'(by have := HLp.out.1; omega) = mv1 at g1
        have g2 := hm8.frozenAt (v.toNat - 1)
        have s9 : (w8.setCell ⟨gm, v.toNat - 1, none⟩ (.int .i8 (-1))).ownsRow w4.heap.size 43 1 (.slice (some ⟨gm, 0, none⟩) nv nv) nv ((put1 ms v (-1)).map (Value.int .i8)) := by rw [← HLp.out.2.2, List.map_set]; exact (hm8.stored (v.toNat - 1) _).1
        have b9 : Below w4.heap.size w4 (w8.setCell ⟨gm, v.toNat - 1, none⟩ (.int .i8 (-1))) := hbw8.setCell hgm _
        have h0 : (w8.setCell ⟨gm, v.toNat - 1, none⟩ (.int .i8 (-1))).cell? ⟨w.heap.size, 0, none⟩ = some (.int .i64 (nv : Int)) := blk_cell (H4.out _ b9).1 0
        have h1 : (w8.setCell ⟨gm, v.toNat - 1, none⟩ (.int .i8 (-1))).cell? ⟨w.heap.size, 1, none⟩ = some (.slice ad n c) := blk_cell (H4.out _ b9).1 1
        have HU2 : Hid (Calls Tryd.prog 15 #[.agg #[.int .i64 (nv : Int), .slice ad n c], .slice (some ⟨gm, 0, none⟩) nv nv] (w8.setCell ⟨gm, v.toNat - 1, none⟩ (.int .i8 (-1))) fun e w' => ∃ p1 p2, e = .returned (.tuple #[.int .i8 zz, .int .i64 p1, .int .i64 p2]) ∧ Below w.heap.size w w') := by
          have hu := HUf.out _ (put1 ms v (-1)) (some ⟨gm, 0, none⟩) nv (H4.out _ b9).2.2.2 (own_i8 s9 HLp.out.2.1) (by have := HLp.out.2.1; omega)
          rw [HLp.out.2.1, (HVf.out _ HF1.out.2).1, ← HYZ.out.2] at hu
          exact hu.mono fun e w' ⟨x1, x2⟩ => ⟨_, _, x1, below_next (H4.out _ b9).2.2.2 x2⟩
        clear hb8 hm8 hbw8 s9 b9 f0 f1 e1 e2
        go_wp2_with fail
        refine HU2.out.mono ?_
        rintro e w10 ⟨p5, p6, rfl, hb10⟩
        obtain ⟨hk, hx, hy, hz⟩ := HK.out
        rcases hx with rfl | rfl <;> rcases hy with rfl | rfl <;> rcases hz with rfl | rfl <;> first
          | (exact absurd hk (by decide))
          | (clear hk HK HYZ HF1 HPr HVf HVg HU1 HU2 H7 HLp HMs HUf H4; go_wp2; go_ret; exact ⟨rfl, hb10⟩)
end Go.Proofs.YtokpjegiinggdaaDoor
