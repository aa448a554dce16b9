import Derived.Test.YtkomadlmonhlhaaTsE
namespace Go.Proofs.Ytkomadlmonhlhaa
open Go.ChangeShapes Go.WideShapes Go.ChangeAt Go.RowKit Go.Lib Go.Ag Go.WideMaps Go.Maps Go.ChangeMaps Go.Cn

set_option maxHeartbeats 8000000 in
set_option maxRecDepth 100000 in
theorem count_any (w : World) {aR : Option Addr} {ls : List Nat} {M : Nat} {cn : List Nat} {aG : Option Addr} {gs : List GT} (h : CM w aR ls M cn aG gs) (cR cG : Nat) {Mb : Nat} {f : Nat → Nat} (hm : MR w Mb (wdsN cn.length) f) :
    Calls Try.prog 55 #[.agg #[.slice aR ls.length cR, .map (some M), .slice aG gs.length cG], .slice (some ⟨Mb, 0, none⟩) (wdsN cn.length) (wdsN cn.length)] w fun e w' => e = .returned (.int .i64 ((clsN f cn ls gs).length : Int)) ∧ Below w.heap.size w w' := by
  obtain ⟨w1, hw1⟩ : ∃ w1, w.alloc (.cells #[.slice aR ls.length cR, .map (some M), .slice aG gs.length cG] 83) = w1 := ⟨_, rfl⟩
  have HB : Hid (Below w.heap.size w w1 ∧ w1.heap[w.heap.size]? = some (.cells #[.slice aR ls.length cR, .map (some M), .slice aG gs.length cG] 83 (0, 0))) := by
    rw [← hw1]; exact ⟨ag_bel1 _ _, heap_alloc_new _ _⟩
  have c0 : w1.cell? ⟨w.heap.size, 0, none⟩ = some (.slice aR ls.length cR) := ag_cell HB.out.2 0
  have c2 : w1.cell? ⟨w.heap.size, 2, none⟩ = some (.slice aG gs.length cG) := ag_cell HB.out.2 2
  have HC : Aside (CM w aR ls M cn aG gs) := h
  have hg1 := clG_few f gs
  have hr1 := clR_few cn ls
  have hgn := h.gn
  have hcn := h.c32
  have hrn := h.rn
  have HFN : Hid ((clsN f cn ls gs).length = (gs.flatMap (clG f)).length + (ls.flatMap (clR cn)).length) := by
    show _ = _
    unfold clsN
    rw [List.length_append]
  have HHas : Hid (∀ W (l : Int), Below w.heap.size w W → l ≠ 0 → -(cn.length : Int) ≤ l → l ≤ cn.length → Calls Try.prog 64 #[.slice (some ⟨Mb, 0, none⟩) (wdsN cn.length) (wdsN cn.length), .int .i64 l] W fun e w' => e = .returned (.bool (hasM f l)) ∧ Below W.heap.size W w') := fun W l hW h0 h1 h2 =>
    (has_any W (hm.keep (hW.block _ hm.inb)) _ cn.length (wdsN_ok _) (by omega) l h0 h1 h2).mono (by
      rintro e w' ⟨rfl, d, rfl⟩
      exact ⟨rfl, drw_bel _ _⟩)
  obtain ⟨n1, hn1⟩ : ∃ n1, gs.length = n1 := ⟨_, rfl⟩
  obtain ⟨n2, hn2⟩ : ∃ n2, ls.length = n2 := ⟨_, rfl⟩
  have HN1 : Hid (gs.length = n1) := hn1
  have HN2 : Hid (ls.length = n2) := hn2
  obtain ⟨F, hF⟩ : ∃ F, (clsN f cn ls gs).length = F := ⟨_, rfl⟩
  rw [hF] at HFN
  have hsz1 : w.heap.size < w1.heap.size := (Array.getElem?_eq_some_iff.1 HB.out.2).1
  have HB1 : Hid (Below w.heap.size w w1) := HB.out.1
  rw [hF]
  rw [hn1] at c2 hg1 hgn
  rw [hn2] at c0 hr1 hrn
  rw [hn1, hn2] at hw1
  rw [hn1, hn2]
  clear h hm hn1 hn2 hF
  generalize wdsN cn.length = q at *
  go_enter Try.func55, Try.ntmps55
  go_wp2_with fail
  try rw [hw1]
  go_loopg [5, 13] n1 (fun gk v5 v13 wr => ∃ k s : Nat, v5 = .int .i64 (s : Int) ∧ v13 = .int .i64 (k : Int) ∧ k + gk = n1 ∧ Aside (s = ((gs.take k).flatMap (clG f)).length) ∧ Aside (Below w1.heap.size w1 wr))
  case atStart => exact ⟨0, 0, rfl, rfl, by omega, by simp [Aside], Below.refl _ _⟩
  case round =>
    obtain ⟨k, s, rfl, rfl, hk, HS, HW⟩ := hrel
    by_cases hlt : k < n1
    · have q1 : (k : Int) < (n1 : Int) := by omega
      have hB : Below w.heap.size w wr := ag_next HB1.out HW.out
      obtain ⟨b, off, rfl, g0, g1, g2, hok⟩ := (HC.out.over hB).gcell (k := k) (by rw [HN1.out]; exact hlt)
      have HS2 := take_clG f gs k (by rw [HN1.out]; exact hlt)
      rw [← HS.out] at HS2
      have hsf : ((gs.take (k + 1)).flatMap (clG f)).length ≤ 3 * (k + 1) := Nat.le_trans (clG_few f _) (by rw [List.length_take]; omega)
      generalize gs.getD k (0, 0, 0) = g at *
      obtain ⟨gn, ga, gb⟩ := g
      obtain ⟨⟨o1, o2⟩, _, _⟩ := hok
      simp only [] at g0 g1 g2 HS2 o1 o2
      have HW2 : Hid (Below w.heap.size w (wr.alloc (.cells #[.int .i64 gn, .int .i64 ga, .int .i64 gb] 130)) ∧ Below w1.heap.size w1 (wr.alloc (.cells #[.int .i64 gn, .int .i64 ga, .int .i64 gb] 130)) ∧ (wr.alloc (.cells #[.int .i64 gn, .int .i64 ga, .int .i64 gb] 130)).heap[wr.heap.size]? = some (.cells #[.int .i64 gn, .int .i64 ga, .int .i64 gb] 130 (0, 0))) := ⟨hB.trans ((ag_bel1 _ _).mono hB.size), HW.out.trans ((ag_bel1 _ _).mono HW.out.size), heap_alloc_new _ _⟩
      clear HW HS
      go_wp2_with fail
      generalize wr.alloc (.cells #[.int .i64 gn, .int .i64 ga, .int .i64 gb] 130) = wb at *
      have f0 : wb.cell? ⟨wr.heap.size, 0, none⟩ = some (.int .i64 gn) := ag_cell HW2.out.2.2 0
      refine (HHas.out wb gn HW2.out.1 (by omega) (by omega) (by omega)).mono ?_
      rintro e wc ⟨rfl, hbc⟩
      have HW3 : Hid (Below w.heap.size w wc ∧ Below w1.heap.size w1 wc ∧ wc.heap[wr.heap.size]? = some (.cells #[.int .i64 gn, .int .i64 ga, .int .i64 gb] 130 (0, 0))) := ⟨HW2.out.1.trans (hbc.mono HW2.out.1.size), HW2.out.2.1.trans (hbc.mono HW2.out.2.1.size), (hbc.block _ (Array.getElem?_eq_some_iff.1 HW2.out.2.2).1).trans HW2.out.2.2⟩
      have f1 : wc.cell? ⟨wr.heap.size, 0, none⟩ = some (.int .i64 gn) := ag_cell HW3.out.2.2 0
      clear hbc HW2 f0
      have fin : ∀ (h1 h2 : Bool), hasM f gn = h1 → hasM f (-gn) = h2 → ((gs.take (k + 1)).flatMap (clG f)).length = s + ((if h1 = true then 2 else 0) + (if h2 = true then 1 else 0)) := fun h1 h2 e1 e2 => by rw [← e1, ← e2]; exact HS2
      have hsb : s ≤ 3 * (k + 1) := by omega
      cases hh1 : hasM f gn with
      | true =>
        go_wp2_with fail
        refine (HHas.out wc (-gn) HW3.out.1 (by omega) (by omega) (by omega)).mono ?_
        rintro e wd ⟨rfl, hbd⟩
        have HW4 : Aside (Below w1.heap.size w1 wd) := HW3.out.2.1.trans (hbd.mono HW3.out.2.1.size)
        clear hbd HW3 f1
        cases hh2 : hasM f (-gn) with
        | true =>
          have HS3 := fin true true hh1 hh2
          go_wp2_with fail
          go_roundg (gk - 1)
          case measure => omega
          case rel => exact ⟨k + 1, s + 3, by simp; omega, by simp, by omega, by rw [Aside, HS3]; rfl, HW4⟩
        | false =>
          have HS3 := fin true false hh1 hh2
          go_wp2_with fail
          go_roundg (gk - 1)
          case measure => omega
          case rel => exact ⟨k + 1, s + 2, by simp, by simp, by omega, by rw [Aside, HS3]; rfl, HW4⟩
      | false =>
        go_wp2_with fail
        refine (HHas.out wc (-gn) HW3.out.1 (by omega) (by omega) (by omega)).mono ?_
        rintro e wd ⟨rfl, hbd⟩
        have HW4 : Aside (Below w1.heap.size w1 wd) := HW3.out.2.1.trans (hbd.mono HW3.out.2.1.size)
        clear hbd HW3 f1
        cases hh2 : hasM f (-gn) with
        | true =>
          have HS3 := fin false true hh1 hh2
          go_wp2_with fail
          go_roundg (gk - 1)
          case measure => omega
          case rel => exact ⟨k + 1, s + 1, by simp, by simp, by omega, by rw [Aside, HS3]; rfl, HW4⟩
        | false =>
          have HS3 := fin false false hh1 hh2
          go_wp2_with fail
          go_roundg (gk - 1)
          case measure => omega
          case rel => exact ⟨k + 1, s, by simp, by simp, by omega, by rw [Aside, HS3]; rfl, HW4⟩
    · obtain rfl : k = n1 := by omega
      have q1 : ¬ (k : Int) < (k : Int) := by omega
      have HS9 : Hid (s = (gs.flatMap (clG f)).length) := by have := HS.out; rw [List.take_of_length_le (by rw [HN1.out]; exact Nat.le_refl _)] at this; exact this
      have hs9 : s ≤ 3 * k := by rw [HS9.out]; exact hg1
      have c0' : wr.cell? ⟨w.heap.size, 0, none⟩ = some (.slice aR n2 cR) := (HW.out.cell (p := ⟨w.heap.size, 0, none⟩) hsz1).trans c0
      have HW9 : Hid (Below w1.heap.size w1 wr) := HW.out
      clear HS HW c0 c2 HHas
      generalize wr = wA at *
      go_wp2_with fail
      go_loopg [5, 34] n2 (fun gk v5 v34 wr => ∃ j t : Nat, v5 = .int .i64 (t : Int) ∧ v34 = .int .i64 (j : Int) ∧ j + gk = n2 ∧ Aside (t = s + ((ls.take j).flatMap (clR cn)).length) ∧ wr = wA)
      case atStart => exact ⟨0, s, rfl, rfl, by omega, by simp [Aside], rfl⟩
      case round =>
        obtain ⟨j, t, rfl, rfl, hj, HT, rfl⟩ := hrel
        by_cases hlt : j < n2
        · have q2 : (j : Int) < (n2 : Int) := by omega
          have hB : Below w.heap.size w wr := ag_next HB1.out HW9.out
          obtain ⟨b, off, rfl, hbb, hcc⟩ := (HC.out.over hB).r (by rw [HN2.out]; omega)
          have hc := hcc j (by rw [HN2.out]; exact hlt)
          have HT2 := take_clR cn ls j (by rw [HN2.out]; exact hlt)
          have htf : ((ls.take j).flatMap (clR cn)).length ≤ j := Nat.le_trans (clR_few cn _) (by rw [List.length_take]; omega)
          have htt : t ≤ 3 * k + j := by rw [HT.out]; omega
          clear hcc
          generalize ls.getD j 0 = l at *
          by_cases e : l = 1
          · subst e
            rw [if_pos rfl, Nat.add_zero] at HT2
            go_wp2_with fail
            go_roundg (gk - 1)
            case measure => omega
            case rel => exact ⟨j + 1, t, rfl, by simp, by omega, by rw [Aside, HT2]; exact HT.out, rfl⟩
          · rw [if_neg e] at HT2
            have q3 : ((l : Int) == 1) = false := by simp; omega
            go_wp2_with fail
            go_roundg (gk - 1)
            case measure => omega
            case rel => exact ⟨j + 1, t + 1, by simp, by simp, by omega, by rw [Aside, HT2, HT.out]; omega, rfl⟩
        · obtain rfl : j = n2 := by omega
          have q2 : ¬ (j : Int) < (j : Int) := by omega
          have HF9 : Hid (t = F) := by
            have h1 := HT.out
            have h2 := HFN.out
            rw [List.take_of_length_le (by rw [HN2.out]; exact Nat.le_refl _), HS9.out] at h1
            show t = F
            omega
          have HZ : Hid (Below w.heap.size w wr) := ag_next HB1.out HW9.out
          clear HT
          go_wp2_with fail
          first | exact ⟨by rw [HF9.out], HZ.out⟩ | (go_ret; exact ⟨by rw [← HF9.out]; rfl, HZ.out⟩)
end Go.Proofs.Ytkomadlmonhlhaa
