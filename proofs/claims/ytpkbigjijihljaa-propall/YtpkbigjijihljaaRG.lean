import Derived.Test.YtpkbigjijihljaaRF
import Derived.Test.YtpkbigjijihljaaEU
namespace Go.Proofs.Ytpkbigjijihljaa
open Go.ChangeShapes Go.WideShapes Go.ChangeAt Go.RowKit
open Go.Pr
def raddE (R : RS) (xs : List Int) : Int := if xs.all (hasB R.n) = true then (if 65536 < xs.length then 22 else if 1048576 ≤ R.all.length ∨ 4194304 < R.lits + xs.length then 23 else 0) else 20
def raddS (R : RS) (xs : List Int) : RS := if raddE R xs = 0 then { R with all := R.all ++ [xs], lits := R.lits + xs.length } else R
theorem RM.wide {w w' : World} {r : Nat} {O : Nat → Prop} {R : RS} {pA pT : Value} {q : Nat → Value} (h : RM w r O R pA pT q) (hs : w.heap.size ≤ w'.heap.size) (hk : ∀ k, k < w.heap.size → w'.heap[k]? = w.heap[k]?) : RM w' r (fun k => O k ∨ (w.heap.size ≤ k ∧ k < w'.heap.size)) R pA pT q := by
  have h2 := h.kept hs (fun k hO => hk k (h.osz k hO))
  refine ⟨h2.blk, Or.inl h2.og, fun k hO => ?_, h2.rA, h2.rT, fun k hk => Or.inl (h2.oA k hk), fun k hk => Or.inl (h2.oT k hk), fun k hk => (h2.rq k hk).kept (fun _ h => Or.inl h) (fun _ _ _ => rfl)⟩
  rcases hO with hO | hO
  · exact h2.osz k hO
  · exact hO.2
theorem RQ_own {w : World} {O : Nat → Prop} {b k cap : Nat} {xs : List Int} (h : w.ownsRow 0 3 1 (.slice (some ⟨b, 0, none⟩) k cap) k (xs.map (Value.int .i64))) (hO : O b) (hk : xs.length = k) : RQ w O (.slice (some ⟨b, 0, none⟩) k cap) xs := by
  refine ⟨_, cap, by rw [hk], fun _ => ?_⟩
  have h1 := h
  rcases h.2 with ⟨e, _⟩ | ⟨g', cap', cur, e, _, hb, _⟩
  · cases e
  · cases e
    refine ⟨b, 0, cur, rfl, hO, hb, fun j hj => ?_⟩
    rw [Nat.zero_add, h1.cellAt j (by omega), List.getElem?_map, List.getElem?_eq_getElem hj, getD_of _ _ _ hj]
    rfl
/-- a clause more -/
theorem RM.reA {w w1 : World} {r : Nat} {O : Nat → Prop} {R : RS} {pA pT : Value} {q : Nat → Value} (h : RM w r O R pA pT q) (hgr : w.grownBy w1 pA.ownBlock) (v vx : Value) (xs : List Int) (hr : w1.ownsRow 0 30 1 v (R.all.length + 1) ((List.range R.all.length).map q ++ [vx])) (hv : v.ownBlock = pA.ownBlock ∨ ∃ k, v.ownBlock = some k ∧ w.heap.size ≤ k ∧ k < w1.heap.size) (hx : RQ w O vx xs) :
    w1.heap[r]? = some (.cells (rcells R pA pT) 36 (0, 0)) ∧ ∃ O' q', RM (w1.setCell ⟨r, 3, none⟩ v) r O' { R with all := R.all ++ [xs] } v pT q' ∧ Fr O w (w1.setCell ⟨r, 3, none⟩ v) O' := by
  have hk1 : ∀ k, k < w.heap.size → some k ≠ pA.ownBlock → w1.heap[k]? = w.heap[k]? := fun k hk hne => hgr.block k hk hne
  have hb1 : w1.heap[r]? = some (.cells (rcells R pA pT) 36 (0, 0)) := (hk1 r (h.osz r h.og) (fun e => h.neA e.symm)).trans h.blk
  have hoth : ∀ k, k ≠ r → (w1.setCell ⟨r, 3, none⟩ v).heap[k]? = w1.heap[k]? := fun k hk => heap_setCell_other _ _ _ _ hk
  have hvr : v.ownBlock ≠ some r := row_ne_blk hr hb1 (by decide)
  have hsz := hgr.size
  have hTA := own_neq h.rT h.rA (by decide)
  have hrq : ∀ {u : Value} {c : List Int}, RQ w O u c → RQ (w1.setCell ⟨r, 3, none⟩ v) (fun k => O k ∨ (w.heap.size ≤ k ∧ k < w1.heap.size)) u c := fun hq => by
    refine hq.kept (fun _ h => Or.inl h) (fun k hO hcs => (hoth k (fun e => ?_)).trans (hk1 k (h.osz k hO) (fun e => ?_)))
    · obtain ⟨cs, hcs⟩ := hcs
      rw [e, h.blk] at hcs
      injection hcs with hcs
      injection hcs with _ h2 _
      exact absurd h2 (by decide)
    · obtain ⟨cs, hcs⟩ := hcs
      exact row_ne_blk h.rA hcs (by decide) e.symm
  refine ⟨hb1, fun k => O k ∨ (w.heap.size ≤ k ∧ k < w1.heap.size), fun k => if k = R.all.length then vx else q k, ⟨?_, Or.inl h.og, fun k hk => ?_, ?_, ?_, fun k hk => ?_, fun k hk => Or.inl (h.oT k hk), fun k hk => ?_⟩, hgr.os, hgr.tape, hgr.output, by simp; omega, fun k hk hO => ?_, fun k hk => ?_⟩
  · rw [heap_setCell_same _ r 3 _ _ _ hb1]
    rfl
  · rcases hk with hk | hk
    · have := h.osz k hk; simp; omega
    · simp; omega
  · have el : ({ R with all := R.all ++ [xs] } : RS).all.length = R.all.length + 1 := by show (R.all ++ [xs]).length = _; simp
    have eL : (List.range (R.all.length + 1)).map (fun k => if k = R.all.length then vx else q k) = (List.range R.all.length).map q ++ [vx] := by
      rw [List.range_succ, List.map_append]
      congr 1
      · refine List.map_congr_left fun k hk => ?_
        have := List.mem_range.1 hk
        rw [if_neg (by omega)]
      · simp
    rw [el, eL]
    exact ownsRow_same hr (fun k hk => hoth k (fun e => hvr (by rw [hk, e])))
  · refine ownsRow_same h.rT (fun k hk => (hoth k (fun e => h.neT (by rw [hk, e]))).trans (hk1 k (h.osz k (h.oT k hk)) (fun e => ?_)))
    rcases hTA with h5 | h5
    · rw [hk] at h5; cases h5
    · exact h5 (by rw [hk, e])
  · rcases hv with hv | ⟨k2, hv, h3⟩
    · exact Or.inl (h.oA k (by rw [← hv]; exact hk))
    · rw [hv] at hk
      cases hk
      exact Or.inr h3
  · have hk' : k < R.all.length + 1 := by have e : (R.all ++ [xs]).length = R.all.length + 1 := by simp
                                          rw [← e]; exact hk
    by_cases e : k = R.all.length
    · subst e
      rw [if_pos rfl]
      have e2 : (R.all ++ [xs]).getD R.all.length [] = xs := by rw [List.getD_eq_getElem?_getD]; simp
      show RQ _ _ vx ((R.all ++ [xs]).getD R.all.length [])
      rw [e2]
      exact hrq hx
    · rw [if_neg e]
      have e2 : (R.all ++ [xs]).getD k [] = R.all.getD k [] := by rw [List.getD_eq_getElem?_getD, List.getElem?_append_left (by omega), ← List.getD_eq_getElem?_getD]
      show RQ _ _ (q k) ((R.all ++ [xs]).getD k [])
      rw [e2]
      exact hrq (h.rq k (by omega))
  · exact (hoth k (fun e => hO (by rw [e]; exact h.og))).trans (hk1 k hk (fun e => hO (h.oA k e.symm)))
  · rcases hk with hk | hk
    · exact Or.inl hk
    · exact Or.inr hk.1
set_option maxHeartbeats 4000000 in
set_option maxRecDepth 20000 in
theorem radd_mem {w : World} {r : Nat} {O : Nat → Prop} {R : RS} {pA pT : Value} {q : Nat → Value} (h : RM w r O R pA pT q) (hw : RW R) {ad : Option Addr} {cp : Nat} {xs : List Int} (hx : RdI w O ad xs) (hxl : xs.length ≤ 17592186044416) :
    Calls Try.prog 24 #[.pointer (some ⟨r, 0, none⟩), .slice ad xs.length cp] w fun e w' => e = .returned (.int .i64 (raddE R xs)) ∧ RDone w r O (raddS R xs) w' := by
  have hnn := hw.n
  have hall' := hw.alll
  have hlit := hw.lits
  have HH : Hid (∀ l : Int, Calls Try.prog 46 #[.pointer (some ⟨r, 0, none⟩), .int .i64 l] w fun e w' => e = .returned (.bool (hasB R.n l)) ∧ w' = w) := fun l => rmay_mem h hw.n l
  generalize hPP : (fun (e : Ending) (w' : World) => e = .returned (.int .i64 (raddE R xs)) ∧ RDone w r O (raddS R xs) w') = PP
  have HPP : Hid (∀ w', RDone w r O (raddS R xs) w' → PP (.returned (.int .i64 (raddE R xs))) w') := fun w' h => by rw [← hPP]; exact ⟨rfl, h⟩
  have HM : Hid (RM w r O R pA pT q) := h
  have HRd : Hid (RdI w O ad xs) := hx
  clear hPP h hw hx
  obtain ⟨k, hk⟩ : ∃ k, xs.length = k := ⟨_, rfl⟩
  have HK : Hid (xs.length = k) := hk
  rw [hk] at hxl ⊢
  clear hk
  go_enter Try.func24, Try.ntmps24
  go_wp2_with fail
  go_loopg [5] k (fun gk s5 wr => ∃ i : Nat, s5 = .int .i64 (i : Int) ∧ i + gk = k ∧ w = wr ∧ Aside (∀ j, j < i → hasB R.n (xs.getD j 0) = true))
  case atStart => exact ⟨0, rfl, by omega, rfl, fun j hj => absurd hj (by omega)⟩
  case round =>
    obtain ⟨i, rfl, hi, rfl, HA⟩ := hrel
    by_cases hlt : i < k
    · obtain ⟨b, o, rfl, hob, hbs, hcel⟩ := HRd.out (by rw [HK.out]; omega)
      have c0 := hcel i (by rw [HK.out]; exact hlt)
      have HHi := HH.out (xs.getD i 0)
      have HIn : Aside (xs.getD i 0 ∈ xs) := by show _ ∈ _; rw [List.getD_eq_getElem?_getD, List.getElem?_eq_getElem (by rw [HK.out]; exact hlt)]; exact List.getElem_mem _
      have q1 : (i : Int) < (k : Int) := by omega
      clear hcel
      cases hh : hasB R.n (xs.getD i 0) with
      | false =>
        have e0 : raddE R xs = 20 := by
          unfold raddE
          rw [if_neg]
          intro h5
          have h6 := List.all_eq_true.1 h5 _ HIn.out
          rw [hh] at h6
          cases h6
        have eS : raddS R xs = R := by unfold raddS; rw [e0]; rfl
        have HP2 : Hid (RDone w r O R w → PP (.returned (.int .i64 20)) w) := fun h => by have := HPP.out w (by rw [eS]; exact h); rw [e0] at this; exact this
        have HD : Hid (RDone w r O R w) := HM.out.done
        have HHj : Hid (Calls Try.prog 46 #[.pointer (some ⟨r, 0, none⟩), .int .i64 (xs.getD i 0)] w fun e w' => e = .returned (.bool false) ∧ w' = w) := by rw [← hh]; exact HHi
        clear HHi hh e0 eS
        generalize xs.getD i 0 = x at *
        go_wp2_with fail
        refine HHj.out.mono ?_
        rintro e w' ⟨rfl, hw'⟩
        obtain rfl := hw'.symm
        go_wp2
        exact HP2.out HD.out
      | true =>
        have HN : Aside (∀ j, j < i + 1 → hasB R.n (xs.getD j 0) = true) := fun j hj => by
          by_cases e : j = i
          · rw [e]; exact hh
          · exact HA.out j (by omega)
        have HHj : Hid (Calls Try.prog 46 #[.pointer (some ⟨r, 0, none⟩), .int .i64 (xs.getD i 0)] w fun e w' => e = .returned (.bool true) ∧ w' = w) := by rw [← hh]; exact HHi
        clear HHi hh
        generalize xs.getD i 0 = x at c0 HHj ⊢
        go_wp2_with fail
        refine HHj.out.mono ?_
        rintro e w' ⟨rfl, hw'⟩
        obtain rfl := hw'.symm
        go_wp2
        go_roundg (gk - 1)
        case measure => omega
        case rel => exact ⟨i + 1, by simp, by omega, rfl, HN⟩
    · have hik : i = k := by omega
      subst hik
      have hall : xs.all (hasB R.n) = true := by
        rw [List.all_eq_true]
        intro x hx
        obtain ⟨j, hj, rfl⟩ := List.getElem_of_mem hx
        have h5 := HA.out j (by rw [← HK.out]; exact hj)
        rw [getD_of _ _ _ hj] at h5
        exact h5
      obtain ⟨aA, cA, eA, hcA, _⟩ := HM.out.formA
      have k3 : w.cell? ⟨r, 3, none⟩ = some (.slice aA R.all.length cA) := (HM.out.cell 3).trans (congrArg some eA)
      have k2 : w.cell? ⟨r, 2, none⟩ = some (.int .i64 (R.lits : Int)) := HM.out.cell 2
      by_cases h1 : 65536 < i
      · have e0 : raddE R xs = 22 := by unfold raddE; rw [if_pos hall, if_pos (by rw [HK.out]; exact h1)]
        have eS : raddS R xs = R := by unfold raddS; rw [e0]; rfl
        rw [e0, eS] at HPP
        have HD : Hid (RDone w r O R w) := HM.out.done
        have q1 : (65536 : Int) < (i : Int) := by omega
        clear hall e0 eS
        go_wp2
        exact HPP.out _ HD.out
      · have q1 : ¬ (65536 : Int) < (i : Int) := by omega
        by_cases h2 : 1048576 ≤ R.all.length ∨ 4194304 < R.lits + i
        · have e0 : raddE R xs = 23 := by unfold raddE; rw [if_pos hall, if_neg (by rw [HK.out]; exact h1), if_pos (by rw [HK.out]; exact h2)]
          have eS : raddS R xs = R := by unfold raddS; rw [e0]; rfl
          rw [e0, eS] at HPP
          have HD : Hid (∀ n, RDone w r O R (w.drewN n)) := fun n => HM.out.done.drewN
          clear hall e0 eS
          by_cases h3 : 1048576 ≤ R.all.length
          · have q2 : (1048576 : Int) ≤ (R.all.length : Int) := by omega
            go_wp2_with fail
            first
            | exact HPP.out _ (HD.out 0)
            | (go_quiet (fail); go_wp2; exact HPP.out _ (HD.out _))
          · have q2 : ¬ (1048576 : Int) ≤ (R.all.length : Int) := by omega
            have q3 : (4194304 : Int) < (R.lits : Int) + (i : Int) := by omega
            go_wp2_with fail
            first
            | exact HPP.out _ (HD.out 0)
            | (go_quiet (fail); go_wp2; exact HPP.out _ (HD.out _))
        · have e0 : raddE R xs = 0 := by unfold raddE; rw [if_pos hall, if_neg (by rw [HK.out]; exact h1), if_neg (by rw [HK.out]; exact h2)]
          have eS : raddS R xs = { R with all := R.all ++ [xs], lits := R.lits + i } := by unfold raddS; rw [if_pos e0, HK.out]
          rw [e0, eS] at HPP
          have q2 : ¬ (1048576 : Int) ≤ (R.all.length : Int) := by omega
          have q3 : ¬ (4194304 : Int) < (R.lits : Int) + (i : Int) := by omega
          clear hall e0 eS HA HH
          have HEA : Hid (pA = .slice aA R.all.length cA) := eA
          obtain ⟨i0, hi0, hz0, hz1, hz2⟩ := info_parts (P := Try.prog) (e := 3) (z := .int .i64 0) (size := 1) (bytes := 8) (by kernel_rfl)
          obtain ⟨j0, hj0, hy0, hy1, hy2⟩ := info_parts (P := Try.prog) (e := 30) (z := .slice none 0 0) (size := 1) (bytes := 24) (by kernel_rfl)
          have HREST : Hid (∀ W O2 pA2 q2, RM W r O2 { R with all := R.all ++ [xs] } pA2 pT q2 → Fr O w W O2 → (W.cell? ⟨r, 2, none⟩ = some (.int .i64 (R.lits : Int)) ∧ W.frozen? ⟨r, 2, none⟩ = false) ∧ RDone w r O { R with all := R.all ++ [xs], lits := R.lits + i } (W.setCell ⟨r, 2, none⟩ (.int .i64 ((R.lits : Int) + (i : Int))))) := fun W O2 pA2 q2 m f => by
            obtain ⟨m2, f2⟩ := m.setr (R' := { R with all := R.all ++ [xs], lits := R.lits + i }) 2 (.int .i64 ((R.lits : Int) + (i : Int))) (by show (rcells { R with all := R.all ++ [xs] } pA2 pT).set! 2 _ = #[_, _, .int .i64 ((R.lits + i : Nat) : Int), _, _, _]; rw [show ((R.lits + i : Nat) : Int) = (R.lits : Int) + (i : Int) by omega]; rfl) rfl rfl
            exact ⟨⟨m.cell 2, m.frozen 2⟩, O2, _, _, _, m2, f.trans f2⟩
          by_cases hk0 : i = 0
          · subst hk0
            have hx0 : xs = [] := List.eq_nil_of_length_eq_zero HK.out
            have hwd := HM.out.wide (w' := w.alloc (.cells #[] 3)) (by simp) (fun k hk => Below.heap_alloc _ _ k hk)
            have HFIN0 : Hid (∀ g6 cap6 (w6 : World), w6.ownsRow 0 30 1 (.slice (some ⟨g6, 0, none⟩) (R.all.length + 1) cap6) (R.all.length + 1) ((List.range R.all.length).map q ++ [.slice (some ⟨w.heap.size, 0, none⟩) 0 0]) → ((w.alloc (.cells #[] 3)).alloc (.cells #[.slice (some ⟨w.heap.size, 0, none⟩) 0 0] 30)).grownBy w6 (Value.ownBlock (.slice aA R.all.length cA)) → ((Value.slice aA R.all.length cA).ownBlock = some g6 ∨ g6 = (w.alloc (.cells #[] 3)).heap.size + 1) → g6 < w6.heap.size → w6.heap[r]? = some (.cells (rcells R pA pT) 36 (0, 0)) ∧ ∃ O2 q2, RM (w6.setCell ⟨r, 3, none⟩ (.slice (some ⟨g6, 0, none⟩) (R.all.length + 1) cap6)) r O2 { R with all := R.all ++ [xs] } (.slice (some ⟨g6, 0, none⟩) (R.all.length + 1) cap6) pT q2 ∧ Fr O w (w6.setCell ⟨r, 3, none⟩ (.slice (some ⟨g6, 0, none⟩) (R.all.length + 1) cap6)) O2) := fun g6 cap6 w6 h1 h2 h3 h4 => by
              obtain ⟨hb, O2, q2, m2, f2⟩ := (hwd.alloc (.cells #[.slice (some ⟨w.heap.size, 0, none⟩) 0 0] 30)).reA (w1 := w6) (by rw [HEA.out]; exact h2) (.slice (some ⟨g6, 0, none⟩) (R.all.length + 1) cap6) (.slice (some ⟨w.heap.size, 0, none⟩) 0 0) xs h1 (by
                rw [HEA.out]
                rcases h3 with e | e
                · exact Or.inl e.symm
                · exact Or.inr ⟨g6, rfl, by rw [e]; simp, h4⟩) ⟨_, _, by rw [hx0]; rfl, fun h => absurd h (by rw [hx0]; simp)⟩
              refine ⟨hb, O2, q2, m2, ?_⟩
              have hf : Fr O w (w.alloc (.cells #[] 3)) (fun k => O k ∨ (w.heap.size ≤ k ∧ k < (w.alloc (.cells #[] 3)).heap.size)) := ⟨rfl, rfl, rfl, by simp, fun k hk _ => Below.heap_alloc _ _ k hk, fun k hk => hk.imp id (fun h => h.1)⟩
              exact (Fr.alloc hf _).trans f2
            have HRA0 : Hid (∀ ob, ((w.alloc (.cells #[] 3)).alloc ob).ownsRow 0 30 1 (.slice aA R.all.length cA) R.all.length ((List.range R.all.length).map q)) := fun ob => by
              have h5 := (hwd.alloc ob).rA
              rw [HEA.out] at h5
              exact h5
            have k3a : ∀ ob, (w.alloc ob).cell? ⟨r, 3, none⟩ = some (.slice aA R.all.length cA) := fun ob => ((HM.out.alloc ob).cell 3).trans (congrArg some HEA.out)
            have k3b : ∀ ob ob2, ((w.alloc ob).alloc ob2).cell? ⟨r, 3, none⟩ = some (.slice aA R.all.length cA) := fun ob ob2 => (((HM.out.alloc ob).alloc ob2).cell 3).trans (congrArg some HEA.out)
            have HNB : Hid (∀ ob, ((w.alloc (.cells #[] 3)).alloc ob).heap[w.heap.size + 1]? = some ob) := fun ob => by
              have h5 := heap_alloc_new (w.alloc (.cells #[] 3)) ob
              rw [show (w.alloc (.cells #[] 3)).heap.size = w.heap.size + 1 by simp] at h5
              exact h5
            clear hwd hx0 HRd
            cases ad with
            | none =>
              go_wp2_with fail
              first | (go_region_law (first
                | (refine step_append_lies _ (by rfl) _ _ _ (by rfl) 0 30 j0 _ 1 24 Try.underlying33 hj0 hy0 hy1 hy2 rfl (by omega) (.slice aA R.all.length cA) R.all.length ((List.range R.all.length).map q) (by rfl) ((HRA0.out _).drew) ⟨w.heap.size + 1, 0, none⟩ 1 1 [.slice (some ⟨w.heap.size, 0, none⟩) 0 0] (by rfl) (by rfl) (World.news_of_block (cs := #[.slice (some ⟨w.heap.size, 0, none⟩) 0 0]) (t := 30) (fr := (0, 0)) (HNB.out _)) (by intro u hu; simp at hu; subst hu; rfl) (by omega) (by unfold maxLen; omega) (by omega) (by omega) ((w.alloc (.cells #[] 3)).heap.size + 1) (by simp) ?_; intro g6 cap6 w6 hown6 hgrow6 hat6 hlt6; have HK7 : Hid (w6.heap[r]? = some (.cells (rcells R pA pT) 36 (0, 0)) ∧ ∃ O2 q2, RM (w6.setCell ⟨r, 3, none⟩ (.slice (some ⟨g6, 0, none⟩) (R.all.length + 1) cap6)) r O2 { R with all := R.all ++ [xs] } (.slice (some ⟨g6, 0, none⟩) (R.all.length + 1) cap6) pT q2 ∧ Fr O w (w6.setCell ⟨r, 3, none⟩ (.slice (some ⟨g6, 0, none⟩) (R.all.length + 1) cap6)) O2) := (HFIN0.out g6 cap6 w6 hown6 ⟨hgrow6.os, hgrow6.tape, hgrow6.output, hgrow6.size, hgrow6.block⟩ hat6 hlt6); have e3 : w6.cell? ⟨r, 3, none⟩ = some (.slice aA R.all.length cA) := ((blk_cell HK7.out.1 3).trans (congrArg some HEA.out)); have f3 : w6.frozen? ⟨r, 3, none⟩ = false := (by simp [World.frozen?, HK7.out.1]); clear hown6 hgrow6 hat6 hlt6))) | fail
              all_goals
                obtain ⟨_, O2, q2, m7, f7⟩ := HK7.out
                obtain ⟨⟨z2, y2⟩, hD⟩ := HREST.out _ _ _ _ m7 f7
                have HD : Hid (RDone w r O { R with all := R.all ++ [xs], lits := R.lits + 0 } ((w6.setCell ⟨r, 3, none⟩ (.slice (some ⟨g6, 0, none⟩) (R.all.length + 1) cap6)).setCell ⟨r, 2, none⟩ (.int .i64 ((R.lits : Int) + ((0 : Nat) : Int))))) := hD
                clear m7 f7 hD HK7
                go_wp2
                exact HPP.out _ HD.out
            | some a0 =>
              go_wp2_with fail
              first | (go_region_law (first
                | (refine step_append_lies _ (by rfl) _ _ _ (by rfl) 0 30 j0 _ 1 24 Try.underlying33 hj0 hy0 hy1 hy2 rfl (by omega) (.slice aA R.all.length cA) R.all.length ((List.range R.all.length).map q) (by rfl) ((HRA0.out _).drew) ⟨w.heap.size + 1, 0, none⟩ 1 1 [.slice (some ⟨w.heap.size, 0, none⟩) 0 0] (by rfl) (by rfl) (World.news_of_block (cs := #[.slice (some ⟨w.heap.size, 0, none⟩) 0 0]) (t := 30) (fr := (0, 0)) (HNB.out _)) (by intro u hu; simp at hu; subst hu; rfl) (by omega) (by unfold maxLen; omega) (by omega) (by omega) ((w.alloc (.cells #[] 3)).heap.size + 1) (by simp) ?_; intro g6 cap6 w6 hown6 hgrow6 hat6 hlt6; have HK7 : Hid (w6.heap[r]? = some (.cells (rcells R pA pT) 36 (0, 0)) ∧ ∃ O2 q2, RM (w6.setCell ⟨r, 3, none⟩ (.slice (some ⟨g6, 0, none⟩) (R.all.length + 1) cap6)) r O2 { R with all := R.all ++ [xs] } (.slice (some ⟨g6, 0, none⟩) (R.all.length + 1) cap6) pT q2 ∧ Fr O w (w6.setCell ⟨r, 3, none⟩ (.slice (some ⟨g6, 0, none⟩) (R.all.length + 1) cap6)) O2) := (HFIN0.out g6 cap6 w6 hown6 ⟨hgrow6.os, hgrow6.tape, hgrow6.output, hgrow6.size, hgrow6.block⟩ hat6 hlt6); have e3 : w6.cell? ⟨r, 3, none⟩ = some (.slice aA R.all.length cA) := ((blk_cell HK7.out.1 3).trans (congrArg some HEA.out)); have f3 : w6.frozen? ⟨r, 3, none⟩ = false := (by simp [World.frozen?, HK7.out.1]); clear hown6 hgrow6 hat6 hlt6))) | fail
              all_goals
                obtain ⟨_, O2, q2, m7, f7⟩ := HK7.out
                obtain ⟨⟨z2, y2⟩, hD⟩ := HREST.out _ _ _ _ m7 f7
                have HD : Hid (RDone w r O { R with all := R.all ++ [xs], lits := R.lits + 0 } ((w6.setCell ⟨r, 3, none⟩ (.slice (some ⟨g6, 0, none⟩) (R.all.length + 1) cap6)).setCell ⟨r, 2, none⟩ (.int .i64 ((R.lits : Int) + ((0 : Nat) : Int))))) := hD
                clear m7 f7 hD HK7
                go_wp2
                exact HPP.out _ HD.out
          · obtain ⟨b, o, rfl, hob, hbs, hcel⟩ := HRd.out (by rw [HK.out]; omega)
            have HNW : Hid (∀ j u, (xs.map (Value.int .i64))[j]? = some u → (w.alloc (.cells #[] 3)).drew.cell? ((⟨b, o, none⟩ : Addr).add j) = some u) := fun j u hj => by
              rw [Addr.add_lit]
              rw [List.getElem?_map] at hj
              by_cases hjl : j < xs.length
              · rw [List.getElem?_eq_getElem hjl] at hj
                have h5 := hcel j hjl
                rw [getD_of _ _ _ hjl] at h5
                have hj' : Value.int .i64 xs[j] = u := Option.some.inj hj
                rw [← hj']
                exact (World.cell?_of_block (w' := w.alloc (.cells #[] 3)) (a := ⟨b, o + j, none⟩) (Below.heap_alloc _ _ b hbs)).trans h5
              · rw [List.getElem?_eq_none (by omega)] at hj
                exact absurd hj (by simp)
            have HLit : Hid ((w.alloc (.cells #[] 3)).drew.ownsRow 0 3 1 (.slice (some ⟨w.heap.size, 0, none⟩) 0 0) 0 []) := World.ownsRow_lit w #[] 0 (Nat.zero_le _) (by unfold maxLen; omega) rfl
            have HML : Hid ((xs.map (Value.int .i64)).length = i * 1) := by show _ = _; rw [List.length_map, HK.out]; omega
            have HONE : Hid (∀ u ∈ xs.map (Value.int .i64), u.oneCell' = true) := fun u hu => by obtain ⟨x, _, rfl⟩ := List.mem_map.1 hu; rfl
            -- behind the inner append
            have HMID : Hid (∀ g4 cap4 (w4 : World), w4.ownsRow 0 3 1 (.slice (some ⟨g4, 0, none⟩) (0 + i) cap4) (0 + i) ([] ++ xs.map (Value.int .i64)) → (w.alloc (.cells #[] 3)).drew.grownBy w4 (some w.heap.size) → (some w.heap.size = some g4 ∨ g4 = w.heap.size + 1) → g4 < w4.heap.size → (w.heap.size ≤ w4.heap.size ∧ (∀ k, k < w.heap.size → w4.heap[k]? = w.heap[k]?)) ∧ RM w4 r (fun k => O k ∨ (w.heap.size ≤ k ∧ k < w4.heap.size)) R pA pT q ∧ Fr O w w4 (fun k => O k ∨ (w.heap.size ≤ k ∧ k < w4.heap.size)) ∧ RQ w4 (fun k => O k ∨ (w.heap.size ≤ k ∧ k < w4.heap.size)) (.slice (some ⟨g4, 0, none⟩) i cap4) xs) := fun g4 cap4 w4 h1 h2 h3 h4 => by
              have hsz : w.heap.size ≤ w4.heap.size := by have := h2.size; simp at this; omega
              have hk4 : ∀ k, k < w.heap.size → w4.heap[k]? = w.heap[k]? := fun k hk => (h2.block k (by simp; omega) (fun e => by injection e with e; omega)).trans (Below.heap_alloc _ _ k hk)
              refine ⟨⟨hsz, hk4⟩, HM.out.wide hsz hk4, ⟨h2.os, h2.tape, h2.output, hsz, fun k hk _ => hk4 k hk, fun k hk => hk.imp id (fun h => h.1)⟩, RQ_own ?_ (Or.inr ⟨?_, h4⟩) HK.out⟩
              · rw [Nat.zero_add, List.nil_append] at h1
                exact h1
              · rcases h3 with e | e
                · injection e with e; omega
                · omega
            have HFIN : Hid (∀ g4 cap4 (w4 : World), ((w.heap.size ≤ w4.heap.size ∧ (∀ k, k < w.heap.size → w4.heap[k]? = w.heap[k]?)) ∧ RM w4 r (fun k => O k ∨ (w.heap.size ≤ k ∧ k < w4.heap.size)) R pA pT q ∧ Fr O w w4 (fun k => O k ∨ (w.heap.size ≤ k ∧ k < w4.heap.size)) ∧ RQ w4 (fun k => O k ∨ (w.heap.size ≤ k ∧ k < w4.heap.size)) (.slice (some ⟨g4, 0, none⟩) i cap4) xs) → ∀ g6 cap6 (w6 : World), w6.ownsRow 0 30 1 (.slice (some ⟨g6, 0, none⟩) (R.all.length + 1) cap6) (R.all.length + 1) ((List.range R.all.length).map q ++ [.slice (some ⟨g4, 0, none⟩) i cap4]) → (w4.alloc (.cells #[.slice (some ⟨g4, 0, none⟩) i cap4] 30)).grownBy w6 (Value.ownBlock (.slice aA R.all.length cA)) → ((Value.slice aA R.all.length cA).ownBlock = some g6 ∨ g6 = w4.heap.size + 1) → g6 < w6.heap.size → w6.heap[r]? = some (.cells (rcells R pA pT) 36 (0, 0)) ∧ ∃ O2 q2, RM (w6.setCell ⟨r, 3, none⟩ (.slice (some ⟨g6, 0, none⟩) (R.all.length + 1) cap6)) r O2 { R with all := R.all ++ [xs] } (.slice (some ⟨g6, 0, none⟩) (R.all.length + 1) cap6) pT q2 ∧ Fr O w (w6.setCell ⟨r, 3, none⟩ (.slice (some ⟨g6, 0, none⟩) (R.all.length + 1) cap6)) O2) := fun g4 cap4 w4 hmid g6 cap6 w6 h1 h2 h3 h4 => by
              obtain ⟨_, hm, hf, hq⟩ := hmid
              obtain ⟨hb, O2, q2, m2, f2⟩ := (hm.alloc (.cells #[.slice (some ⟨g4, 0, none⟩) i cap4] 30)).reA (w1 := w6) (by rw [HEA.out]; exact h2) (.slice (some ⟨g6, 0, none⟩) (R.all.length + 1) cap6) (.slice (some ⟨g4, 0, none⟩) i cap4) xs h1 (by
                rw [HEA.out]
                rcases h3 with e | e
                · exact Or.inl e.symm
                · exact Or.inr ⟨g6, rfl, by rw [e]; simp, h4⟩) (hq.kept (fun _ h => h) (fun k hO _ => Below.heap_alloc _ _ k (hm.osz k hO)))
              exact ⟨hb, O2, q2, m2, (Fr.alloc hf _).trans f2⟩
            have HRA : Hid (∀ w4 ob, RM w4 r (fun k => O k ∨ (w.heap.size ≤ k ∧ k < w4.heap.size)) R pA pT q → (w4.alloc ob).ownsRow 0 30 1 (.slice aA R.all.length cA) R.all.length ((List.range R.all.length).map q)) := fun w4 ob m => by
              have h5 := (m.alloc ob).rA
              rw [HEA.out] at h5
              exact h5
            have HK3 : Hid (∀ w4, RM w4 r (fun k => O k ∨ (w.heap.size ≤ k ∧ k < w4.heap.size)) R pA pT q → w4.cell? ⟨r, 3, none⟩ = some (.slice aA R.all.length cA) ∧ ∀ ob, (w4.alloc ob).cell? ⟨r, 3, none⟩ = some (.slice aA R.all.length cA)) := fun w4 m => ⟨(m.cell 3).trans (congrArg some HEA.out), fun ob => ((m.alloc ob).cell 3).trans (congrArg some HEA.out)⟩
            have k3a : ∀ ob, (w.alloc ob).cell? ⟨r, 3, none⟩ = some (.slice aA R.all.length cA) := fun ob => ((HM.out.alloc ob).cell 3).trans (congrArg some HEA.out)
            clear hcel hob hbs
            go_wp2_with fail
            first | (go_region_law (first
              | (refine step_append_lies _ (by rfl) _ _ _ (by rfl) 0 3 i0 _ 1 8 Try.underlying30 hi0 hz0 hz1 hz2 rfl (by omega) (.slice (some ⟨w.heap.size, 0, none⟩) 0 0) 0 [] (by rfl) HLit.out ⟨b, o, none⟩ i cp (xs.map (Value.int .i64)) (by rfl) HML.out HNW.out HONE.out (by omega) (by unfold maxLen; omega) (by omega) (by omega) (w.heap.size + 1) (by simp) ?_; intro g4 cap4 w4 hown4 hgrow4 hat4 hlt4; have HMD := HMID.out g4 cap4 w4 hown4 hgrow4 hat4 hlt4; have HMD' : Hid ((w.heap.size ≤ w4.heap.size ∧ (∀ k, k < w.heap.size → w4.heap[k]? = w.heap[k]?)) ∧ RM w4 r (fun k => O k ∨ (w.heap.size ≤ k ∧ k < w4.heap.size)) R pA pT q ∧ Fr O w w4 (fun k => O k ∨ (w.heap.size ≤ k ∧ k < w4.heap.size)) ∧ RQ w4 (fun k => O k ∨ (w.heap.size ≤ k ∧ k < w4.heap.size)) (.slice (some ⟨g4, 0, none⟩) i cap4) xs) := HMD; have k34 := (HK3.out w4 HMD.2.1).1; have k34a := (HK3.out w4 HMD.2.1).2; clear hown4 hgrow4 hat4 hlt4 HMD)
              | (refine step_append_lies _ (by rfl) _ _ _ (by rfl) 0 30 j0 _ 1 24 Try.underlying33 hj0 hy0 hy1 hy2 rfl (by omega) (.slice aA R.all.length cA) R.all.length ((List.range R.all.length).map q) (by rfl) (HRA.out w4 _ HMD'.out.2.1) ⟨w4.heap.size, 0, none⟩ 1 1 [.slice (some ⟨g4, 0, none⟩) i cap4] (by rfl) (by rfl) (World.news_of_block (cs := #[.slice (some ⟨g4, 0, none⟩) i cap4]) (t := 30) (fr := (0, 0)) (heap_alloc_new w4 _)) (by intro u hu; simp at hu; subst hu; rfl) (by omega) (by unfold maxLen; omega) (by omega) (by omega) (w4.heap.size + 1) (by simp) ?_; intro g6 cap6 w6 hown6 hgrow6 hat6 hlt6; have HK7 : Hid (w6.heap[r]? = some (.cells (rcells R pA pT) 36 (0, 0)) ∧ ∃ O2 q2, RM (w6.setCell ⟨r, 3, none⟩ (.slice (some ⟨g6, 0, none⟩) (R.all.length + 1) cap6)) r O2 { R with all := R.all ++ [xs] } (.slice (some ⟨g6, 0, none⟩) (R.all.length + 1) cap6) pT q2 ∧ Fr O w (w6.setCell ⟨r, 3, none⟩ (.slice (some ⟨g6, 0, none⟩) (R.all.length + 1) cap6)) O2) := (HFIN.out g4 cap4 w4 HMD'.out g6 cap6 w6 hown6 ⟨hgrow6.os, hgrow6.tape, hgrow6.output, hgrow6.size, hgrow6.block⟩ hat6 hlt6); have e3 : w6.cell? ⟨r, 3, none⟩ = some (.slice aA R.all.length cA) := ((blk_cell HK7.out.1 3).trans (congrArg some HEA.out)); have f3 : w6.frozen? ⟨r, 3, none⟩ = false := (by simp [World.frozen?, HK7.out.1]); clear hown6 hgrow6 hat6 hlt6))) | fail
            all_goals
              obtain ⟨_, O2, q2, m7, f7⟩ := HK7.out
              obtain ⟨⟨z2, y2⟩, hD⟩ := HREST.out _ _ _ _ m7 f7
              have HD : Hid (RDone w r O { R with all := R.all ++ [xs], lits := R.lits + i } ((w6.setCell ⟨r, 3, none⟩ (.slice (some ⟨g6, 0, none⟩) (R.all.length + 1) cap6)).setCell ⟨r, 2, none⟩ (.int .i64 ((R.lits : Int) + (i : Int))))) := hD
              clear m7 f7 hD HK7
              go_wp2
              exact HPP.out _ HD.out
end Go.Proofs.Ytpkbigjijihljaa
