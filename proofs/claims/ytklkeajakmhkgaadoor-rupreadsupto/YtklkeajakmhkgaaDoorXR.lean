import Derived.Test.YtklkeajakmhkgaaDoorXQ
namespace Go.Proofs.YtklkeajakmhkgaaDoor
open Go.ChangeShapes Go.WideShapes Go.ChangeAt Go.RowKit Go.Lib

theorem rowO_cap {w : World} {base e n : Nat} {v : Value} {L : List Value} (h : w.ownsRow base e 1 v n L) : ∃ ad c, v = .slice ad n c ∧ n ≤ c := by
  rcases h.2 with ⟨e, h0⟩ | ⟨b, cap, cur, e, _, hb, hc, _⟩
  · exact ⟨none, 0, by rw [e, h0], by omega⟩
  · exact ⟨_, cap, e, hc⟩
theorem Strs.of {w : World} {B n c : Nat} {ad : Option Addr} {ws : List (List UInt8)} (h : w.ownsRow B 9 1 (.slice ad n c) ws.length (ws.map strV)) : Strs w ad ws := by
  intro h0
  obtain ⟨ad2, c2, e, hb⟩ := rowO_form h
  cases e
  obtain ⟨b, rfl, hlt⟩ := hb h0
  refine ⟨b, 0, rfl, hlt, fun j hj => ?_⟩
  rw [Nat.zero_add, h.cellAt j (by omega), List.getElem?_map, List.getElem?_eq_getElem hj, getD_of _ _ _ hj]
  rfl
theorem rowOf_line {l : List UInt8} (h0 : wordsOf l ≠ []) (h1 : (wordsOf l).headD [] ≠ [99]) : rowOf l = (lineGo (lnW (wordsOf l))).map (fun c => some (lnD (wordsOf l), c)) := by
  unfold rowOf
  cases hw : wordsOf l with
  | nil => exact absurd hw h0
  | cons a r =>
    rw [hw] at h1
    have h1' : a ≠ [99] := h1
    simp only
    rw [if_neg h1']
    by_cases h2 : a = [100]
    · have e1 : lnW (a :: r) = r := by
        unfold lnW
        rw [if_pos (show (a :: r).headD [] = [100] from h2)]
        rfl
      have e2 : lnD (a :: r) = true := decide_eq_true (p := (a :: r).headD [] = [100]) h2
      rw [if_pos h2, e1, e2]
    · have e1 : lnW (a :: r) = a :: r := by
        unfold lnW
        rw [if_neg (show ¬ (a :: r).headD [] = [100] from h2)]
      have e2 : lnD (a :: r) = false := decide_eq_false (p := (a :: r).headD [] = [100]) h2
      rw [if_neg h2, e1, e2]
theorem rowOf_skip {l : List UInt8} (h : wordsOf l = [] ∨ (wordsOf l).headD [] = [99]) : rowOf l = some none := by
  unfold rowOf
  cases hw : wordsOf l with
  | nil => rfl
  | cons a r =>
    rw [hw] at h
    rcases h with h | h
    · cases h
    · have h' : a = [99] := h
      simp only
      rw [if_pos h']
theorem wgo_len : ∀ (l cur : List UInt8), (wgo cur l).length ≤ l.length + 1 ∧ ∀ u ∈ wgo cur l, u.length ≤ cur.length + l.length
  | [], cur => by
    unfold wgo
    split
    · simp
    · simp
  | c :: r, cur => by
    unfold wgo
    split
    · split
      · obtain ⟨h1, h2⟩ := wgo_len r []
        refine ⟨by simp; omega, fun u hu => ?_⟩
        have := h2 u hu
        simp at this ⊢
        omega
      · obtain ⟨h1, h2⟩ := wgo_len r []
        refine ⟨by simp; omega, fun u hu => ?_⟩
        rcases List.mem_cons.1 hu with e | e
        · rw [e]; simp
        · have := h2 u e
          simp at this ⊢
          omega
    · obtain ⟨h1, h2⟩ := wgo_len r (cur ++ [c])
      refine ⟨by simp; omega, fun u hu => ?_⟩
      have := h2 u hu
      simp at this ⊢
      omega
set_option maxHeartbeats 16000000 in
set_option maxRecDepth 100000 in
theorem rparse_any (s : ByteArray) (w : World) (hs : s.size ≤ 1048575) :
    Calls Tryd.prog 5 #[.string s] w (PRS w (pgo (sgo [] s.data.toList) 1 [])) := by
  generalize hPP : PRS w (pgo (sgo [] s.data.toList) 1 []) = PP
  have HBA : Hid (∀ k w', pgo (sgo [] s.data.toList) 1 [] = ([], k, 3) → Below w.heap.size w w' → PP (.returned (.tuple #[.slice none 0 0, .int .i64 (k : Int), .int .i64 3])) w') := fun k w' h hb => by rw [← hPP, h]; exact ⟨none, 0, _, rfl, RST.nil hb⟩
  have HOK : Hid (∀ ps aM cM q w', pgo (sgo [] s.data.toList) 1 [] = (ps, 0, 0) → RST w w' ps (.slice aM ps.length cM) q → PP (.returned (.tuple #[.slice aM ps.length cM, .int .i64 0, .int .i64 0])) w') := fun ps aM cM q w' h hb => by rw [← hPP, h]; exact ⟨aM, cM, q, rfl, hb⟩
  clear hPP
  have hl : s.data.toList.length = s.size := (Lib.size_eq s).symm
  have HL : Hid (s.data.toList.length = s.size) := hl
  have HWD : Hid (∀ (S : ByteArray) (W : World), S.size ≤ 1048575 → Calls Tryd.prog 9 #[.string S] W fun e w' => ∃ ad n c, e = .returned (.slice ad n c) ∧ n ≤ c ∧ n ≤ 1048576 ∧ n = (wordsOf S.data.toList).length ∧ Strs w' ad (wordsOf S.data.toList) ∧ Below W.heap.size W w') := fun S W h => (words_any S W (by omega)).mono fun e w' hh => by
    obtain ⟨v, he, hr, hb⟩ := hh
    obtain ⟨ad, c, e2, hc⟩ := rowO_cap hr
    rw [e2] at he hr
    have hn := (wgo_len S.data.toList []).1
    rw [← Lib.size_eq] at hn
    exact ⟨ad, _, c, he, hc, by unfold wordsOf; omega, rfl, Strs.of hr, hb⟩
  have HLN : Hid (∀ (W : World) (S : ByteArray) ad n c, S.size ≤ 1048575 → n = (wordsOf S.data.toList).length → 0 < n → n ≤ c → n ≤ 1048576 → Strs W ad (wordsOf S.data.toList) → Calls Tryd.prog 10 #[.slice ad n c] W (LNP W (lnD (wordsOf S.data.toList)) (lineGo (lnW (wordsOf S.data.toList))))) := fun W S ad n c h1 h2 h3 h4 h5 h6 => by
    subst h2
    exact line_any ad _ c W h6 h3 h4 h5 (fun u hu => by
      have h7 := (wgo_len S.data.toList []).2 u hu
      have h8 := Lib.size_eq S
      simp only [List.length_nil, Nat.zero_add] at h7
      omega)
  have HST : Hid (RST w w [] (.slice none 0 0) (fun _ => .slice none 0 0)) := RST.nil (Below.refl _ _)
  obtain ⟨j0, hj0, hy0, hy1, hy2⟩ := info_parts (P := Tryd.prog) (e := 30) (z := .agg #[.bool false, .slice none 0 0]) (size := 2) (bytes := 32) (by kernel_rfl)
  clear hl
  have HG0 : Hid (pgo (sgo [] s.data.toList) 1 [] = pgo (sgo ((s.data.toList.take 0).drop 0) (s.data.toList.drop 0)) 1 []) := rfl
  generalize pgo (sgo [] s.data.toList) 1 [] = G at *
  go_enter Tryd.func5, Tryd.ntmps5
  go_wp2_with fail
  go_loopg [5, 6, 7, 8] (s.size + 1) (fun gk v5 v6 v7 v8 wr => ∃ (i f k : Nat) (aV : Option Addr) (n cV : Nat), v5 = .slice aV n cV ∧ v6 = .int .i64 (f : Int) ∧ v7 = .int .i64 (k : Int) ∧ v8 = .int .i64 (i : Int) ∧ i + gk = s.size + 1 ∧ f ≤ i ∧ k ≤ i + 1 ∧ n ≤ i ∧ Aside (∃ ps q, ps.length = n ∧ RST w wr ps (.slice aV n cV) q ∧ (i ≤ s.size → G = pgo (sgo ((s.data.toList.take i).drop f) (s.data.toList.drop i)) k ps) ∧ (i = s.size + 1 → G = (ps, 0, 0))))
  case atStart => exact ⟨0, 0, 1, none, 0, 0, rfl, rfl, rfl, rfl, by omega, by omega, by omega, by omega, [], _, rfl, HST.out, fun _ => HG0.out, fun h => by omega⟩
  case round =>
    obtain ⟨i, f, k, aV, n, cV, rfl, rfl, rfl, rfl, hig, hfi, hki, hni, HU⟩ := hrel
    clear HST HG0
    obtain ⟨ps, q, hpn, hR, hG1, hG2⟩ := HU.out
    have HRS : Hid (RST w wr ps (.slice aV n cV) q) := hR
    have HPN : Hid (ps.length = n) := hpn
    clear HU hR hpn
    by_cases hle : i ≤ s.size
    · have HG : Hid (G = pgo (sgo ((s.data.toList.take i).drop f) (s.data.toList.drop i)) k ps) := hG1 hle
      have hle' : (i : Int) ≤ (s.size : Int) := by omega
      have hfi' : (f : Int) ≤ (i : Int) := by omega
      clear hG1 hG2
      by_cases hlt : i < s.size
      · have hat := at_of hlt
        obtain ⟨c, hc⟩ : ∃ c, s[i] = c := ⟨_, rfl⟩
        rw [hc] at hat
        have hlt' : (i : Int) < (s.size : Int) := by omega
        by_cases h10 : c.toNat = 10
        · have HSG : Hid (∀ ps, pgo (sgo ((s.data.toList.take i).drop f) (s.data.toList.drop i)) k ps = match rowOf ((s.data.toList.take i).drop f) with | none => ([], k, 3) | some none => pgo (sgo ((s.data.toList.take (i + 1)).drop (i + 1)) (s.data.toList.drop (i + 1))) (k + 1) ps | some (some st) => pgo (sgo ((s.data.toList.take (i + 1)).drop (i + 1)) (s.data.toList.drop (i + 1))) (k + 1) (ps ++ [st])) := fun ps => by
            rw [hat, sgo, if_pos h10, take_drop_self, pgo]
            cases rowOf ((s.data.toList.take i).drop f) with
            | none => rfl
            | some o => cases o <;> rfl
          have HNX : Hid (∀ X : List (Bool × List Int), G = pgo (sgo ((s.data.toList.take (i + 1)).drop (i + 1)) (s.data.toList.drop (i + 1))) (k + 1) X → (i + 1 ≤ s.size → G = pgo (sgo ((s.data.toList.take (i + 1)).drop (i + 1)) (s.data.toList.drop (i + 1))) (k + 1) X) ∧ (i + 1 = s.size + 1 → G = (X, 0, 0))) := fun X h => ⟨fun _ => h, fun h2 => by omega⟩
          have q10 : ((c.toNat : Int) == 10) = true := beq_iff_eq.2 (by omega)
          have q11 : ((c.toNat : Int) != 10) = false := by rw [bne, q10]; rfl
          clear hat
          obtain ⟨S, hS⟩ : ∃ S, s.extract f i = S := ⟨_, rfl⟩
          have hSl : S.data.toList = (s.data.toList.take i).drop f := by rw [← hS, ext_data]
          have hSs : S.size ≤ 1048575 := by
            rw [Lib.size_eq, hSl, List.length_drop, List.length_take, HL.out]
            omega
          have HG3 : Hid (G = match rowOf S.data.toList with | none => ([], k, 3) | some none => pgo (sgo ((s.data.toList.take (i + 1)).drop (i + 1)) (s.data.toList.drop (i + 1))) (k + 1) ps | some (some st) => pgo (sgo ((s.data.toList.take (i + 1)).drop (i + 1)) (s.data.toList.drop (i + 1))) (k + 1) (ps ++ [st])) := by
            show _ = _
            rw [hSl]
            exact HG.out.trans (HSG.out ps)
          have HWC : Hid (Calls Tryd.prog 9 #[.string S] wr fun e w' => ∃ ad n c, e = .returned (.slice ad n c) ∧ n ≤ c ∧ n ≤ 1048576 ∧ n = (wordsOf S.data.toList).length ∧ Strs w' ad (wordsOf S.data.toList) ∧ Below wr.heap.size wr w') := HWD.out S wr hSs
          have HLN2 : Hid (∀ (W : World) ad n c, n = (wordsOf S.data.toList).length → 0 < n → n ≤ c → n ≤ 1048576 → Strs W ad (wordsOf S.data.toList) → Calls Tryd.prog 10 #[.slice ad n c] W (LNP W (lnD (wordsOf S.data.toList)) (lineGo (lnW (wordsOf S.data.toList))))) := fun W ad n c => HLN.out W S ad n c hSs
          have HSK : Hid (wordsOf S.data.toList = [] ∨ (wordsOf S.data.toList).headD [] = [99] → rowOf S.data.toList = some none) := rowOf_skip
          have HRL : Hid (wordsOf S.data.toList ≠ [] → (wordsOf S.data.toList).headD [] ≠ [99] → rowOf S.data.toList = (lineGo (lnW (wordsOf S.data.toList))).map (fun c => some (lnD (wordsOf S.data.toList), c))) := rowOf_line
          clear HG HSG HWD HLN hSl HOK
          generalize rowOf S.data.toList = RO at *
          generalize wordsOf S.data.toList = ws at *
          go_wp2_with fail
          refine HWC.out.mono ?_
          rintro e w1 ⟨adW, nW, cW, rfl, hnc, hnl, hnw0, hst, hb1⟩
          have HNW : Hid (nW = ws.length) := hnw0
          clear hnw0
          have HR1 : Hid (RST w w1 ps (.slice aV n cV) q) := HRS.out.over hb1
          have HSW : Hid (Strs w1 adW ws) := hst
          clear hb1 hst HWC HRS
          by_cases hz0 : nW = 0
          · have HRO : Hid (RO = some none) := HSK.out (Or.inl (List.eq_nil_of_length_eq_zero (by rw [← HNW.out]; exact hz0)))
            have HN : Aside (∃ ps q, ps.length = n ∧ RST w w1 ps (.slice aV n cV) q ∧ (i + 1 ≤ s.size → G = pgo (sgo ((s.data.toList.take (i + 1)).drop (i + 1)) (s.data.toList.drop (i + 1))) (k + 1) ps) ∧ (i + 1 = s.size + 1 → G = (ps, 0, 0))) := ⟨ps, q, HPN.out, HR1.out, HNX.out ps (by rw [HG3.out, HRO.out])⟩
            have qz : ¬ (0 : Int) < (nW : Int) := by omega
            clear HG3 HNX HSK HRL HLN2 HBA
            go_wp2
            go_roundg (gk - 1)
            case measure => omega
            case rel => exact ⟨i + 1, i + 1, k + 1, aV, n, cV, rfl, by simp, by simp, by simp, by omega, by omega, by omega, by omega, HN⟩
          · have qz : (0 : Int) < (nW : Int) := by omega
            obtain ⟨bW, oW, rfl, hbW, hcW⟩ := HSW.out (by rw [← HNW.out]; omega)
            have z0 := hcW 0 (by rw [← HNW.out]; omega)
            rw [Nat.add_zero] at z0
            have hhd : ws.headD [] = ws.getD 0 [] := by cases ws <;> rfl
            clear hcW
            by_cases h99 : ws.getD 0 [] = [99]
            · have HRO : Hid (RO = some none) := HSK.out (Or.inr (by rw [hhd]; exact h99))
              have z0' : w1.cell? ⟨bW, oW, none⟩ = some (.string ⟨#[99]⟩) := by rw [z0, h99]; rfl
              have HN : Aside (∃ ps q, ps.length = n ∧ RST w w1 ps (.slice aV n cV) q ∧ (i + 1 ≤ s.size → G = pgo (sgo ((s.data.toList.take (i + 1)).drop (i + 1)) (s.data.toList.drop (i + 1))) (k + 1) ps) ∧ (i + 1 = s.size + 1 → G = (ps, 0, 0))) := ⟨ps, q, HPN.out, HR1.out, HNX.out ps (by rw [HG3.out, HRO.out])⟩
              clear HG3 HNX HSK HRL HLN2 HBA z0 h99
              go_wp2
              go_roundg (gk - 1)
              case measure => omega
              case rel => exact ⟨i + 1, i + 1, k + 1, aV, n, cV, rfl, by simp, by simp, by simp, by omega, by omega, by omega, by omega, HN⟩
            · obtain ⟨Z, hZ⟩ : ∃ Z : ByteArray, (⟨(ws.getD 0 []).toArray⟩ : ByteArray) = Z := ⟨_, rfl⟩
              have hZl : Z.data.toList = ws.getD 0 [] := by rw [← hZ]
              have z0' : w1.cell? ⟨bW, oW, none⟩ = some (.string Z) := by rw [z0, ← hZ]; rfl
              have q99 : (Z.toList == [99]) = false := bytes_is (by rw [hZl]; exact h99)
              have HRO : Hid (RO = (lineGo (lnW ws)).map (fun c => some (lnD ws, c))) := HRL.out (fun e => by have h8 := HNW.out; rw [e] at h8; simp at h8; omega) (by rw [hhd]; exact h99)
              have HLC : Hid (Calls Tryd.prog 10 #[.slice (some ⟨bW, oW, none⟩) nW cW] w1 (LNP w1 (lnD ws) (lineGo (lnW ws)))) := HLN2.out w1 _ nW cW HNW.out (by omega) hnc hnl HSW.out
              clear HSK HRL HLN2 z0 h99 hZ hZl hhd HSW HNW
              cases hlg : lineGo (lnW ws) with
              | none =>
                have HGG : Hid (G = ([], k, 3)) := by show _ = _; rw [HG3.out, HRO.out, hlg]; rfl
                clear HG3 HNX HRO
                go_wp2_with fail
                refine HLC.out.mono ?_
                intro e w2 hh
                obtain ⟨hb, d, aZ, nZ, cZ, he⟩ : Below w1.heap.size w1 w2 ∧ ∃ d a n c, e = .returned (.tuple #[.agg #[.bool d, .slice a n c], .bool false]) := by unfold LNP at hh; rw [hlg] at hh; exact hh
                subst he
                have HFI : Hid ((∀ o, PP (.returned (.tuple #[.slice none 0 0, .int .i64 (k : Int), .int .i64 3])) (w2.alloc o)) ∧ PP (.returned (.tuple #[.slice none 0 0, .int .i64 (k : Int), .int .i64 3])) w2) := ⟨fun o => HBA.out k _ HGG.out ((below_next HR1.out.bel hb).alloc (below_next HR1.out.bel hb).size o), HBA.out k _ HGG.out (below_next HR1.out.bel hb)⟩
                clear hh hb HLC HBA
                go_wp2
                first | exact HFI.out.1 _ | exact HFI.out.2 | (go_ret3; exact HFI.out.1 _) | (go_ret3; exact HFI.out.2)
              | some c0 =>
                have HGG : Hid (G = pgo (sgo ((s.data.toList.take (i + 1)).drop (i + 1)) (s.data.toList.drop (i + 1))) (k + 1) (ps ++ [(lnD ws, c0)])) := by show _ = _; rw [HG3.out, HRO.out, hlg]; rfl
                clear HG3 HRO HBA
                go_wp2_with fail
                refine HLC.out.mono ?_
                intro e w2 hh
                obtain ⟨hb, vx, he, hvx⟩ : Below w1.heap.size w1 w2 ∧ ∃ v, e = .returned (.tuple #[.agg #[.bool (lnD ws), v], .bool true]) ∧ w2.ownsRow w1.heap.size 3 1 v c0.length (c0.map (Value.int .i64)) := by unfold LNP at hh; rw [hlg] at hh; exact hh
                subst he
                obtain ⟨aX, cX, eX, _⟩ := rowO_form hvx
                subst eX
                generalize lnD ws = d at *
                have HFN : Hid (∀ o o2 g6 cap6 (w6 : World), w6.ownsRow w.heap.size 30 2 (.slice (some ⟨g6, 0, none⟩) (n + 1) cap6) (n + 1) (stC ps q n ++ [.bool d, .slice aX c0.length cX]) → ((w2.alloc o).alloc o2).grownBy w6 (Value.ownBlock (.slice aV n cV)) → ∃ ps q, ps.length = n + 1 ∧ RST w w6 ps (.slice (some ⟨g6, 0, none⟩) (n + 1) cap6) q ∧ (i + 1 ≤ s.size → G = pgo (sgo ((s.data.toList.take (i + 1)).drop (i + 1)) (s.data.toList.drop (i + 1))) (k + 1) ps) ∧ (i + 1 = s.size + 1 → G = (ps, 0, 0))) := fun o o2 g6 cap6 w6 h1 h2 => by
                  have hba : Below w1.heap.size w1 (w2.alloc o) := hb.alloc hb.size o
                  have hvy : (w2.alloc o).ownsRow w1.heap.size 3 1 (.slice aX c0.length cX) c0.length (c0.map (Value.int .i64)) := hvx.alloc o
                  rw [← HPN.out] at h1
                  obtain ⟨q', hq⟩ := HR1.out.add hba hvy h1 h2
                  rw [HPN.out] at hq
                  exact ⟨ps ++ [(d, c0)], q', by rw [List.length_append, HPN.out]; rfl, hq, HNX.out _ HGG.out⟩
                have HRW : Hid (∀ o o2, ((w2.alloc o).alloc o2).ownsRow w.heap.size 30 2 (.slice aV n cV) n (stC ps q n)) := fun o o2 => by
                  have h5 := (HR1.out.over hb).row
                  rw [HPN.out] at h5
                  exact (h5.alloc o).alloc o2
                have hsz2 : w.heap.size ≤ w2.heap.size := (below_next HR1.out.bel hb).size
                have HNB : Hid (∀ o o2, ((w2.alloc o).alloc o2).heap[w2.heap.size + 1]? = some o2) := fun o o2 => by
                  have h5 := heap_alloc_new (w2.alloc o) o2
                  rw [show (w2.alloc o).heap.size = w2.heap.size + 1 by simp] at h5
                  exact h5
                clear hh hb hvx HLC HGG HR1 HNX
                generalize stC ps q n = L at *
                generalize c0.length = cl at *
                go_wp2_with (at_builtin; refine wpList_append_lies _ rfl _ _ 22 rfl w.heap.size 30 j0 _ 2 32 Tryd.underlying22 hj0 hy0 hy1 hy2 rfl (by decide) _ _ _ rfl (HRW.out _ _) ⟨w2.heap.size + 1, 0, none⟩ 1 1 [.bool d, .slice aX cl cX] rfl rfl (World.news_of_block (cs := #[.bool d, .slice aX cl cX]) (t := 30) (fr := (0, 0)) (HNB.out _ _)) (by intro u hu; simp at hu; rcases hu with rfl | rfl <;> rfl) (by omega) (by unfold maxLen; omega) (by omega) (by simp; omega) ((w2.heap.size + 1) + 1) (by simp) ?_; intro g6 cap6 w6 hown6 hgrow6 hat6 hlt6; have HN : Aside (∃ ps q, ps.length = n + 1 ∧ RST w w6 ps (.slice (some ⟨g6, 0, none⟩) (n + 1) cap6) q ∧ (i + 1 ≤ s.size → G = pgo (sgo ((s.data.toList.take (i + 1)).drop (i + 1)) (s.data.toList.drop (i + 1))) (k + 1) ps) ∧ (i + 1 = s.size + 1 → G = (ps, 0, 0))) := (HFN.out _ _ g6 cap6 w6 hown6 hgrow6); clear hown6 hgrow6 hat6 hlt6; refine Hid.out ?_)
                refine Lib.hid ?_
                go_wp2
                go_roundg (gk - 1)
                case measure => omega
                case rel => exact ⟨i + 1, i + 1, k + 1, _, n + 1, cap6, rfl, by simp, by simp, by simp, by omega, by omega, by omega, by omega, HN⟩
        · have q10 : ((c.toNat : Int) == 10) = false := beq_eq_false_iff_ne.2 (by omega)
          have q11 : ((c.toNat : Int) != 10) = true := by rw [bne, q10]; rfl
          have HN : Aside (∃ ps q, ps.length = n ∧ RST w wr ps (.slice aV n cV) q ∧ (i + 1 ≤ s.size → G = pgo (sgo ((s.data.toList.take (i + 1)).drop f) (s.data.toList.drop (i + 1))) k ps) ∧ (i + 1 = s.size + 1 → G = (ps, 0, 0))) := ⟨ps, q, HPN.out, HRS.out, fun _ => by rw [HG.out, hat, sgo, if_neg h10, cur_more hat hfi], fun h => by omega⟩
          clear hat HG HBA HOK HWD HLN
          go_wp2
          go_roundg (gk - 1)
          case measure => omega
          case rel => exact ⟨i + 1, f, k, aV, n, cV, rfl, rfl, rfl, by simp, by omega, by omega, by omega, by omega, HN⟩
      · have hlt' : ¬ (i : Int) < (s.size : Int) := by omega
        have HSG : Hid (∀ ps, pgo (sgo ((s.data.toList.take i).drop f) (s.data.toList.drop i)) k ps = match rowOf ((s.data.toList.take i).drop f) with | none => ([], k, 3) | some none => (ps, 0, 0) | some (some st) => (ps ++ [st], 0, 0)) := fun ps => by
          rw [show s.data.toList.drop i = [] from List.drop_eq_nil_of_le (by rw [HL.out]; omega), sgo, pgo]
          cases rowOf ((s.data.toList.take i).drop f) with
          | none => rfl
          | some o => cases o <;> rfl
        have HNX : Hid (∀ X : List (Bool × List Int), G = (X, 0, 0) → (i + 1 ≤ s.size → G = pgo (sgo ((s.data.toList.take (i + 1)).drop (i + 1)) (s.data.toList.drop (i + 1))) (k + 1) X) ∧ (i + 1 = s.size + 1 → G = (X, 0, 0))) := fun X h => ⟨fun h2 => by omega, fun _ => h⟩
        obtain ⟨S, hS⟩ : ∃ S, s.extract f i = S := ⟨_, rfl⟩
        have hSl : S.data.toList = (s.data.toList.take i).drop f := by rw [← hS, ext_data]
        have hSs : S.size ≤ 1048575 := by
          rw [Lib.size_eq, hSl, List.length_drop, List.length_take, HL.out]
          omega
        have HG3 : Hid (G = match rowOf S.data.toList with | none => ([], k, 3) | some none => (ps, 0, 0) | some (some st) => (ps ++ [st], 0, 0)) := by
          show _ = _
          rw [hSl]
          exact HG.out.trans (HSG.out ps)
        have HWC : Hid (Calls Tryd.prog 9 #[.string S] wr fun e w' => ∃ ad n c, e = .returned (.slice ad n c) ∧ n ≤ c ∧ n ≤ 1048576 ∧ n = (wordsOf S.data.toList).length ∧ Strs w' ad (wordsOf S.data.toList) ∧ Below wr.heap.size wr w') := HWD.out S wr hSs
        have HLN2 : Hid (∀ (W : World) ad n c, n = (wordsOf S.data.toList).length → 0 < n → n ≤ c → n ≤ 1048576 → Strs W ad (wordsOf S.data.toList) → Calls Tryd.prog 10 #[.slice ad n c] W (LNP W (lnD (wordsOf S.data.toList)) (lineGo (lnW (wordsOf S.data.toList))))) := fun W ad n c => HLN.out W S ad n c hSs
        have HSK : Hid (wordsOf S.data.toList = [] ∨ (wordsOf S.data.toList).headD [] = [99] → rowOf S.data.toList = some none) := rowOf_skip
        have HRL : Hid (wordsOf S.data.toList ≠ [] → (wordsOf S.data.toList).headD [] ≠ [99] → rowOf S.data.toList = (lineGo (lnW (wordsOf S.data.toList))).map (fun c => some (lnD (wordsOf S.data.toList), c))) := rowOf_line
        clear HG HSG HWD HLN hSl HOK
        generalize rowOf S.data.toList = RO at *
        generalize wordsOf S.data.toList = ws at *
        go_wp2_with fail
        refine HWC.out.mono ?_
        rintro e w1 ⟨adW, nW, cW, rfl, hnc, hnl, hnw0, hst, hb1⟩
        have HNW : Hid (nW = ws.length) := hnw0
        clear hnw0
        have HR1 : Hid (RST w w1 ps (.slice aV n cV) q) := HRS.out.over hb1
        have HSW : Hid (Strs w1 adW ws) := hst
        clear hb1 hst HWC HRS
        by_cases hz0 : nW = 0
        · have HRO : Hid (RO = some none) := HSK.out (Or.inl (List.eq_nil_of_length_eq_zero (by rw [← HNW.out]; exact hz0)))
          have HN : Aside (∃ ps q, ps.length = n ∧ RST w w1 ps (.slice aV n cV) q ∧ (i + 1 ≤ s.size → G = pgo (sgo ((s.data.toList.take (i + 1)).drop (i + 1)) (s.data.toList.drop (i + 1))) (k + 1) ps) ∧ (i + 1 = s.size + 1 → G = (ps, 0, 0))) := ⟨ps, q, HPN.out, HR1.out, HNX.out ps (by rw [HG3.out, HRO.out])⟩
          have qz : ¬ (0 : Int) < (nW : Int) := by omega
          clear HG3 HNX HSK HRL HLN2 HBA
          go_wp2
          go_roundg (gk - 1)
          case measure => omega
          case rel => exact ⟨i + 1, i + 1, k + 1, aV, n, cV, rfl, by simp, by simp, by simp, by omega, by omega, by omega, by omega, HN⟩
        · have qz : (0 : Int) < (nW : Int) := by omega
          obtain ⟨bW, oW, rfl, hbW, hcW⟩ := HSW.out (by rw [← HNW.out]; omega)
          have z0 := hcW 0 (by rw [← HNW.out]; omega)
          rw [Nat.add_zero] at z0
          have hhd : ws.headD [] = ws.getD 0 [] := by cases ws <;> rfl
          clear hcW
          by_cases h99 : ws.getD 0 [] = [99]
          · have HRO : Hid (RO = some none) := HSK.out (Or.inr (by rw [hhd]; exact h99))
            have z0' : w1.cell? ⟨bW, oW, none⟩ = some (.string ⟨#[99]⟩) := by rw [z0, h99]; rfl
            have HN : Aside (∃ ps q, ps.length = n ∧ RST w w1 ps (.slice aV n cV) q ∧ (i + 1 ≤ s.size → G = pgo (sgo ((s.data.toList.take (i + 1)).drop (i + 1)) (s.data.toList.drop (i + 1))) (k + 1) ps) ∧ (i + 1 = s.size + 1 → G = (ps, 0, 0))) := ⟨ps, q, HPN.out, HR1.out, HNX.out ps (by rw [HG3.out, HRO.out])⟩
            clear HG3 HNX HSK HRL HLN2 HBA z0 h99
            go_wp2
            go_roundg (gk - 1)
            case measure => omega
            case rel => exact ⟨i + 1, i + 1, k + 1, aV, n, cV, rfl, by simp, by simp, by simp, by omega, by omega, by omega, by omega, HN⟩
          · obtain ⟨Z, hZ⟩ : ∃ Z : ByteArray, (⟨(ws.getD 0 []).toArray⟩ : ByteArray) = Z := ⟨_, rfl⟩
            have hZl : Z.data.toList = ws.getD 0 [] := by rw [← hZ]
            have z0' : w1.cell? ⟨bW, oW, none⟩ = some (.string Z) := by rw [z0, ← hZ]; rfl
            have q99 : (Z.toList == [99]) = false := bytes_is (by rw [hZl]; exact h99)
            have HRO : Hid (RO = (lineGo (lnW ws)).map (fun c => some (lnD ws, c))) := HRL.out (fun e => by have h8 := HNW.out; rw [e] at h8; simp at h8; omega) (by rw [hhd]; exact h99)
            have HLC : Hid (Calls Tryd.prog 10 #[.slice (some ⟨bW, oW, none⟩) nW cW] w1 (LNP w1 (lnD ws) (lineGo (lnW ws)))) := HLN2.out w1 _ nW cW HNW.out (by omega) hnc hnl HSW.out
            clear HSK HRL HLN2 z0 h99 hZ hZl hhd HSW HNW
            cases hlg : lineGo (lnW ws) with
            | none =>
              have HGG : Hid (G = ([], k, 3)) := by show _ = _; rw [HG3.out, HRO.out, hlg]; rfl
              clear HG3 HNX HRO
              go_wp2_with fail
              refine HLC.out.mono ?_
              intro e w2 hh
              obtain ⟨hb, d, aZ, nZ, cZ, he⟩ : Below w1.heap.size w1 w2 ∧ ∃ d a n c, e = .returned (.tuple #[.agg #[.bool d, .slice a n c], .bool false]) := by unfold LNP at hh; rw [hlg] at hh; exact hh
              subst he
              have HFI : Hid ((∀ o, PP (.returned (.tuple #[.slice none 0 0, .int .i64 (k : Int), .int .i64 3])) (w2.alloc o)) ∧ PP (.returned (.tuple #[.slice none 0 0, .int .i64 (k : Int), .int .i64 3])) w2) := ⟨fun o => HBA.out k _ HGG.out ((below_next HR1.out.bel hb).alloc (below_next HR1.out.bel hb).size o), HBA.out k _ HGG.out (below_next HR1.out.bel hb)⟩
              clear hh hb HLC HBA
              go_wp2
              first | exact HFI.out.1 _ | exact HFI.out.2 | (go_ret3; exact HFI.out.1 _) | (go_ret3; exact HFI.out.2)
            | some c0 =>
              have HGG : Hid (G = (ps ++ [(lnD ws, c0)], 0, 0)) := by show _ = _; rw [HG3.out, HRO.out, hlg]; rfl
              clear HG3 HRO HBA
              go_wp2_with fail
              refine HLC.out.mono ?_
              intro e w2 hh
              obtain ⟨hb, vx, he, hvx⟩ : Below w1.heap.size w1 w2 ∧ ∃ v, e = .returned (.tuple #[.agg #[.bool (lnD ws), v], .bool true]) ∧ w2.ownsRow w1.heap.size 3 1 v c0.length (c0.map (Value.int .i64)) := by unfold LNP at hh; rw [hlg] at hh; exact hh
              subst he
              obtain ⟨aX, cX, eX, _⟩ := rowO_form hvx
              subst eX
              generalize lnD ws = d at *
              have HFN : Hid (∀ o o2 g6 cap6 (w6 : World), w6.ownsRow w.heap.size 30 2 (.slice (some ⟨g6, 0, none⟩) (n + 1) cap6) (n + 1) (stC ps q n ++ [.bool d, .slice aX c0.length cX]) → ((w2.alloc o).alloc o2).grownBy w6 (Value.ownBlock (.slice aV n cV)) → ∃ ps q, ps.length = n + 1 ∧ RST w w6 ps (.slice (some ⟨g6, 0, none⟩) (n + 1) cap6) q ∧ (i + 1 ≤ s.size → G = pgo (sgo ((s.data.toList.take (i + 1)).drop (i + 1)) (s.data.toList.drop (i + 1))) (k + 1) ps) ∧ (i + 1 = s.size + 1 → G = (ps, 0, 0))) := fun o o2 g6 cap6 w6 h1 h2 => by
                have hba : Below w1.heap.size w1 (w2.alloc o) := hb.alloc hb.size o
                have hvy : (w2.alloc o).ownsRow w1.heap.size 3 1 (.slice aX c0.length cX) c0.length (c0.map (Value.int .i64)) := hvx.alloc o
                rw [← HPN.out] at h1
                obtain ⟨q', hq⟩ := HR1.out.add hba hvy h1 h2
                rw [HPN.out] at hq
                exact ⟨ps ++ [(d, c0)], q', by rw [List.length_append, HPN.out]; rfl, hq, HNX.out _ HGG.out⟩
              have HRW : Hid (∀ o o2, ((w2.alloc o).alloc o2).ownsRow w.heap.size 30 2 (.slice aV n cV) n (stC ps q n)) := fun o o2 => by
                have h5 := (HR1.out.over hb).row
                rw [HPN.out] at h5
                exact (h5.alloc o).alloc o2
              have hsz2 : w.heap.size ≤ w2.heap.size := (below_next HR1.out.bel hb).size
              have HNB : Hid (∀ o o2, ((w2.alloc o).alloc o2).heap[w2.heap.size + 1]? = some o2) := fun o o2 => by
                have h5 := heap_alloc_new (w2.alloc o) o2
                rw [show (w2.alloc o).heap.size = w2.heap.size + 1 by simp] at h5
                exact h5
              clear hh hb hvx HLC HGG HR1 HNX
              generalize stC ps q n = L at *
              generalize c0.length = cl at *
              go_wp2_with (at_builtin; refine wpList_append_lies _ rfl _ _ 22 rfl w.heap.size 30 j0 _ 2 32 Tryd.underlying22 hj0 hy0 hy1 hy2 rfl (by decide) _ _ _ rfl (HRW.out _ _) ⟨w2.heap.size + 1, 0, none⟩ 1 1 [.bool d, .slice aX cl cX] rfl rfl (World.news_of_block (cs := #[.bool d, .slice aX cl cX]) (t := 30) (fr := (0, 0)) (HNB.out _ _)) (by intro u hu; simp at hu; rcases hu with rfl | rfl <;> rfl) (by omega) (by unfold maxLen; omega) (by omega) (by simp; omega) ((w2.heap.size + 1) + 1) (by simp) ?_; intro g6 cap6 w6 hown6 hgrow6 hat6 hlt6; have HN : Aside (∃ ps q, ps.length = n + 1 ∧ RST w w6 ps (.slice (some ⟨g6, 0, none⟩) (n + 1) cap6) q ∧ (i + 1 ≤ s.size → G = pgo (sgo ((s.data.toList.take (i + 1)).drop (i + 1)) (s.data.toList.drop (i + 1))) (k + 1) ps) ∧ (i + 1 = s.size + 1 → G = (ps, 0, 0))) := (HFN.out _ _ g6 cap6 w6 hown6 hgrow6); clear hown6 hgrow6 hat6 hlt6; refine Hid.out ?_)
              refine Lib.hid ?_
              go_wp2
              go_roundg (gk - 1)
              case measure => omega
              case rel => exact ⟨i + 1, i + 1, k + 1, _, n + 1, cap6, rfl, by simp, by simp, by simp, by omega, by omega, by omega, by omega, HN⟩
    · obtain rfl : i = s.size + 1 := by omega
      have HFI : Hid (PP (.returned (.tuple #[.slice aV n cV, .int .i64 0, .int .i64 0])) wr) := by
        have h5 := HOK.out ps aV cV q wr (hG2 rfl) (by rw [HPN.out]; exact HRS.out)
        rw [HPN.out] at h5
        exact h5
      have hge : ¬ ((s.size + 1 : Nat) : Int) ≤ (s.size : Int) := by omega
      clear hG1 hG2 HBA HOK HWD HLN
      go_wp2
      first | exact HFI.out | (go_ret3; exact HFI.out)
end Go.Proofs.YtklkeajakmhkgaaDoor
