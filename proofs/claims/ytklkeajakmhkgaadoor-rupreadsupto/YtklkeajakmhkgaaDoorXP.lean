import Derived.Test.YtklkeajakmhkgaaDoorXO

namespace Go.Proofs.YtklkeajakmhkgaaDoor
open Go.ChangeShapes Go.WideShapes Go.ChangeAt Go.RowKit Go.Lib

/-- what Parse answers -/
def PRS (w : World) (R : List (Bool × List Int) × Nat × Int) (e : Ending) (w' : World) : Prop := ∃ aM cM q, e = .returned (.tuple #[.slice aM R.1.length cM, .int .i64 (R.2.1 : Int), .int .i64 R.2.2]) ∧ RST w w' R.1 (.slice aM R.1.length cM) q
theorem RST.form {w wr : World} {ps : List (Bool × List Int)} {v : Value} {q : Nat → Value} (h : RST w wr ps v q) : ∃ aM cM, v = .slice aM ps.length cM := by
  obtain ⟨aM, cM, e, _⟩ := rowO_form h.row
  exact ⟨aM, cM, e⟩
set_option maxHeartbeats 8000000 in
set_option maxRecDepth 100000 in
theorem parse_any (s : ByteArray) (w : World) (hs : s.size ≤ 1048576) (hE : ENV w) :
    Calls Tryd.prog 4 #[.string s] w (PRS w (pgo (sgo [] s.data.toList) 1 [])) := by
  generalize hPP : PRS w (pgo (sgo [] s.data.toList) 1 []) = PP
  have HBA : Hid (∀ k w', pgo (sgo [] s.data.toList) 1 [] = ([], k, 3) → Below w.heap.size w w' → PP (.returned (.tuple #[.slice none 0 0, .int .i64 (k : Int), .int .i64 3])) w') := fun k w' h hb => by rw [← hPP, h]; exact ⟨none, 0, _, rfl, RST.nil hb⟩
  have HOK : Hid (∀ ps aM cM q w', pgo (sgo [] s.data.toList) 1 [] = (ps, 0, 0) → RST w w' ps (.slice aM ps.length cM) q → PP (.returned (.tuple #[.slice aM ps.length cM, .int .i64 0, .int .i64 0])) w') := fun ps aM cM q w' h hb => by rw [← hPP, h]; exact ⟨aM, cM, q, rfl, hb⟩
  clear hPP
  have HCU : Hid (∀ (S : ByteArray) (W : World), S.size ≤ 1048576 → Below w.heap.size w W → Calls Tryd.prog 7 #[.string S, .string ⟨#[10]⟩] W fun e w' => ∃ r1 r2 : ByteArray, ∃ b, e = .returned (.tuple #[.string r1, .string r2, .bool b]) ∧ r1.data.toList = (Lib.cut S.data.toList [10]).1 ∧ r2.data.toList = (Lib.cut S.data.toList [10]).2.1 ∧ ∃ m, w' = W.drewN m) := fun S W h hb => by
    obtain ⟨m, hm⟩ := (hE.below hb).max
    refine (Any.strings_Cut Tryd.cutL S ⟨#[10]⟩ m W (by omega) hm).mono fun e w' hh => ?_
    exact ⟨_, _, _, hh.1, rfl, rfl, hh.2⟩
  have HPL : Hid (∀ (S : ByteArray) (W : World), S.size ≤ 1048576 → Below w.heap.size w W → Calls Tryd.prog 8 #[.string S] W (PLP W S.data.toList)) := fun S W h hb => parseLine_any S W h (hE.below hb).sent
  have HST : Hid (pgo (sgo [] s.data.toList) 1 [] = pgo (remL s.data.toList) 1 [] ∧ RST w w [] (.slice none 0 0) (fun _ => .slice none 0 0)) := ⟨pgo_rem _ _ _, RST.nil (Below.refl _ _)⟩
  obtain ⟨j0, hj0, hy0, hy1, hy2⟩ := info_parts (P := Tryd.prog) (e := 30) (z := .agg #[.bool false, .slice none 0 0]) (size := 2) (bytes := 32) (by kernel_rfl)
  clear hE
  generalize pgo (sgo [] s.data.toList) 1 [] = G at *
  go_enter Tryd.func4, Tryd.ntmps4
  go_wp2_with fail
  go_loopg [0, 5, 6] 1048576 (fun gk v0 v5 v6 wr => ∃ (S : ByteArray) (k : Nat) (aV : Option Addr) (n cV : Nat), v0 = .string S ∧ v5 = .slice aV n cV ∧ v6 = .int .i64 (k : Int) ∧ S.size ≤ gk ∧ gk ≤ 1048576 ∧ k + gk ≤ 1048577 ∧ n + gk ≤ 1048576 ∧ Aside (∃ ps q, ps.length = n ∧ RST w wr ps (.slice aV n cV) q ∧ G = pgo (remL S.data.toList) k ps))
  case atStart => exact ⟨s, 1, none, 0, 0, rfl, rfl, rfl, hs, Nat.le_refl _, by omega, by omega, [], _, rfl, HST.out.2, HST.out.1⟩
  case round =>
    obtain ⟨S, k, aV, n, cV, rfl, rfl, rfl, hsz, hgk, hkk, hnn, HU⟩ := hrel
    clear HST
    obtain ⟨ps, q, hpn, hR, hG⟩ := HU.out
    have HRS : Hid (RST w wr ps (.slice aV n cV) q) := hR
    have HPN : Hid (ps.length = n) := hpn
    clear HU hR
    by_cases h0 : S.data.toList = []
    · have HFI : Hid (PP (.returned (.tuple #[.slice aV n cV, .int .i64 0, .int .i64 0])) wr) := by
        have h5 := HOK.out ps aV cV q wr (by rw [hG, h0]; rfl) (by rw [hpn]; exact HRS.out)
        rw [hpn] at h5
        exact h5
      have hSe := bytes_of h0
      subst hSe
      clear hG h0 HBA HOK HCU HPL
      go_wp2
      first | exact HFI.out | (go_ret3; exact HFI.out)
    · have hne : S.toList.isEmpty = false := by
        rw [Lib.toList_data]
        cases hh : S.data.toList with
        | nil => exact absurd hh h0
        | cons a b => rfl
      have hcl := cut_len h0
      have HG : Hid (G = match rowOf (Lib.cut S.data.toList [10]).1 with | none => ([], k, 3) | some none => pgo (remL (Lib.cut S.data.toList [10]).2.1) (k + 1) ps | some (some st) => pgo (remL (Lib.cut S.data.toList [10]).2.1) (k + 1) (ps ++ [st])) := by
        show _ = _
        refine hG.trans ((pgo_cut h0 k ps).trans ?_)
        cases rowOf (Lib.cut S.data.toList [10]).1 with
        | none => rfl
        | some o => cases o <;> rfl
      rw [← Lib.size_eq] at hcl
      have HCC := HCU.out S wr (by omega) HRS.out.bel
      have HC2 : Hid (Calls Tryd.prog 7 #[.string S, .string ⟨#[10]⟩] wr fun e w' => ∃ r1 r2 : ByteArray, ∃ b, e = .returned (.tuple #[.string r1, .string r2, .bool b]) ∧ r1.data.toList = (Lib.cut S.data.toList [10]).1 ∧ r2.data.toList = (Lib.cut S.data.toList [10]).2.1 ∧ ∃ m, w' = wr.drewN m) := HCC
      clear hG HCC h0 HCU HOK
      generalize Lib.cut S.data.toList [10] = CT at *
      go_wp2_with fail
      refine HC2.out.mono ?_
      rintro e w1 ⟨r1, r2, b, rfl, hr1, hr2, m, rfl⟩
      have hz1 : r1.size ≤ 1048576 := by rw [Lib.size_eq, hr1]; omega
      have hz2 : r2.size < S.size := by rw [Lib.size_eq r2, hr2]; exact hcl.2
      have HR1 : Hid (RST w (wr.drewN m) ps (.slice aV n cV) q) := HRS.out.over ⟨rfl, rfl, rfl, Nat.le_refl _, fun _ _ => rfl⟩
      have HPC := HPL.out r1 (wr.drewN m) hz1 HR1.out.bel
      rw [hr1] at HPC
      have HP2 : Hid (Calls Tryd.prog 8 #[.string r1] (wr.drewN m) (PLP (wr.drewN m) CT.1)) := HPC
      have HR2 : Hid (r2.data.toList = CT.2.1) := hr2
      clear HPC hr1 hr2 HRS HC2 HPL
      generalize wr.drewN m = WQ at *
      cases hro : rowOf CT.1 with
      | none =>
        have HGG : Hid (G = ([], k, 3)) := by show _ = _; rw [HG.out, hro]
        clear HG
        go_wp2_with fail
        refine HP2.out.mono ?_
        intro e w2 hh
        obtain ⟨hb, he⟩ : Below WQ.heap.size WQ w2 ∧ e = .returned (.tuple #[.agg #[.bool false, .slice none 0 0], .int .i64 0]) := by unfold PLP at hh; rw [hro] at hh; exact hh
        subst he
        have HFI : Hid (∀ o, PP (.returned (.tuple #[.slice none 0 0, .int .i64 (k : Int), .int .i64 3])) (w2.alloc o)) := fun o => HBA.out k _ HGG.out ((below_next HR1.out.bel hb).alloc (below_next HR1.out.bel hb).size o)
        clear hh hb HP2 HBA
        go_wp2
        first | exact HFI.out _ | (go_ret3; exact HFI.out _)
      | some o =>
        cases o with
        | none =>
          have HGG : Hid (G = pgo (remL r2.data.toList) (k + 1) ps) := by show _ = _; rw [HG.out, hro, HR2.out]
          clear HG HBA
          go_wp2_with fail
          refine HP2.out.mono ?_
          intro e w2 hh
          obtain ⟨hb, he⟩ : Below WQ.heap.size WQ w2 ∧ e = .returned (.tuple #[.agg #[.bool false, .slice none 0 0], .int .i64 1]) := by unfold PLP at hh; rw [hro] at hh; exact hh
          subst he
          have HN : Aside (∀ o, ∃ ps q, ps.length = n ∧ RST w (w2.alloc o) ps (.slice aV n cV) q ∧ G = pgo (remL r2.data.toList) (k + 1) ps) := fun o => ⟨ps, q, HPN.out, HR1.out.over (hb.alloc hb.size o), HGG.out⟩
          clear hh hb HP2 HGG
          go_wp2
          go_roundg (gk - 1)
          case measure => omega
          case rel => exact ⟨r2, k + 1, aV, n, cV, rfl, rfl, by simp, by omega, by omega, by omega, by omega, HN.out _⟩
        | some st =>
          obtain ⟨d, c⟩ := st
          have HGG : Hid (G = pgo (remL r2.data.toList) (k + 1) (ps ++ [(d, c)])) := by show _ = _; rw [HG.out, hro, HR2.out]
          clear HG HBA
          go_wp2_with fail
          refine HP2.out.mono ?_
          intro e w2 hh
          obtain ⟨hb, vx, he, hvx⟩ : Below WQ.heap.size WQ w2 ∧ ∃ v, e = .returned (.tuple #[.agg #[.bool d, v], .int .i64 2]) ∧ w2.ownsRow WQ.heap.size 3 1 v c.length (c.map (Value.int .i64)) := by unfold PLP at hh; rw [hro] at hh; exact hh
          subst he
          obtain ⟨aX, cX, eX, _⟩ := rowO_form hvx
          subst eX
          have HFN : Hid (∀ o o2 g6 cap6 (w6 : World), w6.ownsRow w.heap.size 30 2 (.slice (some ⟨g6, 0, none⟩) (n + 1) cap6) (n + 1) (stC ps q n ++ [.bool d, .slice aX c.length cX]) → ((w2.alloc o).alloc o2).grownBy w6 (Value.ownBlock (.slice aV n cV)) → ∃ ps q, ps.length = n + 1 ∧ RST w w6 ps (.slice (some ⟨g6, 0, none⟩) (n + 1) cap6) q ∧ G = pgo (remL r2.data.toList) (k + 1) ps) := fun o o2 g6 cap6 w6 h1 h2 => by
            have hba : Below WQ.heap.size WQ (w2.alloc o) := hb.alloc hb.size o
            have hvy : (w2.alloc o).ownsRow WQ.heap.size 3 1 (.slice aX c.length cX) c.length (c.map (Value.int .i64)) := hvx.alloc o
            rw [← HPN.out] at h1
            obtain ⟨q', hq⟩ := HR1.out.add hba hvy h1 h2
            rw [HPN.out] at hq
            exact ⟨ps ++ [(d, c)], q', by rw [List.length_append, HPN.out]; rfl, hq, HGG.out⟩
          have HRW : Hid (∀ o o2, ((w2.alloc o).alloc o2).ownsRow w.heap.size 30 2 (.slice aV n cV) n (stC ps q n)) := fun o o2 => by
            have h5 := (HR1.out.over hb).row
            rw [HPN.out] at h5
            exact (h5.alloc o).alloc o2
          have hsz2 : w.heap.size ≤ w2.heap.size := (below_next HR1.out.bel hb).size
          have HNB : Hid (∀ o o2, ((w2.alloc o).alloc o2).heap[w2.heap.size + 1]? = some o2) := fun o o2 => by
            have h5 := heap_alloc_new (w2.alloc o) o2
            rw [show (w2.alloc o).heap.size = w2.heap.size + 1 by simp] at h5
            exact h5
          clear hh hb hvx HP2 HGG HR1
          generalize stC ps q n = L at *
          generalize c.length = cl at *
          go_wp2_with (at_builtin; refine wpList_append_lies _ rfl _ _ 22 rfl w.heap.size 30 j0 _ 2 32 Tryd.underlying22 hj0 hy0 hy1 hy2 rfl (by decide) _ _ _ rfl (HRW.out _ _) ⟨w2.heap.size + 1, 0, none⟩ 1 1 [.bool d, .slice aX cl cX] rfl rfl (World.news_of_block (cs := #[.bool d, .slice aX cl cX]) (t := 30) (fr := (0, 0)) (HNB.out _ _)) (by intro u hu; simp at hu; rcases hu with rfl | rfl <;> rfl) (by omega) (by unfold maxLen; omega) (by omega) (by simp; omega) ((w2.heap.size + 1) + 1) (by simp) ?_; intro g6 cap6 w6 hown6 hgrow6 hat6 hlt6; have HN : Aside (∃ ps q, ps.length = n + 1 ∧ RST w w6 ps (.slice (some ⟨g6, 0, none⟩) (n + 1) cap6) q ∧ G = pgo (remL r2.data.toList) (k + 1) ps) := (HFN.out _ _ g6 cap6 w6 hown6 hgrow6); clear hown6 hgrow6 hat6 hlt6; refine Hid.out ?_)
          refine Lib.hid ?_
          go_wp2
          go_roundg (gk - 1)
          case measure => omega
          case rel => exact ⟨r2, k + 1, _, n + 1, cap6, rfl, rfl, by simp, by omega, by omega, by omega, by omega, HN⟩
end Go.Proofs.YtklkeajakmhkgaaDoor
