import Derived.Test.YtpkbigjijihljaaRE
import Derived.BigQuiet
import Derived.Deep.DeepCutAuto
namespace Go.Proofs.Ytpkbigjijihljaa
open Go.ChangeShapes Go.WideShapes Go.ChangeAt Go.RowKit
open Go.Pr
/-- where the document's Propagate ends -/
def RPost (w : World) (r : Nat) (O : Nat → Prop) (R : RS) (b : Bool) (w' : World) : Prop := ∃ tr, GT R tr ∧ (b = true → Closed R.all (fst tr)) ∧ (b = false → ∃ c ∈ R.all, Fls (fst tr) c) ∧ RDone w r O { R with tr := tr, bad := !b } w'
set_option maxHeartbeats 4000000 in
theorem rprop_mem {w : World} {r : Nat} {O : Nat → Prop} {R : RS} {pA pT : Value} {q : Nat → Value} (h : RM w r O R pA pT q) (hw : RW R) (hbad : R.bad = false) :
    Calls Try.prog 27 #[.pointer (some ⟨r, 0, none⟩)] w fun e w' => ∃ b, e = .returned (.bool b) ∧ RPost w r O R b w' := by
  generalize hPP : (fun (e : Ending) (w' : World) => ∃ b, e = .returned (.bool b) ∧ RPost w r O R b w') = PP
  have HPP : Hid (∀ b w', RPost w r O R b w' → PP (.returned (.bool b)) w') := fun b w' h => by rw [← hPP]; exact ⟨b, rfl, h⟩
  clear hPP
  have k5 : w.cell? ⟨r, 5, none⟩ = some (.bool false) := by rw [← hbad]; exact h.cell 5
  have HM : Hid (RM w r O R pA pT q) := h
  have HW : Hid (RW R) := hw
  have HBd : Hid (R.bad = false) := hbad
  have hn := hw.n
  have hal := hw.alll
  have hlv := hw.level
  clear h hw hbad
  go_enter Try.func27, Try.ntmps27
  go_wp2
  obtain ⟨i0, hi0, hz0, hz1, hz2⟩ := info_parts (P := Try.prog) (e := 81) (z := .agg #[.int .i64 0, .int .i64 0]) (size := 2) (bytes := 16) (by kernel_rfl)
  go_loopg [3] (2 * (R.n - R.tr.length) + 1) (fun gk s3 wr => ∃ (mb : Bool) (tr : List (Int × Int)), s3 = .bool mb ∧ gk = 2 * (R.n - tr.length) + (if mb = true then 1 else 0) ∧ Aside (GT R tr ∧ (mb = false → Closed R.all (fst tr)) ∧ ∃ O' pA pT q, RM wr r O' { R with tr := tr } pA pT q ∧ Fr O w wr O'))
  case atStart => exact ⟨true, R.tr, rfl, rfl, GT.refl HW.out, fun e => absurd e (by decide), O, pA, pT, q, HM.out, Fr.refl O w⟩
  case round =>
    obtain ⟨mb, tr, rfl, hgk, HA⟩ := hrel
    cases mb with
    | false =>
      have HD : Hid (RPost w r O R true wr) := by
        obtain ⟨h1, h2, O', pA', pT', q', h3, h4⟩ := HA.out
        refine ⟨tr, h1, fun _ => h2 rfl, fun e => absurd e (by decide), O', pA', pT', q', ?_, h4⟩
        have e : ({ R with tr := tr, bad := !true } : RS) = { R with tr := tr } := by
          have := HBd.out
          cases R
          simp at this
          subst this
          rfl
        rw [e]
        exact h3
      clear HA
      go_wp2
      exact HPP.out _ _ HD.out
    | true =>
      have hgk' : gk = 2 * (R.n - tr.length) + 1 := hgk
      obtain ⟨G0, hG0⟩ : ∃ x, x = gk := ⟨gk, rfl⟩
      rw [← hG0] at hgk'
      have HG0 : Hid (G0 = gk) := hG0
      obtain ⟨h1, _, O1, pA1, pT1, q1, h3, h4⟩ := HA.out
      have HI0 : Hid (GT R tr ∧ ∃ O' pA pT q, RM wr r O' { R with tr := tr } pA pT q ∧ Fr O w wr O') := ⟨h1, O1, pA1, pT1, q1, h3, h4⟩
      have htl0 := h1.len
      obtain ⟨wr0, hwr0⟩ : ∃ x, x = wr := ⟨wr, rfl⟩
      rw [← hwr0] at HI0 ⊢
      clear HA h1 h3 h4 hgk hG0 hwr0
      go_wp2_with fail
      go_loopg [3, 4] R.all.length (fun gk2 s3 s4 wr => ∃ (i : Nat) (mb : Bool) (tr2 : List (Int × Int)), s3 = .bool mb ∧ s4 = .int .i64 (i : Int) ∧ i + gk2 = R.all.length ∧ Aside (GT R tr2 ∧ (mb = false → tr2 = tr ∧ ∀ k, k < i → ¬ Fls (fst tr) (R.all.getD k []) ∧ ∀ l, ¬ Unt (fst tr) (R.all.getD k []) l) ∧ (mb = true → tr.length < tr2.length) ∧ ∃ O' pA pT q, RM wr r O' { R with tr := tr2 } pA pT q ∧ Fr O w wr O'))
      case atStart => exact ⟨0, false, tr, rfl, rfl, by omega, HI0.out.1, fun _ => ⟨rfl, fun k hk => absurd hk (by omega)⟩, fun e => absurd e (by decide), HI0.out.2⟩
      case round =>
        obtain ⟨i, mb, tr2, rfl, rfl, hi, HA⟩ := hrel
        obtain ⟨hG, hfa, htu, O', pA', pT', q', hM, hF⟩ := HA.out
        obtain ⟨aA, cA, eA, hcA, hcell⟩ := hM.formA
        have eA' : pA' = .slice aA R.all.length cA := eA
        have k3 : wr.cell? ⟨r, 3, none⟩ = some (.slice aA R.all.length cA) := (hM.cell 3).trans (congrArg some eA')
        by_cases hlt : i < R.all.length
        · obtain ⟨bA, rfl, hq⟩ := hcell (by show 0 < R.all.length; omega)
          have cq := hq i hlt
          have hmemc : R.all.getD i [] ∈ R.all := by rw [List.getD_eq_getElem?_getD, List.getElem?_eq_getElem hlt]; exact List.getElem_mem _
          have hcl := HW.out.all _ hmemc
          have HU : Hid (Calls Try.prog 49 #[.pointer (some ⟨r, 0, none⟩), q' i] wr fun e w' => e = .returned (.tuple #[.int .i64 (ru tr2 (R.all.getD i []) 0).1, .bool (ru tr2 (R.all.getD i []) 0).2]) ∧ w' = wr) := runit_mem hM hn (by have := hG.len; show tr2.length ≤ _; omega) hlt hcl
          have hsp := ru_spec hG.once (fun x hx => (hG.bnd x hx).1) (R.all.getD i []) [] 0 (fun x hx => (hasB_lt' (hcl.2 x hx)).1) (fun m hm => absurd hm List.not_mem_nil) (fun e => absurd rfl e)
          rw [List.nil_append] at hsp
          have HSP : Hid (((ru tr2 (R.all.getD i []) 0).2 = true → Fls (fst tr2) (R.all.getD i [])) ∧ ((ru tr2 (R.all.getD i []) 0).1 ≠ 0 → Unt (fst tr2) (R.all.getD i []) (ru tr2 (R.all.getD i []) 0).1) ∧ ((ru tr2 (R.all.getD i []) 0).1 = 0 → (ru tr2 (R.all.getD i []) 0).2 = false → ¬ Fls (fst tr2) (R.all.getD i []) ∧ ∀ l, ¬ Unt (fst tr2) (R.all.getD i []) l)) := hsp
          have HMc : Hid (R.all.getD i [] ∈ R.all) := hmemc
          have HGx : Hid (GT R tr2 ∧ (mb = false → tr2 = tr ∧ ∀ k, k < i → ¬ Fls (fst tr) (R.all.getD k []) ∧ ∀ l, ¬ Unt (fst tr) (R.all.getD k []) l) ∧ (mb = true → tr.length < tr2.length)) := ⟨hG, hfa, htu⟩
          have HMM : Hid (RM wr r O' { R with tr := tr2 } pA' pT' q') := hM
          have HFF : Hid (Fr O w wr O') := hF
          have htl2 := hG.len
          have q2 : (i : Int) < (R.all.length : Int) := by omega
          obtain ⟨qv, hqv⟩ : ∃ qv, q' i = qv := ⟨_, rfl⟩
          rw [hqv] at HU cq
          obtain ⟨aq, lq, cpq, hqs⟩ : ∃ aq lq cpq, qv = .slice aq lq cpq := by
            obtain ⟨a5, c5, h5, _⟩ := hM.rq i hlt
            exact ⟨a5, _, c5, by rw [← hqv]; exact h5⟩
          subst hqs
          clear hq hsp hmemc hG hfa htu HA hcl hcell eA eA' hcA
          obtain ⟨ul, hul⟩ : ∃ ul, (ru tr2 (R.all.getD i []) 0).1 = ul := ⟨_, rfl⟩
          obtain ⟨ub, hub⟩ : ∃ ub, (ru tr2 (R.all.getD i []) 0).2 = ub := ⟨_, rfl⟩
          rw [hul, hub] at HU HSP
          clear hul hub
          cases ub with
          | true =>
            have f5 := hM.frozen 5
            have k5' : wr.cell? ⟨r, 5, none⟩ = some (.bool R.bad) := hM.cell 5
            obtain ⟨m2, r2⟩ := hM.setr (R' := { R with tr := tr2, bad := true }) 5 (.bool true) rfl rfl rfl
            have HD : Hid (RPost w r O R false (wr.setCell ⟨r, 5, none⟩ (.bool true))) := ⟨tr2, HGx.out.1, fun e => absurd e (by decide), fun _ => ⟨_, HMc.out, HSP.out.1 rfl⟩, O', _, _, _, m2, hF.trans r2⟩
            clear hM hF m2 r2 hqv
            go_wp2_with fail
            refine HU.out.mono ?_
            rintro e w' ⟨rfl, hw'⟩
            obtain rfl := hw'.symm
            go_wp2
            exact HPP.out _ _ HD.out
          | false =>
            by_cases hu0 : ul = 0
            · subst hu0
              have HX : Aside (GT R tr2 ∧ (mb = false → tr2 = tr ∧ ∀ k, k < i + 1 → ¬ Fls (fst tr) (R.all.getD k []) ∧ ∀ l, ¬ Unt (fst tr) (R.all.getD k []) l) ∧ (mb = true → tr.length < tr2.length) ∧ ∃ O' pA pT q, RM wr r O' { R with tr := tr2 } pA pT q ∧ Fr O w wr O') := by
                refine ⟨HGx.out.1, fun e => ?_, HGx.out.2.2, O', pA', pT', q', hM, hF⟩
                obtain ⟨e1, e2⟩ := HGx.out.2.1 e
                refine ⟨e1, fun k hk => ?_⟩
                by_cases ek : k = i
                · rw [ek, ← e1]
                  exact HSP.out.2.2 rfl rfl
                · exact e2 k (by omega)
              clear hM hF hqv
              go_wp2_with fail
              refine HU.out.mono ?_
              rintro e w' ⟨rfl, hw'⟩
              obtain rfl := hw'.symm
              go_wp2
              go_roundg (gk - 1)
              case measure => omega
              case rel => exact ⟨i + 1, mb, tr2, rfl, by simp, by omega, HX⟩
            · have hu0' : (ul != 0) = true := by simp [hu0]
              obtain ⟨aT, cT, eT, hcT, _⟩ := hM.formT
              have eT' : pT' = .slice aT tr2.length cT := eT
              have HP : Hid (pT' = .slice aT tr2.length cT) := eT'
              have k4 : wr.cell? ⟨r, 4, none⟩ = some (.slice aT tr2.length cT) := (hM.cell 4).trans (congrArg some eT')
              have k1 : wr.cell? ⟨r, 1, none⟩ = some (.int .i64 (R.level : Int)) := hM.cell 1
              have k4a : ∀ o, (wr.alloc o).cell? ⟨r, 4, none⟩ = some (.slice aT tr2.length cT) := fun o => ((hM.alloc o).cell 4).trans (congrArg some eT')
              have k1a : ∀ o, (wr.alloc o).cell? ⟨r, 1, none⟩ = some (.int .i64 (R.level : Int)) := fun o => (hM.alloc o).cell 1
              have HRT : Hid (wr.ownsRow 0 81 2 (.slice aT tr2.length cT) tr2.length (tr2.flatMap prF)) := by have h5 := hM.rT; rw [eT'] at h5; exact h5
              have HGS : Aside (GT R (tr2 ++ [(ul, (R.level : Int))])) := HGx.out.1.snoc HW.out HMc.out (HSP.out.2.1 hu0)
              have HLG : Aside (tr.length < (tr2 ++ [(ul, (R.level : Int))]).length) := by
                show _ < _
                rw [List.length_append]
                have h5 := HGx.out.2.2
                have h6 := HGx.out.2.1
                cases mb with
                | true => have := h5 rfl; simp; omega
                | false => have := (h6 rfl).1; rw [this]; simp
              clear hM hF hqv eT eT' hcT
              go_wp2_with fail
              refine HU.out.mono ?_
              rintro e w' ⟨rfl, hw'⟩
              obtain rfl := hw'.symm
              go_wp2_with fail
              first | (go_region_law (first
                | (refine step_append_lies _ (by rfl) _ _ _ (by rfl) 0 81 i0 _ 2 16 Try.underlying34 hi0 hz0 hz1 hz2 rfl (by omega) (.slice aT tr2.length cT) tr2.length (tr2.flatMap prF) (by rfl) ((HRT.out.alloc _).drew) ⟨wr.heap.size, 0, none⟩ 1 1 [.int .i64 ul, .int .i64 (R.level : Int)] (by rfl) (by rfl) (World.news_of_block (cs := #[.int .i64 ul, .int .i64 (R.level : Int)]) (t := 81) (fr := (0, 0)) (heap_alloc_new wr _)) (by intro u hu; simp at hu; rcases hu with rfl | rfl <;> rfl) (by omega) (by unfold maxLen; omega) (by omega) (by omega) (wr.heap.size + 1) (by simp) ?_; intro g4 cap4 w4 hown4 hgrow4 hat4 hlt4; have HK7 : Hid (w4.heap[r]? = some (.cells (rcells { R with tr := tr2 } pA' pT') 36 (0, 0)) ∧ ∃ O2, RM (w4.setCell ⟨r, 4, none⟩ (.slice (some ⟨g4, 0, none⟩) (tr2.length + 1) cap4)) r O2 { R with tr := tr2 ++ [(ul, (R.level : Int))] } pA' (.slice (some ⟨g4, 0, none⟩) (tr2.length + 1) cap4) q' ∧ Fr O' (wr.alloc (.cells #[.int .i64 ul, .int .i64 (R.level : Int)] 81)) (w4.setCell ⟨r, 4, none⟩ (.slice (some ⟨g4, 0, none⟩) (tr2.length + 1) cap4)) O2) := ((HMM.out.alloc (.cells #[.int .i64 ul, .int .i64 (R.level : Int)] 81)).reT (w1 := w4) (by rw [HP.out]; exact ⟨hgrow4.os, hgrow4.tape, hgrow4.output, hgrow4.size, hgrow4.block⟩) (.slice (some ⟨g4, 0, none⟩) (tr2.length + 1) cap4) (tr2 ++ [(ul, (R.level : Int))]) (by rw [List.length_append, List.flatMap_append]; exact hown4) (by rw [HP.out]; rcases hat4 with e | e; exact Or.inl e.symm; exact Or.inr (Or.inr ⟨g4, rfl, by rw [e]; simp, hlt4⟩))); have e4 : w4.cell? ⟨r, 4, none⟩ = some (.slice aT tr2.length cT) := ((blk_cell HK7.out.1 4).trans (congrArg some HP.out)); have f4 : w4.frozen? ⟨r, 4, none⟩ = false := (by simp [World.frozen?, HK7.out.1]); clear hown4 hgrow4 hat4 hlt4))) | fail
              all_goals
                obtain ⟨_, O2, m7, r7⟩ := HK7.out
                have HX : Aside (∃ O' pA pT q, RM (w4.setCell ⟨r, 4, none⟩ (.slice (some ⟨g4, 0, none⟩) (tr2.length + 1) cap4)) r O' { R with tr := tr2 ++ [(ul, (R.level : Int))] } pA pT q ∧ Fr O w (w4.setCell ⟨r, 4, none⟩ (.slice (some ⟨g4, 0, none⟩) (tr2.length + 1) cap4)) O') := ⟨O2, _, _, _, m7, (Fr.alloc HFF.out _).trans r7⟩
                clear m7 r7 HK7
                go_wp2
                go_roundg (gk - 1)
                case measure => omega
                case rel => exact ⟨i + 1, true, tr2 ++ [(ul, (R.level : Int))], rfl, by simp, by omega, HGS.out, fun e => absurd e (by decide), fun _ => HLG.out, HX.out⟩
        · have q2 : ¬ (i : Int) < (R.all.length : Int) := by omega
          have hmeas : 2 * (R.n - tr2.length) + (if mb = true then 1 else 0) < G0 := by
            have h5 := hG.len
            cases mb with
            | true => have := htu rfl; simp; omega
            | false => have := (hfa rfl).1; rw [this]; simp; omega
          have HX : Aside (GT R tr2 ∧ (mb = false → Closed R.all (fst tr2)) ∧ ∃ O' pA pT q, RM wr r O' { R with tr := tr2 } pA pT q ∧ Fr O w wr O') := by
            refine ⟨hG, fun e => ?_, O', pA', pT', q', hM, hF⟩
            obtain ⟨e1, e2⟩ := hfa e
            rw [e1]
            have key : ∀ c ∈ R.all, ¬ Fls (fst tr) c ∧ ∀ l, ¬ Unt (fst tr) c l := fun c hc => by
              obtain ⟨k, hk, rfl⟩ := List.getElem_of_mem hc
              have h5 := e2 k (by omega)
              rw [getD_of _ _ _ hk] at h5
              exact h5
            exact ⟨fun c hc => (key c hc).1, fun c hc => (key c hc).2⟩
          clear hM hF hG hfa htu HA hcell eA eA' hcA
          rw [HG0.out] at hmeas
          obtain ⟨M2, hM2⟩ : ∃ x, 2 * (R.n - tr2.length) + (if mb = true then 1 else 0) = x := ⟨_, rfl⟩
          rw [hM2] at hmeas
          go_wp2
          go_roundg M2
          case measure => omega
          case rel => exact ⟨mb, tr2, rfl, hM2.symm, HX⟩
end Go.Proofs.Ytpkbigjijihljaa
