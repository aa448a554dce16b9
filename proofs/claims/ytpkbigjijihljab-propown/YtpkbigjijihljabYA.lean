import Derived.Test.YtpkbigjijihljabOZ
namespace Go.Proofs.Ytpkbigjijihljab
open Go.ChangeShapes Go.WideShapes Go.ChangeAt Go.RowKit
open Go.Pr
set_option maxHeartbeats 16000000 in
set_option maxRecDepth 40000 in
theorem own_walk (vars : Int) {ad : Option Addr} {cp : Nat} {sc : List OP} (w : World) (hs : SCR w w.heap.size ad sc) (hl : sc.length ≤ 17592186044416) :
    Calls Try.prog 5 #[.int .i64 vars, .slice ad sc.length cp] w fun e w' => e = .returned (.bool true) ∧ Below w.heap.size w w' := by
  by_cases h : vars < 0 ∨ 1048576 < vars
  · clear hs hl
    generalize sc.length = n
    go_enter Try.func5, Try.ntmps5
    go_wp2_with fail
    refine (first_no vars h w).mono ?_
    rintro e w1 ⟨rfl, hb⟩
    go_wp2
    go_ret
    exact ⟨rfl, hb⟩
  · obtain ⟨n, rfl⟩ : ∃ n : Nat, vars = n := ⟨vars.toNat, by omega⟩
    have hn : n ≤ 1048576 := by omega
    have HBo : Hid (Calls Try.prog 6 #[.int .i64 (n : Int)] w fun e w' => ∃ g, e = .returned (.tuple #[.pointer (some ⟨g, 0, none⟩), .bool true]) ∧ Stb w g w'.heap.size w.heap.size (w'.alloc (.cells #[.slice none 0 0, .slice none 0 0] 30))) := (first_ok n hn w).mono fun e w' hh => by
      obtain ⟨g, O, p, e1, m, a, bl⟩ := hh
      exact ⟨g, e1, Stb.start hn m a bl⟩
    generalize hPP : (fun (e : Ending) (w' : World) => e = .returned (.bool true) ∧ Below w.heap.size w w') = PP
    have HPP : Hid (∀ g b w', Stb w g b w.heap.size w' → PP (.returned (.bool true)) w') := fun g b w' h => by rw [← hPP]; exact ⟨rfl, h.below⟩
    have HSC : Hid (∀ g b i, i < sc.length → ∃ sb so xk xn xa xl xc, ad = some ⟨sb, so, none⟩ ∧ (∀ W, Stb w g b w.heap.size W → W.cell? ⟨sb, so + i * 3, none⟩ = some (.int .i64 xk) ∧ W.cell? ⟨sb, so + i * 3 + 1, none⟩ = some (.int .i64 xn) ∧ W.cell? ⟨sb, so + i * 3 + 2, none⟩ = some (.slice xa xl xc)) ∧
      ∀ V, Stb w g b w.heap.size V → Calls Try.prog 7 #[.pointer (some ⟨b, 0, none⟩), .pointer (some ⟨g, 0, none⟩), .agg #[.int .i64 xk, .int .i64 xn, .slice xa xl xc]] V fun e w' => e = .returned (.tuple #[]) ∧ Stb w g b w.heap.size w') := fun g b i hi => scr_does hs g b i hi
    obtain ⟨i0, hi0, hz0, hz1, hz2⟩ := info_parts (P := Try.prog) (e := 3) (z := .int .i64 0) (size := 1) (bytes := 8) (by kernel_rfl)
    clear hPP h hs hn
    generalize sc.length = k at *
    go_enter Try.func5, Try.ntmps5
    go_wp2_with fail
    refine HBo.out.mono ?_
    rintro e w1 ⟨g, rfl, h1⟩
    have H1 : Hid (Stb w g w1.heap.size w.heap.size (w1.alloc (.cells #[.slice none 0 0, .slice none 0 0] 30))) := h1
    clear h1 HBo
    go_wp2_with fail
    generalize w1.alloc (.cells #[.slice none 0 0, .slice none 0 0] 30) = W1 at *
    generalize w1.heap.size = b at *
    go_loopg [8, 9, 10, 11, 12, 13, 14, 15] k (fun gk s8 s9 s10 s11 s12 s13 s14 s15 wr => ∃ i : Nat, s8 = .int .i64 (i : Int) ∧ i + gk = k ∧ Aside (Stb w g b w.heap.size wr))
    case atStart => exact ⟨0, rfl, by omega, H1.out⟩
    case round =>
      obtain ⟨i, rfl, hi2, HJ⟩ := hrel
      by_cases hlt : i < k
      · obtain ⟨sb, so, xk, xn, xa, xl, xc, rfl, hcel, hdoes⟩ := HSC.out g b i hlt
        have HDO : Hid (∀ V, Stb w g b w.heap.size V → Calls Try.prog 7 #[.pointer (some ⟨b, 0, none⟩), .pointer (some ⟨g, 0, none⟩), .agg #[.int .i64 xk, .int .i64 xn, .slice xa xl xc]] V fun e w' => e = .returned (.tuple #[]) ∧ Stb w g b w.heap.size w') := hdoes
        obtain ⟨c0, c1, c2⟩ := hcel _ HJ.out
        have q1 : (i : Int) < (k : Int) := by omega
        clear hdoes hcel H1
        go_wp2_with fail
        refine (HDO.out _ HJ.out).mono ?_
        rintro e w2 ⟨rfl, h2⟩
        obtain ⟨S, O1, O2, p, cls, dec, pA, pD, q, r1, r2, r3⟩ := h2
        have hw := r1.full.inv.wf
        have hz := r1.bsz
        obtain ⟨X, hX⟩ : ∃ X, S.trail.map litI = X := ⟨_, rfl⟩
        obtain ⟨tn, htn⟩ : ∃ tn, X.length = tn := ⟨_, rfl⟩
        have hXl : X.length = S.trail.length := by rw [← hX, List.length_map]
        have htl : tn ≤ 1048576 := by rw [← htn, hXl]; have := hw.trail_len; have := hw.n; omega
        have HE2 : Hid (EBW w g b w.heap.size O1 O2 S p cls dec pA pD q w2) := ⟨r2, r3⟩
        have HNO : Hid (∀ x, w2.heap.size ≤ x → ¬ O1 x ∧ ¬ O2 x ∧ w.heap.size ≤ x) := fun x hx => ⟨fun h => by have := r2.m.osz x h; omega, fun h => by have := r2.bk.osz x h; omega, by have := r2.bsz; omega⟩
        have HST : Hid (∀ W, EBW w g b w.heap.size O1 O2 S p cls dec pA pD q W → Stb w g b w.heap.size W) := fun W h => ⟨S, O1, O2, p, cls, dec, pA, pD, q, r1, h.1, h.2⟩
        have HTR : Hid (∀ W, EBW w g b w.heap.size O1 O2 S p cls dec pA pD q W → Calls Try.prog 11 #[.pointer (some ⟨g, 0, none⟩)] W fun e w' => ∃ a, e = .returned (.slice (some ⟨a, 0, none⟩) tn tn) ∧ EBW w g b w.heap.size O1 O2 S p cls dec pA pD q w' ∧ Got W w' O1 (.slice (some ⟨a, 0, none⟩) tn tn) X) := fun W h => (trail_some h.1.m hw).mono fun e w' hh => by
          have h5 := h.told hh.2 (by rw [List.length_map]; have := hw.trail_len; have := hw.n; omega)
          rw [hX, htn] at h5
          obtain ⟨ad, c, e1, e2, e3⟩ := h5
          have e4 := hh.1.symm.trans e1
          rw [← hXl, htn] at e4
          injection e4 with e4
          injection e4 with e5 _ e6
          subst e5
          subst e6
          exact ⟨_, e1, e2, e3⟩
        -- what is asked of the last literal
        have HLAST : Hid (0 < tn → RSN S cls dec (tn - 1) (X.getD (tn - 1) 0) ((S.trail.take (tn - 1)).map litI)) := fun h0 => by
          have h5 := r1.rsn (k := tn - 1) (by omega)
          have hlt5 : tn - 1 < X.length := by omega
          have e5 : X.getD (tn - 1) 0 = litI (S.trail.getD (tn - 1) 0) := by
            rw [getD_of _ _ _ hlt5, getD_of _ _ _ (by omega)]
            subst hX
            rw [List.getElem_map]
          rw [e5]
          exact h5
        have HCLL : Hid (∀ o, (∀ k, o = some k → k < S.cls.length) → (clL S o).length ≤ 65536) := fun o ho => by
          cases o with
          | none => exact Nat.zero_le _
          | some k =>
            show ((S.inside k).map litI).length ≤ 65536
            rw [List.length_map, hw.inside_len (ho k rfl)]
            exact (hw.clause_ok (ho k rfl)).2.2.1
        have HRE : Hid (∀ W v, EBW w g b w.heap.size O1 O2 S p cls dec pA pD q W → Calls Try.prog 16 #[.pointer (some ⟨g, 0, none⟩), .int .i64 v] W fun e w' => ∃ ad c, e = .returned (.slice ad (clL S (rsnE S v)).length c) ∧ EBW w g b w.heap.size O1 O2 S p cls dec pA pD q w' ∧ Got W w' O1 (.slice ad (clL S (rsnE S v)).length c) (clL S (rsnE S v))) := fun W v h => (reason_mem h.1.m r1.full v).mono fun e w' hh => h.told hh (by have := HCLL.out (rsnE S v) (rsn_lt r1.full v); omega)
        have HCO : Hid (∀ W, EBW w g b w.heap.size O1 O2 S p cls dec pA pD q W → Calls Try.prog 13 #[.pointer (some ⟨g, 0, none⟩)] W fun e w' => ∃ ad c, e = .returned (.slice ad (clL S S.clash).length c) ∧ EBW w g b w.heap.size O1 O2 S p cls dec pA pD q w' ∧ Got W w' O1 (.slice ad (clL S S.clash).length c) (clL S S.clash)) := fun W h => (conflict_mem h.1.m hw).mono fun e w' hh => h.told hh (by have := HCLL.out S.clash hw.clash; omega)
        have HRL : Hid (∀ v, (clL S (rsnE S v)).length ≤ 65536) := fun v => HCLL.out _ (rsn_lt r1.full v)
        have HCLN : Hid ((clL S S.clash).length ≤ 65536) := HCLL.out _ hw.clash
        have HLV : Hid (∀ W v, EBW w g b w.heap.size O1 O2 S p cls dec pA pD q W → Calls Try.prog 17 #[.pointer (some ⟨g, 0, none⟩), .int .i64 v] W fun e w' => e = .returned (.int .i64 (levE S v)) ∧ ∃ m, w' = W.drewN m) := fun W v h => levelOf_mem h.1.m r1.full v
        have HDC : Hid (∃ aD cD, ∀ W, EBW w g b w.heap.size O1 O2 S p cls dec pA pD q W → W.cell? ⟨b, 1, none⟩ = some (.slice aD dec.length cD) ∧ ∀ i, i < dec.length → ∃ bD, aD = some ⟨bD, 0, none⟩ ∧ W.cell? ⟨bD, i, none⟩ = some (.int .i64 (dec.getD i 0))) := by
          obtain ⟨_, aD, cD, eD⟩ := r2.bk.formA
          refine ⟨aD, cD, fun W h => ⟨(h.1.bk.cell 1).trans (congrArg some eD), fun i hi => ?_⟩⟩
          obtain ⟨bD, cD', e6, e7⟩ := h.1.bk.decAt hi
          rw [eD] at e6
          injection e6 with e8 _ _
          exact ⟨bD, e8, e7⟩
        have HOS : Hid (∀ k, O1 k → k < w2.heap.size) := r2.m.osz
        have hdl := hz.d
        clear r1 r2 r3 hw hz hX hXl c0 c1 c2 HDO HJ
        go_wp2_with fail
        refine (HTR.out _ HE2.out).mono ?_
        rintro e w3 ⟨aT, rfl, h3a, h3b⟩
        have HE3 : Hid (EBW w g b w.heap.size O1 O2 S p cls dec pA pD q w3) := h3a
        have HT3 : Hid (Got w2 w3 O1 (.slice (some ⟨aT, 0, none⟩) tn tn) X) := h3b
        have HTB : Hid (∀ x, (Value.slice (some ⟨aT, 0, none⟩) tn tn).ownBlock = some x → w2.heap.size ≤ x ∧ x < w3.heap.size) := h3b.new
        have HTX : Hid (X.length = tn) := htn
        have HOT : Hid (w3.ownsRow 0 3 1 (.slice (some ⟨aT, 0, none⟩) tn tn) tn (X.map (Value.int .i64))) := by
          have o3 := h3b.own
          rw [htn] at o3
          exact o3
        clear h3a h3b HE2 htn
        by_cases ht0 : tn = 0
        · subst ht0
          have HC40 : Hid (CPY w3 (w3.alloc (.cells #[] 3)) X w3.heap.size) := by
            show CPY _ _ _ _
            rw [List.eq_nil_of_length_eq_zero HTX.out]
            exact CPY.nil w3
          go_wp2_with fail
          obtain ⟨w4, g4, hw4, hg4⟩ : ∃ w4 g4, w3.alloc (.cells #[] 3) = w4 ∧ w3.heap.size = g4 := ⟨_, _, rfl, rfl⟩
          have HC4 : Hid (CPY w3 w4 X g4) := by
            show CPY _ _ _ _
            rw [← hw4, ← hg4]
            exact HC40.out
          rw [hw4, hg4]
          clear hw4 hg4 HC40
          have HE4 : Hid (EBW w g b w.heap.size O1 O2 S p cls dec pA pD q w4) := HE3.out.over HC4.out.bel
          refine (HTR.out _ HE4.out).mono ?_
          rintro e w5 ⟨aU, rfl, h5a, h5b⟩
          have HE5 : Hid (EBW w g b w.heap.size O1 O2 S p cls dec pA pD q w5) := h5a
          have HU5 : Hid (Got w4 w5 O1 (.slice (some ⟨aU, 0, none⟩) 0 0) X) := h5b
          have hbT := HTB.out aT rfl
          have HAL0 : Hid (AL w5 (Value.ownBlock (.slice (some ⟨aT, 0, none⟩) 0 0)) w5 (.slice (some ⟨aT, 0, none⟩) 0 0) 0) := by
            have o3 := HT3.out.own
            rw [HTX.out] at o3
            refine AL.start (row_same o3 (fun x hx => ?_))
            have e2 : aT = x := by simpa [Value.ownBlock] using hx
            subst e2
            have := HC4.out.bel.size
            exact (h5b.fr.kept aT (by omega) ((HNO.out aT hbT.1).1)).trans (HC4.out.bel.block aT hbT.2)
          have HRF : Hid (∀ wr v n, AL w5 (Value.ownBlock (.slice (some ⟨aT, 0, none⟩) 0 0)) wr v n → EBW w g b w.heap.size O1 O2 S p cls dec pA pD q wr ∧ Row wr (some ⟨aU, 0, none⟩) X ∧ Row wr (some ⟨g4, 0, none⟩) X) := fun wr v n hal => by
            refine ⟨HE5.out.grown hal.grown (fun x hx => ?_), ?_, ?_⟩
            · have e2 : aT = x := by simpa [Value.ownBlock] using hx
              subst e2
              exact HNO.out aT hbT.1
            · have o5 := HU5.out.own
              rw [HTX.out] at o5
              refine (own_row o5).grown hal.grown (fun a o e _ e2 => ?_)
              injection e with e
              injection e with e3 _ _
              have e4 : aT = a := (Option.some.inj e2).symm
              have := (HU5.out.new aU rfl).1
              have := HC4.out.bel.size
              omega
            · have o4 : Row w5 (some ⟨g4, 0, none⟩) X := Row.frr HC4.out.row HU5.out.fr (fun a o e _ => by
                injection e with e
                injection e with e3 _ _
                have := HC4.out.ge
                exact (HNO.out a (by omega)).1)
              refine o4.grown hal.grown (fun a o e _ e2 => ?_)
              injection e with e
              injection e with e3 _ _
              have e4 : aT = a := (Option.some.inj e2).symm
              have := HC4.out.ge
              omega
          have HSM : Hid (∀ W aX aY cX cY, Row W aX X → Row W aY X → Calls Try.prog 14 #[.slice aX 0 cX, .slice aY 0 cY] W fun e w' => e = .returned (.bool true) ∧ ∃ m', w' = W.drewN m') := fun W aX aY cX cY h1 h2 => by
            have h5 := same_any (cX := cX) (cY := cY) W h1 h2 (by rw [HTX.out]; omega)
            rw [HTX.out] at h5
            exact h5
          have HGL : Hid (g4 < w5.heap.size) := Nat.lt_of_lt_of_le HC4.out.lt HU5.out.fr.size
          have HG4 : Hid (w2.heap.size ≤ g4) := by
            show _ ≤ _
            have := HC4.out.ge
            omega
          clear h5a h5b hbT HT3 HTB HU5 HC4 HE4 HE3
          go_wp2_with fail
          go_loopg [12] 0 (fun gk2 s12 wr2 => ∃ j : Nat, s12 = .int .i64 (j : Int) ∧ j + gk2 = 0 ∧ Aside (AL w5 (Value.ownBlock (.slice (some ⟨aT, 0, none⟩) 0 0)) wr2 (.slice (some ⟨aT, 0, none⟩) 0 0) 0))
          case atStart => exact ⟨0, rfl, by omega, HAL0.out⟩
          case round =>
            obtain ⟨j, rfl, hj, HA1⟩ := hrel
            by_cases hlt2 : j < 0
            · exact absurd hlt2 (Nat.not_lt_zero j)
            · have hja : j = 0 := by omega
              subst hja
              have HA2 : Hid (AL w5 (Value.ownBlock (.slice (some ⟨aT, 0, none⟩) 0 0)) wr (.slice (some ⟨aT, 0, none⟩) 0 0) (0 + 0)) := HA1.out
              clear HAL0 HA1
              go_wp2_with fail
              go_loopg [9, 13] 16 (fun gk3 s9 s13 wr3 => ∃ x : Nat, s13 = .int .i64 (x : Int) ∧ x + gk3 = 16 ∧ Aside (AL w5 (Value.ownBlock (.slice (some ⟨aT, 0, none⟩) 0 0)) wr3 s9 (0 + x)))
              case atStart => exact ⟨0, rfl, by omega, HA2.out⟩
              case round =>
                obtain ⟨x, rfl, hx, HA3⟩ := hrel
                obtain ⟨ad2, c2, rfl, hc2, _⟩ := HA3.out.form
                clear HA2
                by_cases hlt3 : x < 16
                · obtain ⟨LL, rLL⟩ := HA3.out.row
                  have HOW : Hid ((wr.alloc (.cells #[.int .i64 8888888] 3)).ownsRow 0 3 1 (.slice ad2 (0 + x) c2) (0 + x) LL) := rLL.alloc _
                  have HGR : Hid (∀ (w5' : World) g5 cap5 L5, w5'.ownsRow 0 3 1 (.slice (some ⟨g5, 0, none⟩) (0 + x + 1) cap5) (0 + x + 1) L5 → (wr.alloc (.cells #[.int .i64 8888888] 3)).grownBy w5' (Value.ownBlock (.slice ad2 (0 + x) c2)) → ((Value.slice ad2 (0 + x) c2).ownBlock = some g5 ∨ g5 = wr.heap.size + 1) → AL w5 (Value.ownBlock (.slice (some ⟨aT, 0, none⟩) 0 0)) w5' (.slice (some ⟨g5, 0, none⟩) (0 + x + 1) cap5) (0 + (x + 1))) := fun w5' g5 cap5 L5 h1 h2 h3 => HA3.out.grow h1 h2 h3
                  have q2 : (x : Int) < 16 := by omega
                  have hy1 : 0 + x ≤ 1048592 := by omega
                  clear rLL
                  generalize hjx : 0 + x = y at *
                  go_wp2_with (at_builtin; refine wpList_append_lies _ rfl _ _ 28 rfl 0 3 i0 (.int .i64 0) 1 8 Try.underlying28 hi0 hz0 hz1 hz2 rfl (by decide) _ _ _ rfl HOW.out ⟨wr.heap.size, 0, none⟩ 1 1 [.int .i64 8888888] rfl rfl (World.news_of_block (cs := #[.int .i64 8888888]) (t := 3) (fr := (0, 0)) (heap_alloc_new wr _)) (by intro u hu; simp at hu; subst hu; rfl) (by omega) (by unfold maxLen; omega) (by omega) (by omega) (wr.heap.size + 1) (by simp) ?_; intro g5 cap5 w6 hown5 hgrow5 hat5 hlt5; have HN5 : Aside (AL w5 (Value.ownBlock (.slice (some ⟨aT, 0, none⟩) 0 0)) w6 (.slice (some ⟨g5, 0, none⟩) (y + 1) cap5) (0 + (x + 1))) := (HGR.out w6 g5 cap5 _ hown5 hgrow5 hat5); clear hown5 hgrow5 hat5 hlt5; refine Hid.out ?_)
                  refine Lib.hid ?_
                  go_wp2
                  go_roundg (gk - 1)
                  case measure => omega
                  case rel => exact ⟨x + 1, by simp, by omega, HN5⟩
                · have hx16 : x = 16 := by omega
                  subst hx16
                  obtain ⟨e6, r6u, r6w⟩ := HRF.out _ _ _ HA3.out
                  have HSZ : Hid (w5.heap.size ≤ wr.heap.size) := HA3.out.size
                  have HE6 : Hid (EBW w g b w.heap.size O1 O2 S p cls dec pA pD q wr) := e6
                  have HRU : Hid (Row wr (some ⟨aU, 0, none⟩) X) := r6u
                  have HRW : Hid (Row wr (some ⟨g4, 0, none⟩) X) := r6w
                  clear e6 r6u r6w HRF HA3
                  go_wp2_with fail
                  refine (HSM.out wr _ _ _ _ HRU.out HRW.out).mono ?_
                  rintro e w6 ⟨rfl, m6, rfl⟩
                  have HQ6 : Hid (QW w w2 g b w.heap.size O1 O2 S p cls dec pA pD q X g4 (wr.drewN m6)) := ⟨HE6.out.drewN, HRW.out, HG4.out, Nat.lt_of_lt_of_le HGL.out HSZ.out, HNO.out⟩
                  generalize wr.drewN m6 = W6 at *
                  clear HRU HRW HE6
                  go_wp2_with fail
                  refine (HTR.out _ HQ6.out.1).mono ?_
                  rintro e w7 ⟨aV, rfl, h7a, h7b⟩
                  have HQ7 : Hid (QW w w2 g b w.heap.size O1 O2 S p cls dec pA pD q X g4 w7) := HQ6.out.told h7a h7b
                  have HRV : Hid (Row w7 (some ⟨aV, 0, none⟩) X) := by
                    have o5 := h7b.own
                    rw [HTX.out] at o5
                    exact own_row o5
                  clear h7a h7b HQ6
                  go_wp2_with fail
                  refine (HSM.out w7 _ _ _ _ HRV.out HQ7.out.2.1).mono ?_
                  rintro e w8 ⟨rfl, m8, rfl⟩
                  have HQ8 : Hid (QW w w2 g b w.heap.size O1 O2 S p cls dec pA pD q X g4 (w7.drewN m8)) := HQ7.out.drewN
                  generalize w7.drewN m8 = W8 at *
                  clear HRV HQ7 HSM HTR
                  have HS8 : Aside (Stb w g b w.heap.size W8) := HST.out _ HQ8.out.1
                  go_wp2
                  go_roundg (k - (i + 1))
                  case measure => omega
                  case rel => exact ⟨i + 1, by simp, by omega, HS8⟩
        · obtain ⟨b1, o1, hT0, hlit, hml, hnw, hone, _⟩ := cpy_ahead (cp := tn) (own_row HOT.out) HTX.out ht0
          cases hT0
          have HLit : Hid ((w3.alloc (.cells #[] 3)).ownsRow 0 3 1 (.slice (some ⟨w3.heap.size, 0, none⟩) 0 0) 0 []) := hlit
          have HML : Hid ((X.map (Value.int .i64)).length = tn * 1) := hml
          have HNW : Hid (∀ j u, (X.map (Value.int .i64))[j]? = some u → (w3.alloc (.cells #[] 3)).cell? ((⟨aT, 0, none⟩ : Addr).add j) = some u) := hnw
          have HONE : Hid (∀ u ∈ X.map (Value.int .i64), u.oneCell' = true) := hone
          have HCO2 : Hid (∀ (w4 : World) g4 cap4, w4.ownsRow 0 3 1 (.slice (some ⟨g4, 0, none⟩) (0 + tn) cap4) (0 + tn) ([] ++ X.map (Value.int .i64)) → (w3.alloc (.cells #[] 3)).grownBy w4 (some w3.heap.size) → (some w3.heap.size = some g4 ∨ g4 = w3.heap.size + 1) → g4 < w4.heap.size → CPY w3 w4 X g4) := fun w4 g4 cap4 h1 h2 h3 h4 => by
            rw [Nat.zero_add, List.nil_append, ← HTX.out] at h1
            exact CPY.of h1 h2 h3 h4
          clear hlit hml hnw hone HOT
          go_wp2_with (at_builtin; refine wpList_append_lies _ rfl _ _ 28 rfl 0 3 i0 (.int .i64 0) 1 8 Try.underlying28 hi0 hz0 hz1 hz2 rfl (by decide) _ _ _ rfl HLit.out ⟨aT, 0, none⟩ tn tn (X.map (Value.int .i64)) rfl HML.out HNW.out HONE.out (by omega) (by unfold maxLen; omega) (by omega) (by omega) (w3.heap.size + 1) (by simp) ?_; intro g4 cap4 w4 hown4 hgrow4 hat4 hlt4; have HC4 : Hid (CPY w3 w4 X g4) := (HCO2.out w4 g4 cap4 hown4 hgrow4 hat4 hlt4); clear hown4 hgrow4 hat4 hlt4; refine Hid.out ?_)
          refine Lib.hid ?_
          clear HLit HML HNW HONE HCO2
          go_wp2_with fail
          have HE4 : Hid (EBW w g b w.heap.size O1 O2 S p cls dec pA pD q w4) := HE3.out.over HC4.out.bel
          refine (HTR.out _ HE4.out).mono ?_
          rintro e w5 ⟨aU, rfl, h5a, h5b⟩
          have HE5 : Hid (EBW w g b w.heap.size O1 O2 S p cls dec pA pD q w5) := h5a
          have HU5 : Hid (Got w4 w5 O1 (.slice (some ⟨aU, 0, none⟩) tn tn) X) := h5b
          have hbT := HTB.out aT rfl
          have HAL0 : Hid (AL w5 (Value.ownBlock (.slice (some ⟨aT, 0, none⟩) tn tn)) w5 (.slice (some ⟨aT, 0, none⟩) tn tn) tn) := by
            have o3 := HT3.out.own
            rw [HTX.out] at o3
            refine AL.start (row_same o3 (fun x hx => ?_))
            have e2 : aT = x := by simpa [Value.ownBlock] using hx
            subst e2
            have := HC4.out.bel.size
            exact (h5b.fr.kept aT (by omega) ((HNO.out aT hbT.1).1)).trans (HC4.out.bel.block aT hbT.2)
          have HRF : Hid (∀ wr v n, AL w5 (Value.ownBlock (.slice (some ⟨aT, 0, none⟩) tn tn)) wr v n → EBW w g b w.heap.size O1 O2 S p cls dec pA pD q wr ∧ Row wr (some ⟨aU, 0, none⟩) X ∧ Row wr (some ⟨g4, 0, none⟩) X) := fun wr v n hal => by
            refine ⟨HE5.out.grown hal.grown (fun x hx => ?_), ?_, ?_⟩
            · have e2 : aT = x := by simpa [Value.ownBlock] using hx
              subst e2
              exact HNO.out aT hbT.1
            · have o5 := HU5.out.own
              rw [HTX.out] at o5
              refine (own_row o5).grown hal.grown (fun a o e _ e2 => ?_)
              injection e with e
              injection e with e3 _ _
              have e4 : aT = a := (Option.some.inj e2).symm
              have := (HU5.out.new aU rfl).1
              have := HC4.out.bel.size
              omega
            · have o4 : Row w5 (some ⟨g4, 0, none⟩) X := Row.frr HC4.out.row HU5.out.fr (fun a o e _ => by
                injection e with e
                injection e with e3 _ _
                have := HC4.out.ge
                exact (HNO.out a (by omega)).1)
              refine o4.grown hal.grown (fun a o e _ e2 => ?_)
              injection e with e
              injection e with e3 _ _
              have e4 : aT = a := (Option.some.inj e2).symm
              have := HC4.out.ge
              omega
          have HSM : Hid (∀ W aX aY cX cY, Row W aX X → Row W aY X → Calls Try.prog 14 #[.slice aX tn cX, .slice aY tn cY] W fun e w' => e = .returned (.bool true) ∧ ∃ m', w' = W.drewN m') := fun W aX aY cX cY h1 h2 => by
            have h5 := same_any (cX := cX) (cY := cY) W h1 h2 (by rw [HTX.out]; omega)
            rw [HTX.out] at h5
            exact h5
          have HGL : Hid (g4 < w5.heap.size) := Nat.lt_of_lt_of_le HC4.out.lt HU5.out.fr.size
          have HG4 : Hid (w2.heap.size ≤ g4) := by
            show _ ≤ _
            have := HC4.out.ge
            omega
          clear h5a h5b hbT HT3 HTB HU5 HC4 HE4 HE3
          go_wp2_with fail
          go_loopg [12] tn (fun gk2 s12 wr2 => ∃ j : Nat, s12 = .int .i64 (j : Int) ∧ j + gk2 = tn ∧ Aside (AL w5 (Value.ownBlock (.slice (some ⟨aT, 0, none⟩) tn tn)) wr2 (.slice (some ⟨aT, 0, none⟩) tn tn) tn))
          case atStart => exact ⟨0, rfl, by omega, HAL0.out⟩
          case round =>
            obtain ⟨j, rfl, hj, HA1⟩ := hrel
            by_cases hlt2 : j < tn
            · obtain ⟨⟨z, cz⟩, fz, hst⟩ := HA1.out.set hlt2 (.int .i64 7777777)
              have HSTo : Aside (AL w5 (Value.ownBlock (.slice (some ⟨aT, 0, none⟩) tn tn)) _ (.slice (some ⟨aT, 0, none⟩) tn tn) tn) := hst
              have q2 : (j : Int) < ((tn : Nat) : Int) := by omega
              clear hst
              go_wp2
              go_roundg (gk - 1)
              case measure => omega
              case rel => exact ⟨j + 1, by simp, by omega, HSTo⟩
            · have hja : j = tn := by omega
              subst hja
              have HA2 : Hid (AL w5 (Value.ownBlock (.slice (some ⟨aT, 0, none⟩) j j)) wr (.slice (some ⟨aT, 0, none⟩) j j) (j + 0)) := HA1.out
              clear HAL0 HA1
              go_wp2_with fail
              go_loopg [9, 13] 16 (fun gk3 s9 s13 wr3 => ∃ x : Nat, s13 = .int .i64 (x : Int) ∧ x + gk3 = 16 ∧ Aside (AL w5 (Value.ownBlock (.slice (some ⟨aT, 0, none⟩) j j)) wr3 s9 (j + x)))
              case atStart => exact ⟨0, rfl, by omega, HA2.out⟩
              case round =>
                obtain ⟨x, rfl, hx, HA3⟩ := hrel
                obtain ⟨ad2, c2, rfl, hc2, _⟩ := HA3.out.form
                clear HA2
                by_cases hlt3 : x < 16
                · obtain ⟨LL, rLL⟩ := HA3.out.row
                  have HOW : Hid ((wr.alloc (.cells #[.int .i64 8888888] 3)).ownsRow 0 3 1 (.slice ad2 (j + x) c2) (j + x) LL) := rLL.alloc _
                  have HGR : Hid (∀ (w5' : World) g5 cap5 L5, w5'.ownsRow 0 3 1 (.slice (some ⟨g5, 0, none⟩) (j + x + 1) cap5) (j + x + 1) L5 → (wr.alloc (.cells #[.int .i64 8888888] 3)).grownBy w5' (Value.ownBlock (.slice ad2 (j + x) c2)) → ((Value.slice ad2 (j + x) c2).ownBlock = some g5 ∨ g5 = wr.heap.size + 1) → AL w5 (Value.ownBlock (.slice (some ⟨aT, 0, none⟩) j j)) w5' (.slice (some ⟨g5, 0, none⟩) (j + x + 1) cap5) (j + (x + 1))) := fun w5' g5 cap5 L5 h1 h2 h3 => HA3.out.grow h1 h2 h3
                  have q2 : (x : Int) < 16 := by omega
                  have hy1 : j + x ≤ 1048592 := by omega
                  clear rLL
                  generalize hjx : j + x = y at *
                  go_wp2_with (at_builtin; refine wpList_append_lies _ rfl _ _ 28 rfl 0 3 i0 (.int .i64 0) 1 8 Try.underlying28 hi0 hz0 hz1 hz2 rfl (by decide) _ _ _ rfl HOW.out ⟨wr.heap.size, 0, none⟩ 1 1 [.int .i64 8888888] rfl rfl (World.news_of_block (cs := #[.int .i64 8888888]) (t := 3) (fr := (0, 0)) (heap_alloc_new wr _)) (by intro u hu; simp at hu; subst hu; rfl) (by omega) (by unfold maxLen; omega) (by omega) (by omega) (wr.heap.size + 1) (by simp) ?_; intro g5 cap5 w6 hown5 hgrow5 hat5 hlt5; have HN5 : Aside (AL w5 (Value.ownBlock (.slice (some ⟨aT, 0, none⟩) j j)) w6 (.slice (some ⟨g5, 0, none⟩) (y + 1) cap5) (j + (x + 1))) := (HGR.out w6 g5 cap5 _ hown5 hgrow5 hat5); clear hown5 hgrow5 hat5 hlt5; refine Hid.out ?_)
                  refine Lib.hid ?_
                  go_wp2
                  go_roundg (gk - 1)
                  case measure => omega
                  case rel => exact ⟨x + 1, by simp, by omega, HN5⟩
                · have hx16 : x = 16 := by omega
                  subst hx16
                  obtain ⟨e6, r6u, r6w⟩ := HRF.out _ _ _ HA3.out
                  have HSZ : Hid (w5.heap.size ≤ wr.heap.size) := HA3.out.size
                  have HE6 : Hid (EBW w g b w.heap.size O1 O2 S p cls dec pA pD q wr) := e6
                  have HRU : Hid (Row wr (some ⟨aU, 0, none⟩) X) := r6u
                  have HRW : Hid (Row wr (some ⟨g4, 0, none⟩) X) := r6w
                  clear e6 r6u r6w HRF HA3
                  go_wp2_with fail
                  refine (HSM.out wr _ _ _ _ HRU.out HRW.out).mono ?_
                  rintro e w6 ⟨rfl, m6, rfl⟩
                  have HQ6 : Hid (QW w w2 g b w.heap.size O1 O2 S p cls dec pA pD q X g4 (wr.drewN m6)) := ⟨HE6.out.drewN, HRW.out, HG4.out, Nat.lt_of_lt_of_le HGL.out HSZ.out, HNO.out⟩
                  generalize wr.drewN m6 = W6 at *
                  clear HRU HRW HE6
                  go_wp2_with fail
                  refine (HTR.out _ HQ6.out.1).mono ?_
                  rintro e w7 ⟨aV, rfl, h7a, h7b⟩
                  have HQ7 : Hid (QW w w2 g b w.heap.size O1 O2 S p cls dec pA pD q X g4 w7) := HQ6.out.told h7a h7b
                  have HRV : Hid (Row w7 (some ⟨aV, 0, none⟩) X) := by
                    have o5 := h7b.own
                    rw [HTX.out] at o5
                    exact own_row o5
                  clear h7a h7b HQ6
                  go_wp2_with fail
                  refine (HSM.out w7 _ _ _ _ HRV.out HQ7.out.2.1).mono ?_
                  rintro e w8 ⟨rfl, m8, rfl⟩
                  have HQ8 : Hid (QW w w2 g b w.heap.size O1 O2 S p cls dec pA pD q X g4 (w7.drewN m8)) := HQ7.out.drewN
                  generalize w7.drewN m8 = W8 at *
                  clear HRV HQ7 HSM HTR
                  obtain ⟨t1, hj1⟩ : ∃ t1, j = t1 + 1 := ⟨j - 1, by omega⟩
                  have hs1 : (j : Int) - 1 = (t1 : Int) := by omega
                  have hs2 : (t1 : Int) < (j : Int) := by omega
                  have hs4 : wrap64 ((j : Int) - 1) = (t1 : Int) := by unfold wrap64; omega
                  have hs5 : (0 : Int) ≤ (t1 : Int) := by omega
                  have hs3 : ((j : Int) == 0) = false := beq_false_of_ne (by omega)
                  have hR := HLAST.out (by omega)
                  rw [show j - 1 = t1 by omega] at hR
                  obtain ⟨l, hl5⟩ : ∃ l, X.getD t1 0 = l := ⟨_, rfl⟩
                  rw [hl5] at hR
                  have hne := hR.ne
                  have hlb := hR.lb
                  obtain ⟨lv, lE, lv1, lv2, hcase⟩ := hR.lev
                  have HCW : Hid (∀ W, QW w w2 g b w.heap.size O1 O2 S p cls dec pA pD q X g4 W → W.cell? ⟨g4, t1, none⟩ = some (.int .i64 l)) := fun W h => by
                    obtain ⟨a, o, e1, e2⟩ := h.2.1 (by rw [HTX.out]; omega)
                    cases e1
                    have e3 := e2 t1 (by rw [HTX.out]; omega)
                    rw [Nat.zero_add, hl5] at e3
                    exact e3
                  clear hR hl5 HLAST hj1 ht0
                  obtain ⟨vv, hvv⟩ : ∃ vv, (if l < 0 then -l else l) = vv := ⟨_, rfl⟩
                  rw [hvv] at lE hcase
                  by_cases h0 : l < 0
                  · obtain ⟨nn, rfl⟩ : ∃ nn : Nat, l = -(nn : Int) := ⟨(-l).toNat, by omega⟩
                    rw [if_pos h0, Int.neg_neg] at hvv
                    subst hvv
                    have g1 : -1048576 ≤ -(nn : Int) := by omega
                    have g2 : (nn : Int) ≤ 1048576 := by omega
                    have g2' : -(nn : Int) ≤ 1048576 := by omega
                    have g0 : (0 : Int) < (nn : Int) := by omega
                    obtain ⟨R, hRR⟩ : ∃ R, clL S (rsnE S (nn : Int)) = R := ⟨_, rfl⟩
                    obtain ⟨C, hCC⟩ : ∃ C, clL S S.clash = C := ⟨_, rfl⟩
                    have HRE2 : Hid (∀ W, QW w w2 g b w.heap.size O1 O2 S p cls dec pA pD q X g4 W → Calls Try.prog 16 #[.pointer (some ⟨g, 0, none⟩), .int .i64 (nn : Int)] W fun e w' => ∃ ad c, e = .returned (.slice ad R.length c) ∧ QW w w2 g b w.heap.size O1 O2 S p cls dec pA pD q X g4 w' ∧ Got W w' O1 (.slice ad R.length c) R) := fun W h => (HRE.out W (nn : Int) h.1).mono fun e w' hh => by
                      rw [hRR] at hh
                      obtain ⟨ad, c, e1, e2, e3⟩ := hh
                      exact ⟨ad, c, e1, h.told e2 e3, e3⟩
                    have HCO2 : Hid (∀ W, QW w w2 g b w.heap.size O1 O2 S p cls dec pA pD q X g4 W → Calls Try.prog 13 #[.pointer (some ⟨g, 0, none⟩)] W fun e w' => ∃ ad c, e = .returned (.slice ad C.length c) ∧ QW w w2 g b w.heap.size O1 O2 S p cls dec pA pD q X g4 w' ∧ Got W w' O1 (.slice ad C.length c) C) := fun W h => (HCO.out W h.1).mono fun e w' hh => by
                      rw [hCC] at hh
                      obtain ⟨ad, c, e1, e2, e3⟩ := hh
                      exact ⟨ad, c, e1, h.told e2 e3, e3⟩
                    have hRl : R.length ≤ 65536 := by rw [← hRR]; exact HRL.out _
                    have hCl : C.length ≤ 65536 := by rw [← hCC]; exact HCLN.out
                    have HLV2 : Hid (∀ W, QW w w2 g b w.heap.size O1 O2 S p cls dec pA pD q X g4 W → Calls Try.prog 17 #[.pointer (some ⟨g, 0, none⟩), .int .i64 (nn : Int)] W fun e w' => e = .returned (.int .i64 (lv : Int)) ∧ QW w w2 g b w.heap.size O1 O2 S p cls dec pA pD q X g4 w') := fun W h => (HLV.out W (nn : Int) h.1).mono fun e w' hh => by
                      rw [lE] at hh
                      obtain ⟨e1, m, rfl⟩ := hh
                      exact ⟨e1, h.drewN⟩
                    have HAL1 : Hid (∀ W1 W2 W3 ad1 c1 ad2 c2, QW w w2 g b w.heap.size O1 O2 S p cls dec pA pD q X g4 W1 → Got W1 W2 O1 (.slice ad1 R.length c1) R → Got W2 W3 O1 (.slice ad2 R.length c2) R → QW w w2 g b w.heap.size O1 O2 S p cls dec pA pD q X g4 W3 → Calls Try.prog 15 #[.slice ad1 R.length c1, .slice ad2 R.length c2] W3 fun e w' => e = .returned (.bool true) ∧ QW w w2 g b w.heap.size O1 O2 S p cls dec pA pD q X g4 w') := fun W1 W2 W3 ad1 c1 ad2 c2 h1 h2 h3 h4 => QW.alone h1 h2 h3 h4 hRl
                    have HAL2 : Hid (∀ W1 W2 W3 ad1 c1 ad2 c2, QW w w2 g b w.heap.size O1 O2 S p cls dec pA pD q X g4 W1 → Got W1 W2 O1 (.slice ad1 C.length c1) C → Got W2 W3 O1 (.slice ad2 C.length c2) C → QW w w2 g b w.heap.size O1 O2 S p cls dec pA pD q X g4 W3 → Calls Try.prog 15 #[.slice ad1 C.length c1, .slice ad2 C.length c2] W3 fun e w' => e = .returned (.bool true) ∧ QW w w2 g b w.heap.size O1 O2 S p cls dec pA pD q X g4 w') := fun W1 W2 W3 ad1 c1 ad2 c2 h1 h2 h3 h4 => QW.alone h1 h2 h3 h4 hCl
                    have HHR : Hid ((∃ kk, rsnE S (nn : Int) = some kk ∧ (-(nn : Int)) ∈ clL S (some kk)) → ∀ W ad c, Row W ad R → Calls Try.prog 18 #[.slice ad R.length c, .int .i64 (-(nn : Int))] W fun e w' => e = .returned (.bool true) ∧ ∃ m', w' = W.drewN m') := fun hk W ad c hrow => by
                      obtain ⟨kk, e1, e2⟩ := hk
                      have h5 := lhas_any (cp := c) W hrow (by omega) (-(nn : Int))
                      rw [e1] at hRR
                      rw [decide_eq_true (by rw [← hRR]; exact e2)] at h5
                      exact h5
                    have HCASE : Hid ((1 ≤ lv ∧ dec.getD (lv - 1) 0 = (-(nn : Int))) ∨ ((∃ kk, rsnE S (nn : Int) = some kk ∧ (-(nn : Int)) ∈ clL S (some kk)) ∧ ¬ (1 ≤ lv ∧ dec.getD (lv - 1) 0 = (-(nn : Int))))) := by
                      show _ ∨ _
                      rcases hcase with ⟨_, e2, e3⟩ | ⟨kk, e1, _, e3, e4, e5, _⟩
                      · exact Or.inl ⟨e2, e3⟩
                      · exact Or.inr ⟨⟨kk, e1, by rw [e3]; exact e5⟩, e4⟩
                    clear hcase lE hlb hne hRR hCC HRE HCO HLV
                    obtain ⟨rn, hrn⟩ : ∃ rn, R.length = rn := ⟨_, rfl⟩
                    obtain ⟨cn, hcn⟩ : ∃ cn, C.length = cn := ⟨_, rfl⟩
                    rw [hrn] at HRE2 HAL1 HHR hRl
                    rw [hcn] at HCO2 HAL2 hCl
                    have HRN : Hid (R.length = rn) := hrn
                    clear hrn hcn
                    have c8 := HCW.out W8 HQ8.out
                    have HRO : Hid (∀ W W' ad c, Got W W' O1 (.slice ad rn c) R → Row W' ad R) := fun W W' ad c h => by
                      have o := h.own
                      rw [HRN.out] at o
                      exact own_row o
                    go_wp2_with fail
                    refine (HRE2.out _ HQ8.out).mono ?_
                    rintro e w9 ⟨a9, c9, rfl, h9a, h9b⟩
                    have HQ9 : Hid (QW w w2 g b w.heap.size O1 O2 S p cls dec pA pD q X g4 w9) := h9a
                    have HG9 : Hid (Got W8 w9 O1 (.slice a9 rn c9) R) := h9b
                    clear h9a h9b c8
                    go_wp2_with fail
                    refine (HRE2.out _ HQ9.out).mono ?_
                    rintro e w10 ⟨a10, c10, rfl, h10a, h10b⟩
                    have HQ10 : Hid (QW w w2 g b w.heap.size O1 O2 S p cls dec pA pD q X g4 w10) := h10a
                    have HG10 : Hid (Got w9 w10 O1 (.slice a10 rn c10) R) := h10b
                    clear h10a h10b HQ9
                    go_wp2_with fail
                    refine (HAL1.out _ _ _ _ _ _ _ HQ8.out HG9.out HG10.out HQ10.out).mono ?_
                    rintro e w11 ⟨rfl, h11⟩
                    have HQ11 : Hid (QW w w2 g b w.heap.size O1 O2 S p cls dec pA pD q X g4 w11) := h11
                    clear h11 HG9 HG10 HQ10 HQ8 HAL1
                    go_wp2_with fail
                    refine (HCO2.out _ HQ11.out).mono ?_
                    rintro e w12 ⟨a12, c12, rfl, h12a, h12b⟩
                    have HQ12 : Hid (QW w w2 g b w.heap.size O1 O2 S p cls dec pA pD q X g4 w12) := h12a
                    have HG12 : Hid (Got w11 w12 O1 (.slice a12 cn c12) C) := h12b
                    clear h12a h12b
                    go_wp2_with fail
                    refine (HCO2.out _ HQ12.out).mono ?_
                    rintro e w13 ⟨a13, c13, rfl, h13a, h13b⟩
                    have HQ13 : Hid (QW w w2 g b w.heap.size O1 O2 S p cls dec pA pD q X g4 w13) := h13a
                    have HG13 : Hid (Got w12 w13 O1 (.slice a13 cn c13) C) := h13b
                    clear h13a h13b HQ12
                    go_wp2_with fail
                    refine (HAL2.out _ _ _ _ _ _ _ HQ11.out HG12.out HG13.out HQ13.out).mono ?_
                    rintro e w14 ⟨rfl, h14⟩
                    have HQ14 : Hid (QW w w2 g b w.heap.size O1 O2 S p cls dec pA pD q X g4 w14) := h14
                    clear h14 HG12 HG13 HQ13 HQ11 HAL2 HCO2
                    go_wp2_with fail
                    refine (HLV2.out _ HQ14.out).mono ?_
                    rintro e w15 ⟨rfl, h15⟩
                    have HQ15 : Hid (QW w w2 g b w.heap.size O1 O2 S p cls dec pA pD q X g4 w15) := h15
                    have c15 := HCW.out w15 h15
                    obtain ⟨aD, cD, hdc⟩ := HDC.out
                    obtain ⟨d1, d2⟩ := hdc w15 h15.1
                    have HDW : Hid (∀ W, QW w w2 g b w.heap.size O1 O2 S p cls dec pA pD q X g4 W → W.cell? ⟨b, 1, none⟩ = some (.slice aD dec.length cD) ∧ ∀ i, i < dec.length → ∃ bD, aD = some ⟨bD, 0, none⟩ ∧ W.cell? ⟨bD, i, none⟩ = some (.int .i64 (dec.getD i 0))) := fun W h => hdc W h.1
                    have HS15 : Aside (Stb w g b w.heap.size w15) := HST.out _ h15.1
                    clear h15 HQ14 hdc HDC
                    obtain ⟨dl, hdl2⟩ : ∃ dl, dec.length = dl := ⟨_, rfl⟩
                    rw [hdl2] at d1 d2 lv1 hdl HDW
                    clear hdl2
                    have q9 : (lv : Int) ≤ (dl : Int) := by omega
                    rcases HCASE.out with ⟨f1, f2⟩ | ⟨f1, f2⟩
                    · obtain ⟨bD, rfl, d3⟩ := d2 (lv - 1) (by omega)
                      rw [f2] at d3
                      obtain ⟨l1, rfl⟩ : ∃ l1, lv = l1 + 1 := ⟨lv - 1, by omega⟩
                      rw [Nat.add_sub_cancel] at d3
                      have g3 : (1 : Int) ≤ ((l1 + 1 : Nat) : Int) := by omega
                      have gA : decide ((1 : Int) ≤ (l1 : Int) + 1) = true := decide_eq_true (by omega)
                      have gB : decide ((1 : Int) ≤ ((l1 + 1 : Nat) : Int)) = true := decide_eq_true (by omega)
                      have gC : decide ((l1 : Int) + 1 ≤ (dl : Int)) = true := decide_eq_true (by omega)
                      have gD : decide (((l1 + 1 : Nat) : Int) ≤ (dl : Int)) = true := decide_eq_true (by omega)
                      have g4' : (l1 : Int) < (dl : Int) := by omega
                      have HS16 : Aside (∀ m, Stb w g b w.heap.size (w15.drewN m)) := fun m => HS15.out.drewN
                      clear d2 f1 f2 HCASE
                      go_wp2_with fail
                      first | (go_quiet (fail)) | fail
                      go_wp2
                      go_roundg (k - (i + 1))
                      case measure => omega
                      case rel => exact ⟨i + 1, by simp, by omega, HS16.out _⟩
                    · by_cases hlv : lv = 0
                      · subst hlv
                        have g6 : decide ((1 : Int) ≤ ((0 : Nat) : Int)) = false := decide_eq_false (by omega)
                        have HS16 : Aside (∀ m, Stb w g b w.heap.size (w15.drewN m)) := fun m => HS15.out.drewN
                        clear d2 f1 f2 HCASE
                        go_wp2_with fail
                        first | (go_quiet (fail)) | fail
                        go_wp2
                        go_roundg (k - (i + 1))
                        case measure => omega
                        case rel => exact ⟨i + 1, by simp, by omega, HS16.out _⟩
                      · obtain ⟨bD, rfl, d3⟩ := d2 (lv - 1) (by omega)
                        obtain ⟨y, hy⟩ : ∃ y, dec.getD (lv - 1) 0 = y := ⟨_, rfl⟩
                        have g5 : (y != (-(nn : Int))) = true := bne_iff_ne.2 (fun e => f2 ⟨by omega, hy.trans e⟩)
                        have HD3 : Hid (∀ W, QW w w2 g b w.heap.size O1 O2 S p cls dec pA pD q X g4 W → W.cell? ⟨b, 1, none⟩ = some (.slice (some ⟨bD, 0, none⟩) dl cD) ∧ W.cell? ⟨bD, lv - 1, none⟩ = some (.int .i64 y) ∧ W.cell? ⟨g4, t1, none⟩ = some (.int .i64 (-(nn : Int)))) := fun W h => by
                          obtain ⟨e1, e2⟩ := HDW.out W h
                          obtain ⟨bD', e3, e4⟩ := e2 (lv - 1) (by omega)
                          cases e3
                          rw [hy] at e4
                          exact ⟨e1, e4, HCW.out W h⟩
                        rw [hy] at d3
                        obtain ⟨l1, hl1⟩ : ∃ l1, lv = l1 + 1 := ⟨lv - 1, by omega⟩
                        rw [show lv - 1 = l1 by omega] at d3 HD3
                        have g3 : (1 : Int) ≤ (lv : Int) := by omega
                        have g4' : (l1 : Int) < (dl : Int) := by omega
                        have g8 : wrap64 ((lv : Int) - 1) = (l1 : Int) := by unfold wrap64; omega
                        have g8' : IntKind.wrap .i64 ((lv : Int) - 1) = (l1 : Int) := by rw [← g8]; unfold IntKind.wrap wrap64; simp [IntKind.bits, IntKind.signed]; omega
                        have hs4' : IntKind.wrap .i64 ((j : Int) - 1) = (t1 : Int) := by rw [← hs4]; unfold IntKind.wrap wrap64; simp [IntKind.bits, IntKind.signed]; omega
                        have g9 : (0 : Int) ≤ (l1 : Int) := by omega
                        have gA : decide ((1 : Int) ≤ (lv : Int)) = true := decide_eq_true (by omega)
                        have gC : decide ((lv : Int) ≤ (dl : Int)) = true := decide_eq_true (by omega)
                        clear hl1 hlv hs1
                        have HHR2 : Hid (∀ W ad c, Row W ad R → Calls Try.prog 18 #[.slice ad rn c, .int .i64 (-(nn : Int))] W fun e w' => e = .returned (.bool true) ∧ ∃ m', w' = W.drewN m') := HHR.out f1
                        clear d2 f1 f2 HCASE hy HHR HDW
                        go_wp2_with fail
                        first | (go_region_held3 (fun W => W.cell? ⟨b, 1, none⟩ = some (.slice (some ⟨bD, 0, none⟩) dl cD) ∧ W.cell? ⟨bD, l1, none⟩ = some (.int .i64 y) ∧ W.cell? ⟨g4, t1, none⟩ = some (.int .i64 (-(nn : Int)))) (go_keep) (first
                          | (go_at_call 16; refine (HRE2.out _ (QW.drew HQ15.out)).mono ?_; rintro e w16 ⟨a16, c16, rfl, h16a, h16b⟩; have HQ16 : Hid (QW w w2 g b w.heap.size O1 O2 S p cls dec pA pD q X g4 w16) := h16a; have HR16 : Hid (Row w16 a16 R) := HRO.out _ _ _ _ h16b; have u3 := HD3.out w16 h16a; have u0 := u3.1; have u1 := u3.2.1; have u2 := u3.2.2; clear h16a h16b u3)
                          | (go_at_call 18; refine (HHR2.out _ _ _ HR16.out).mono ?_; rintro e w17 ⟨rfl, m17, rfl⟩; have HS17 : Aside (Stb w g b w.heap.size (w16.drewN m17)) := HST.out _ (HQ16.out.drewN (m := m17)).1))) | fail
                        all_goals
                          go_wp2
                          go_roundg (k - (i + 1))
                          case measure => omega
                          case rel => exact ⟨i + 1, by simp, by omega, HS17⟩
                  · obtain ⟨nn, rfl⟩ : ∃ nn : Nat, l = (nn : Int) := ⟨l.toNat, by omega⟩
                    rw [if_neg h0] at hvv
                    subst hvv
                    have g1 : -1048576 ≤ -(nn : Int) := by omega
                    have g2 : (nn : Int) ≤ 1048576 := by omega
                    have g2' : -(nn : Int) ≤ 1048576 := by omega
                    have g0 : (0 : Int) < (nn : Int) := by omega
                    obtain ⟨R, hRR⟩ : ∃ R, clL S (rsnE S (nn : Int)) = R := ⟨_, rfl⟩
                    obtain ⟨C, hCC⟩ : ∃ C, clL S S.clash = C := ⟨_, rfl⟩
                    have HRE2 : Hid (∀ W, QW w w2 g b w.heap.size O1 O2 S p cls dec pA pD q X g4 W → Calls Try.prog 16 #[.pointer (some ⟨g, 0, none⟩), .int .i64 (nn : Int)] W fun e w' => ∃ ad c, e = .returned (.slice ad R.length c) ∧ QW w w2 g b w.heap.size O1 O2 S p cls dec pA pD q X g4 w' ∧ Got W w' O1 (.slice ad R.length c) R) := fun W h => (HRE.out W (nn : Int) h.1).mono fun e w' hh => by
                      rw [hRR] at hh
                      obtain ⟨ad, c, e1, e2, e3⟩ := hh
                      exact ⟨ad, c, e1, h.told e2 e3, e3⟩
                    have HCO2 : Hid (∀ W, QW w w2 g b w.heap.size O1 O2 S p cls dec pA pD q X g4 W → Calls Try.prog 13 #[.pointer (some ⟨g, 0, none⟩)] W fun e w' => ∃ ad c, e = .returned (.slice ad C.length c) ∧ QW w w2 g b w.heap.size O1 O2 S p cls dec pA pD q X g4 w' ∧ Got W w' O1 (.slice ad C.length c) C) := fun W h => (HCO.out W h.1).mono fun e w' hh => by
                      rw [hCC] at hh
                      obtain ⟨ad, c, e1, e2, e3⟩ := hh
                      exact ⟨ad, c, e1, h.told e2 e3, e3⟩
                    have hRl : R.length ≤ 65536 := by rw [← hRR]; exact HRL.out _
                    have hCl : C.length ≤ 65536 := by rw [← hCC]; exact HCLN.out
                    have HLV2 : Hid (∀ W, QW w w2 g b w.heap.size O1 O2 S p cls dec pA pD q X g4 W → Calls Try.prog 17 #[.pointer (some ⟨g, 0, none⟩), .int .i64 (nn : Int)] W fun e w' => e = .returned (.int .i64 (lv : Int)) ∧ QW w w2 g b w.heap.size O1 O2 S p cls dec pA pD q X g4 w') := fun W h => (HLV.out W (nn : Int) h.1).mono fun e w' hh => by
                      rw [lE] at hh
                      obtain ⟨e1, m, rfl⟩ := hh
                      exact ⟨e1, h.drewN⟩
                    have HAL1 : Hid (∀ W1 W2 W3 ad1 c1 ad2 c2, QW w w2 g b w.heap.size O1 O2 S p cls dec pA pD q X g4 W1 → Got W1 W2 O1 (.slice ad1 R.length c1) R → Got W2 W3 O1 (.slice ad2 R.length c2) R → QW w w2 g b w.heap.size O1 O2 S p cls dec pA pD q X g4 W3 → Calls Try.prog 15 #[.slice ad1 R.length c1, .slice ad2 R.length c2] W3 fun e w' => e = .returned (.bool true) ∧ QW w w2 g b w.heap.size O1 O2 S p cls dec pA pD q X g4 w') := fun W1 W2 W3 ad1 c1 ad2 c2 h1 h2 h3 h4 => QW.alone h1 h2 h3 h4 hRl
                    have HAL2 : Hid (∀ W1 W2 W3 ad1 c1 ad2 c2, QW w w2 g b w.heap.size O1 O2 S p cls dec pA pD q X g4 W1 → Got W1 W2 O1 (.slice ad1 C.length c1) C → Got W2 W3 O1 (.slice ad2 C.length c2) C → QW w w2 g b w.heap.size O1 O2 S p cls dec pA pD q X g4 W3 → Calls Try.prog 15 #[.slice ad1 C.length c1, .slice ad2 C.length c2] W3 fun e w' => e = .returned (.bool true) ∧ QW w w2 g b w.heap.size O1 O2 S p cls dec pA pD q X g4 w') := fun W1 W2 W3 ad1 c1 ad2 c2 h1 h2 h3 h4 => QW.alone h1 h2 h3 h4 hCl
                    have HHR : Hid ((∃ kk, rsnE S (nn : Int) = some kk ∧ (nn : Int) ∈ clL S (some kk)) → ∀ W ad c, Row W ad R → Calls Try.prog 18 #[.slice ad R.length c, .int .i64 (nn : Int)] W fun e w' => e = .returned (.bool true) ∧ ∃ m', w' = W.drewN m') := fun hk W ad c hrow => by
                      obtain ⟨kk, e1, e2⟩ := hk
                      have h5 := lhas_any (cp := c) W hrow (by omega) (nn : Int)
                      rw [e1] at hRR
                      rw [decide_eq_true (by rw [← hRR]; exact e2)] at h5
                      exact h5
                    have HCASE : Hid ((1 ≤ lv ∧ dec.getD (lv - 1) 0 = (nn : Int)) ∨ ((∃ kk, rsnE S (nn : Int) = some kk ∧ (nn : Int) ∈ clL S (some kk)) ∧ ¬ (1 ≤ lv ∧ dec.getD (lv - 1) 0 = (nn : Int)))) := by
                      show _ ∨ _
                      rcases hcase with ⟨_, e2, e3⟩ | ⟨kk, e1, _, e3, e4, e5, _⟩
                      · exact Or.inl ⟨e2, e3⟩
                      · exact Or.inr ⟨⟨kk, e1, by rw [e3]; exact e5⟩, e4⟩
                    clear hcase lE hlb hne hRR hCC HRE HCO HLV
                    obtain ⟨rn, hrn⟩ : ∃ rn, R.length = rn := ⟨_, rfl⟩
                    obtain ⟨cn, hcn⟩ : ∃ cn, C.length = cn := ⟨_, rfl⟩
                    rw [hrn] at HRE2 HAL1 HHR hRl
                    rw [hcn] at HCO2 HAL2 hCl
                    have HRN : Hid (R.length = rn) := hrn
                    clear hrn hcn
                    have c8 := HCW.out W8 HQ8.out
                    have HRO : Hid (∀ W W' ad c, Got W W' O1 (.slice ad rn c) R → Row W' ad R) := fun W W' ad c h => by
                      have o := h.own
                      rw [HRN.out] at o
                      exact own_row o
                    go_wp2_with fail
                    refine (HRE2.out _ HQ8.out).mono ?_
                    rintro e w9 ⟨a9, c9, rfl, h9a, h9b⟩
                    have HQ9 : Hid (QW w w2 g b w.heap.size O1 O2 S p cls dec pA pD q X g4 w9) := h9a
                    have HG9 : Hid (Got W8 w9 O1 (.slice a9 rn c9) R) := h9b
                    clear h9a h9b c8
                    go_wp2_with fail
                    refine (HRE2.out _ HQ9.out).mono ?_
                    rintro e w10 ⟨a10, c10, rfl, h10a, h10b⟩
                    have HQ10 : Hid (QW w w2 g b w.heap.size O1 O2 S p cls dec pA pD q X g4 w10) := h10a
                    have HG10 : Hid (Got w9 w10 O1 (.slice a10 rn c10) R) := h10b
                    clear h10a h10b HQ9
                    go_wp2_with fail
                    refine (HAL1.out _ _ _ _ _ _ _ HQ8.out HG9.out HG10.out HQ10.out).mono ?_
                    rintro e w11 ⟨rfl, h11⟩
                    have HQ11 : Hid (QW w w2 g b w.heap.size O1 O2 S p cls dec pA pD q X g4 w11) := h11
                    clear h11 HG9 HG10 HQ10 HQ8 HAL1
                    go_wp2_with fail
                    refine (HCO2.out _ HQ11.out).mono ?_
                    rintro e w12 ⟨a12, c12, rfl, h12a, h12b⟩
                    have HQ12 : Hid (QW w w2 g b w.heap.size O1 O2 S p cls dec pA pD q X g4 w12) := h12a
                    have HG12 : Hid (Got w11 w12 O1 (.slice a12 cn c12) C) := h12b
                    clear h12a h12b
                    go_wp2_with fail
                    refine (HCO2.out _ HQ12.out).mono ?_
                    rintro e w13 ⟨a13, c13, rfl, h13a, h13b⟩
                    have HQ13 : Hid (QW w w2 g b w.heap.size O1 O2 S p cls dec pA pD q X g4 w13) := h13a
                    have HG13 : Hid (Got w12 w13 O1 (.slice a13 cn c13) C) := h13b
                    clear h13a h13b HQ12
                    go_wp2_with fail
                    refine (HAL2.out _ _ _ _ _ _ _ HQ11.out HG12.out HG13.out HQ13.out).mono ?_
                    rintro e w14 ⟨rfl, h14⟩
                    have HQ14 : Hid (QW w w2 g b w.heap.size O1 O2 S p cls dec pA pD q X g4 w14) := h14
                    clear h14 HG12 HG13 HQ13 HQ11 HAL2 HCO2
                    go_wp2_with fail
                    refine (HLV2.out _ HQ14.out).mono ?_
                    rintro e w15 ⟨rfl, h15⟩
                    have HQ15 : Hid (QW w w2 g b w.heap.size O1 O2 S p cls dec pA pD q X g4 w15) := h15
                    have c15 := HCW.out w15 h15
                    obtain ⟨aD, cD, hdc⟩ := HDC.out
                    obtain ⟨d1, d2⟩ := hdc w15 h15.1
                    have HDW : Hid (∀ W, QW w w2 g b w.heap.size O1 O2 S p cls dec pA pD q X g4 W → W.cell? ⟨b, 1, none⟩ = some (.slice aD dec.length cD) ∧ ∀ i, i < dec.length → ∃ bD, aD = some ⟨bD, 0, none⟩ ∧ W.cell? ⟨bD, i, none⟩ = some (.int .i64 (dec.getD i 0))) := fun W h => hdc W h.1
                    have HS15 : Aside (Stb w g b w.heap.size w15) := HST.out _ h15.1
                    clear h15 HQ14 hdc HDC
                    obtain ⟨dl, hdl2⟩ : ∃ dl, dec.length = dl := ⟨_, rfl⟩
                    rw [hdl2] at d1 d2 lv1 hdl HDW
                    clear hdl2
                    have q9 : (lv : Int) ≤ (dl : Int) := by omega
                    rcases HCASE.out with ⟨f1, f2⟩ | ⟨f1, f2⟩
                    · obtain ⟨bD, rfl, d3⟩ := d2 (lv - 1) (by omega)
                      rw [f2] at d3
                      obtain ⟨l1, rfl⟩ : ∃ l1, lv = l1 + 1 := ⟨lv - 1, by omega⟩
                      rw [Nat.add_sub_cancel] at d3
                      have g3 : (1 : Int) ≤ ((l1 + 1 : Nat) : Int) := by omega
                      have gA : decide ((1 : Int) ≤ (l1 : Int) + 1) = true := decide_eq_true (by omega)
                      have gB : decide ((1 : Int) ≤ ((l1 + 1 : Nat) : Int)) = true := decide_eq_true (by omega)
                      have gC : decide ((l1 : Int) + 1 ≤ (dl : Int)) = true := decide_eq_true (by omega)
                      have gD : decide (((l1 + 1 : Nat) : Int) ≤ (dl : Int)) = true := decide_eq_true (by omega)
                      have g4' : (l1 : Int) < (dl : Int) := by omega
                      have HS16 : Aside (∀ m, Stb w g b w.heap.size (w15.drewN m)) := fun m => HS15.out.drewN
                      clear d2 f1 f2 HCASE
                      go_wp2_with fail
                      first | (go_quiet (fail)) | fail
                      go_wp2
                      go_roundg (k - (i + 1))
                      case measure => omega
                      case rel => exact ⟨i + 1, by simp, by omega, HS16.out _⟩
                    · by_cases hlv : lv = 0
                      · subst hlv
                        have g6 : decide ((1 : Int) ≤ ((0 : Nat) : Int)) = false := decide_eq_false (by omega)
                        have HS16 : Aside (∀ m, Stb w g b w.heap.size (w15.drewN m)) := fun m => HS15.out.drewN
                        clear d2 f1 f2 HCASE
                        go_wp2_with fail
                        first | (go_quiet (fail)) | fail
                        go_wp2
                        go_roundg (k - (i + 1))
                        case measure => omega
                        case rel => exact ⟨i + 1, by simp, by omega, HS16.out _⟩
                      · obtain ⟨bD, rfl, d3⟩ := d2 (lv - 1) (by omega)
                        obtain ⟨y, hy⟩ : ∃ y, dec.getD (lv - 1) 0 = y := ⟨_, rfl⟩
                        have g5 : (y != (nn : Int)) = true := bne_iff_ne.2 (fun e => f2 ⟨by omega, hy.trans e⟩)
                        have HD3 : Hid (∀ W, QW w w2 g b w.heap.size O1 O2 S p cls dec pA pD q X g4 W → W.cell? ⟨b, 1, none⟩ = some (.slice (some ⟨bD, 0, none⟩) dl cD) ∧ W.cell? ⟨bD, lv - 1, none⟩ = some (.int .i64 y) ∧ W.cell? ⟨g4, t1, none⟩ = some (.int .i64 (nn : Int))) := fun W h => by
                          obtain ⟨e1, e2⟩ := HDW.out W h
                          obtain ⟨bD', e3, e4⟩ := e2 (lv - 1) (by omega)
                          cases e3
                          rw [hy] at e4
                          exact ⟨e1, e4, HCW.out W h⟩
                        rw [hy] at d3
                        obtain ⟨l1, hl1⟩ : ∃ l1, lv = l1 + 1 := ⟨lv - 1, by omega⟩
                        rw [show lv - 1 = l1 by omega] at d3 HD3
                        have g3 : (1 : Int) ≤ (lv : Int) := by omega
                        have g4' : (l1 : Int) < (dl : Int) := by omega
                        have g8 : wrap64 ((lv : Int) - 1) = (l1 : Int) := by unfold wrap64; omega
                        have g8' : IntKind.wrap .i64 ((lv : Int) - 1) = (l1 : Int) := by rw [← g8]; unfold IntKind.wrap wrap64; simp [IntKind.bits, IntKind.signed]; omega
                        have hs4' : IntKind.wrap .i64 ((j : Int) - 1) = (t1 : Int) := by rw [← hs4]; unfold IntKind.wrap wrap64; simp [IntKind.bits, IntKind.signed]; omega
                        have g9 : (0 : Int) ≤ (l1 : Int) := by omega
                        have gA : decide ((1 : Int) ≤ (lv : Int)) = true := decide_eq_true (by omega)
                        have gC : decide ((lv : Int) ≤ (dl : Int)) = true := decide_eq_true (by omega)
                        clear hl1 hlv hs1
                        have HHR2 : Hid (∀ W ad c, Row W ad R → Calls Try.prog 18 #[.slice ad rn c, .int .i64 (nn : Int)] W fun e w' => e = .returned (.bool true) ∧ ∃ m', w' = W.drewN m') := HHR.out f1
                        clear d2 f1 f2 HCASE hy HHR HDW
                        go_wp2_with fail
                        first | (go_region_held3 (fun W => W.cell? ⟨b, 1, none⟩ = some (.slice (some ⟨bD, 0, none⟩) dl cD) ∧ W.cell? ⟨bD, l1, none⟩ = some (.int .i64 y) ∧ W.cell? ⟨g4, t1, none⟩ = some (.int .i64 (nn : Int))) (go_keep) (first
                          | (go_at_call 16; refine (HRE2.out _ (QW.drew HQ15.out)).mono ?_; rintro e w16 ⟨a16, c16, rfl, h16a, h16b⟩; have HQ16 : Hid (QW w w2 g b w.heap.size O1 O2 S p cls dec pA pD q X g4 w16) := h16a; have HR16 : Hid (Row w16 a16 R) := HRO.out _ _ _ _ h16b; have u3 := HD3.out w16 h16a; have u0 := u3.1; have u1 := u3.2.1; have u2 := u3.2.2; clear h16a h16b u3)
                          | (go_at_call 18; refine (HHR2.out _ _ _ HR16.out).mono ?_; rintro e w17 ⟨rfl, m17, rfl⟩; have HS17 : Aside (Stb w g b w.heap.size (w16.drewN m17)) := HST.out _ (HQ16.out.drewN (m := m17)).1))) | fail
                        all_goals
                          go_wp2
                          go_roundg (k - (i + 1))
                          case measure => omega
                          case rel => exact ⟨i + 1, by simp, by omega, HS17⟩
      · have hji : i = k := by omega
        subst hji
        go_wp2
        first | exact HPP.out _ _ _ HJ.out | (go_ret2; exact HPP.out _ _ _ HJ.out) | (go_ret; exact HPP.out _ _ _ HJ.out)
end Go.Proofs.Ytpkbigjijihljab
