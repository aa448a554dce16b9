import Derived.Test.YtpkbigjijihljabON
import Derived.Test.YtpkbigjijihljabOO
namespace Go.Proofs.Ytpkbigjijihljab
open Go.ChangeShapes Go.WideShapes Go.ChangeAt Go.RowKit
open Go.Pr
/-- behind a Propagate: closed, or a clause is false -/
def Stc (u : Bool) (w : World) (g b B : Nat) (W : World) : Prop := ∃ S O1 O2 p cls dec pA pD q, BREL S cls dec ∧ EB W g b B O1 O2 S p cls dec pA pD q ∧ Below B w W ∧ (u = true → Closed cls (tl S)) ∧ (u = false → ∃ i, i < cls.length ∧ ∀ m ∈ cls.getD i [], sgn S m = -1)
theorem Stb.prop2 {w W : World} {g b B : Nat} (h : Stb w g b B W) :
    Calls Try.prog 8 #[.pointer (some ⟨g, 0, none⟩)] W fun e w' => ∃ u, e = .returned (.bool u) ∧ Stc u w g b B w' := by
  obtain ⟨S, O1, O2, p, cls, dec, pA, pD, q, h1, h2, h3⟩ := h
  refine (propagate_mem h2.m h1.full).mono fun e w' hh => ?_
  obtain ⟨u, he, T, t1, t2, t3, t4⟩ := hh
  have hr := h1.runs t1
  have hw := hr.full.inv.wf
  obtain ⟨O1', p', t5, _, bl⟩ := h2.e t4
  refine ⟨u, he, T, O1', O2, p', cls, dec, pA, pD, q, hr, t5, h3.trans bl, fun e => ?_, fun e => ?_⟩
  · rw [hr.all]
    exact hr.full.closed (t2 e).1 (t2 e).2
  · cases hc : T.clash with
    | none => exact absurd hc (t3 e)
    | some k =>
      have hk := hw.clash k hc
      refine ⟨k, by rw [hr.all, all_len]; exact hk, fun m hm => ?_⟩
      rw [hr.all, all_get hk] at hm
      obtain ⟨z, hz, rfl⟩ := List.mem_map.1 hm
      unfold sgn
      rw [code_litI (hw.inside_mem hz).1]
      exact hr.full.snd.cla k hc z hz
theorem BREL.has {S : ES} {cls : List (List Int)} {dec : List Int} (h : BREL S cls dec) : ∀ c ∈ cls, ∀ m ∈ c, hasB S.n m = true := fun c hc m hm => by
  have hw := h.full.inv.wf
  rw [h.all] at hc
  obtain ⟨k, hk, rfl⟩ := mem_allI.1 hc
  obtain ⟨z, hz, rfl⟩ := List.mem_map.1 hm
  have hz2 := hw.inside_mem hz
  have := litI_le hz2.2
  exact hasB_mk ⟨litI_ne hz2.1, this.1, this.2⟩
set_option maxHeartbeats 8000000 in
set_option maxRecDepth 20000 in
theorem closed_walk (vars : Int) {ad : Option Addr} {cp : Nat} {sc : List OP} (w : World) (hs : SCR w w.heap.size ad sc) (hl : sc.length ≤ 17592186044416) :
    Calls Try.prog 3 #[.int .i64 vars, .slice ad sc.length cp] w fun e w' => e = .returned (.bool true) ∧ Below w.heap.size w w' := by
  by_cases h : vars < 0 ∨ 1048576 < vars
  · clear hs hl
    generalize sc.length = n
    go_enter Try.func3, Try.ntmps3
    go_wp2_with fail
    refine (first_no vars h w).mono ?_
    rintro e w1 ⟨rfl, hb⟩
    go_wp2
    go_ret
    exact ⟨rfl, hb⟩
  · obtain ⟨n, rfl⟩ : ∃ n : Nat, vars = n := ⟨vars.toNat, by omega⟩
    have hn : n ≤ 1048576 := by omega
    have HBo : Hid (Calls Try.prog 6 #[.int .i64 (n : Int)] w fun e w' => ∃ g, e = .returned (.tuple #[.pointer (some ⟨g, 0, none⟩), .bool true]) ∧ Stb w g w'.heap.size w.heap.size (w'.alloc (.cells #[.slice none 0 0, .slice none 0 0] 30))) := (first_ok n hn w).mono fun e w' hh => by
      obtain ⟨g, O, p, e1, m, a, bl⟩ := hh
      exact ⟨g, e1, Stb.start hn m a bl⟩
    generalize hPP : (fun (e : Ending) (w' : World) => e = .returned (.bool true) ∧ Below w.heap.size w w') = PP
    have HPP : Hid (∀ g b w', Stb w g b w.heap.size w' → PP (.returned (.bool true)) w') := fun g b w' h => by rw [← hPP]; exact ⟨rfl, h.below⟩
    have HSC : Hid (∀ g b i, i < sc.length → ∃ sb so xk xn xa xl xc, ad = some ⟨sb, so, none⟩ ∧ (∀ W, Stb w g b w.heap.size W → W.cell? ⟨sb, so + i * 3, none⟩ = some (.int .i64 xk) ∧ W.cell? ⟨sb, so + i * 3 + 1, none⟩ = some (.int .i64 xn) ∧ W.cell? ⟨sb, so + i * 3 + 2, none⟩ = some (.slice xa xl xc)) ∧
      ∀ V, Stb w g b w.heap.size V → Calls Try.prog 7 #[.pointer (some ⟨b, 0, none⟩), .pointer (some ⟨g, 0, none⟩), .agg #[.int .i64 xk, .int .i64 xn, .slice xa xl xc]] V fun e w' => e = .returned (.tuple #[]) ∧ Stb w g b w.heap.size w') := fun g b i hi => scr_does hs g b i hi
    have HPR : Hid (∀ g b W, Stb w g b w.heap.size W → Calls Try.prog 8 #[.pointer (some ⟨g, 0, none⟩)] W fun e w' => ∃ u, e = .returned (.bool u) ∧ Stc u w g b w.heap.size w') := fun g b W h => h.prop2
    clear hPP h hs hn
    generalize sc.length = k at *
    go_enter Try.func3, Try.ntmps3
    go_wp2_with fail
    refine HBo.out.mono ?_
    rintro e w1 ⟨g, rfl, h1⟩
    have H1 : Hid (Stb w g w1.heap.size w.heap.size (w1.alloc (.cells #[.slice none 0 0, .slice none 0 0] 30))) := h1
    clear h1 HBo
    go_wp2_with fail
    generalize w1.alloc (.cells #[.slice none 0 0, .slice none 0 0] 30) = W1 at *
    generalize w1.heap.size = b at *
    go_loopg [8, 9, 10, 11, 12, 13, 14, 15, 16] k (fun gk s8 s9 s10 s11 s12 s13 s14 s15 s16 wr => ∃ i : Nat, s8 = .int .i64 (i : Int) ∧ i + gk = k ∧ Aside (Stb w g b w.heap.size wr))
    case atStart => exact ⟨0, rfl, by omega, H1.out⟩
    case round =>
      obtain ⟨i, rfl, hi2, HJ⟩ := hrel
      by_cases hlt : i < k
      · obtain ⟨sb, so, xk, xn, xa, xl, xc, rfl, hcel, hdoes⟩ := HSC.out g b i hlt
        have HDO : Hid (∀ V, Stb w g b w.heap.size V → Calls Try.prog 7 #[.pointer (some ⟨b, 0, none⟩), .pointer (some ⟨g, 0, none⟩), .agg #[.int .i64 xk, .int .i64 xn, .slice xa xl xc]] V fun e w' => e = .returned (.tuple #[]) ∧ Stb w g b w.heap.size w') := hdoes
        have HCE : Hid (∀ W, Stb w g b w.heap.size W → W.cell? ⟨sb, so + i * 3, none⟩ = some (.int .i64 xk)) := fun W h => (hcel W h).1
        obtain ⟨c0, c1, c2⟩ := hcel _ HJ.out
        have q1 : (i : Int) < (k : Int) := by omega
        clear hdoes hcel H1
        go_wp2_with fail
        refine (HDO.out _ HJ.out).mono ?_
        rintro e w2 ⟨rfl, h2⟩
        have H2 : Hid (Stb w g b w.heap.size w2) := h2
        have c3 := HCE.out w2 h2
        clear h2 c0 c1 c2 HCE
        by_cases hk3 : xk = 3
        · subst hk3
          go_wp2_with fail
          refine (HPR.out _ _ _ H2.out).mono ?_
          rintro e w3 ⟨u, rfl, h3⟩
          obtain ⟨S, O1, O2, p, cls, dec, pA, pD, q, r1, r2, r3, r4, r5⟩ := h3
          have HST : Hid (∀ m, Stb w g b w.heap.size (w3.drewN m)) := fun m => Stb.drewN ⟨S, O1, O2, p, cls, dec, pA, pD, q, r1, r2, r3⟩
          have hw := r1.full.inv.wf
          have hz := r1.bsz
          obtain ⟨⟨aA, cA, eA⟩, _⟩ := r2.bk.formA
          have k0 : ∀ m, (w3.drewN m).cell? ⟨b, 0, none⟩ = some (.slice aA cls.length cA) := fun m => (r2.bk.cell 0).trans (congrArg some eA)
          have HC : Hid (∀ i, i < cls.length → ∃ bA ad cp, aA = some ⟨bA, 0, none⟩ ∧ (∀ m, (w3.drewN m).cell? ⟨bA, i, none⟩ = some (.slice ad (cls.getD i []).length cp)) ∧ (0 < (cls.getD i []).length → ∃ b o, ad = some ⟨b, o, none⟩ ∧ ∀ m j, j < (cls.getD i []).length → (w3.drewN m).cell? ⟨b, o + j, none⟩ = some (.int .i64 ((cls.getD i []).getD j 0)))) := fun i hi => by
            obtain ⟨bA, cA', ad, cp, e1, e2, e3⟩ := r2.bk.at hi
            rw [eA] at e1
            injection e1 with e4 _ _
            exact ⟨bA, ad, cp, e4, fun _ => e2, fun h0 => by obtain ⟨b1, o, e5, e6⟩ := e3 h0; exact ⟨b1, o, e5, fun _ => e6⟩⟩
          have HL : Hid (∀ i, i < cls.length → (cls.getD i []).length ≤ 65536 ∧ ∀ j, j < (cls.getD i []).length → (cls.getD i []).getD j 0 ≠ 0 ∧ (sgn S ((cls.getD i []).getD j 0) = -1 ∨ sgn S ((cls.getD i []).getD j 0) = 0 ∨ sgn S ((cls.getD i []).getD j 0) = 1) ∧ ∀ W, (∃ m, w3.drewN m = W) → Calls Try.prog 9 #[.pointer (some ⟨g, 0, none⟩), .int .i64 ((cls.getD i []).getD j 0)] W fun e w' => e = .returned (.int .i64 (sgn S ((cls.getD i []).getD j 0))) ∧ ∃ m, w' = W.drewN m) := fun i hi => by
            have hm : cls.getD i [] ∈ cls := by rw [getD_of _ _ _ hi]; exact List.getElem_mem _
            refine ⟨hz.cl _ hm, fun j hj => ?_⟩
            have hm2 : (cls.getD i []).getD j 0 ∈ cls.getD i [] := by rw [getD_of (cls.getD i []) _ _ hj]; exact List.getElem_mem _
            have hB := r1.has _ hm _ hm2
            refine ⟨(hasB_is hB).1, sgn_of hw _, fun W hW => ?_⟩
            obtain ⟨m, rfl⟩ := hW
            exact sign_mem r2.m.drewN hw _ hB
          have HG : Hid (∀ i op is, i < cls.length → u = true → SCN S (cls.getD i []) (cls.getD i []).length op is → is = true) := fun i op is hi hu hs => by
            have hm : cls.getD i [] ∈ cls := by rw [getD_of _ _ _ hi]; exact List.getElem_mem _
            exact hs.good hw ((r4 hu).nofls _ hm) ((r4 hu).nounit _ hm) (r1.has _ hm)
          have HF : Hid (u = false → ∃ i, i < cls.length ∧ ∀ m ∈ cls.getD i [], sgn S m = -1) := r5
          have hcl := hz.c
          clear r1 r2 r3 r4 r5 hw hz eA H2 c3 HJ
          obtain ⟨K, hK⟩ : ∃ K, cls.length = K := ⟨_, rfl⟩
          rw [hK] at k0 HC HL HG HF hcl
          clear hK
          have k00 := k0 0
          have k01 : w3.cell? ⟨b, 0, none⟩ = some (.slice aA K cA) := k00
          clear k00
          go_wp2_with fail
          go_loopg [10, 11, 12, 13, 14, 15, 16] K (fun gk2 s10 s11 s12 s13 s14 s15 s16 wr2 => ∃ (kk : Nat) (bd : Bool), s10 = .bool bd ∧ s11 = .int .i64 (kk : Int) ∧ kk + gk2 = K ∧ ∃ m, w3.drewN m = wr2 ∧ Aside (u = false → (∃ i0, i0 < kk ∧ ∀ m ∈ cls.getD i0 [], sgn S m = -1) → bd = true))
          case atStart => exact ⟨0, false, rfl, rfl, by omega, 0, rfl, fun _ h => by obtain ⟨i0, h0, _⟩ := h; exact absurd h0 (Nat.not_lt_zero i0)⟩
          case round =>
            obtain ⟨kk, bd, rfl, rfl, hkk, m0, rfl, HBd⟩ := hrel
            have k0m := k0 m0
            clear k01
            by_cases hltk : kk < K
            · obtain ⟨bA, a1, c1, rfl, e1, e2⟩ := HC.out kk hltk
              obtain ⟨l1, l2⟩ := HL.out kk hltk
              have HE2 : Hid (0 < (cls.getD kk []).length → ∃ b o, a1 = some ⟨b, o, none⟩ ∧ ∀ m j, j < (cls.getD kk []).length → (w3.drewN m).cell? ⟨b, o + j, none⟩ = some (.int .i64 ((cls.getD kk []).getD j 0))) := e2
              have HL2 : Hid (∀ j, j < (cls.getD kk []).length → (cls.getD kk []).getD j 0 ≠ 0 ∧ (sgn S ((cls.getD kk []).getD j 0) = -1 ∨ sgn S ((cls.getD kk []).getD j 0) = 0 ∨ sgn S ((cls.getD kk []).getD j 0) = 1) ∧ ∀ W, (∃ m, w3.drewN m = W) → Calls Try.prog 9 #[.pointer (some ⟨g, 0, none⟩), .int .i64 ((cls.getD kk []).getD j 0)] W fun e w' => e = .returned (.int .i64 (sgn S ((cls.getD kk []).getD j 0))) ∧ ∃ m, w' = W.drewN m) := l2
              have HG2 : Hid (∀ op is, u = true → SCN S (cls.getD kk []) (cls.getD kk []).length op is → is = true) := fun op is hu h => HG.out kk op is hltk hu h
              have HB2 : Hid (∀ op is (b2 : Bool), SCN S (cls.getD kk []) (cls.getD kk []).length op is → (bd = true → b2 = true) → (is = false → op = 0 → b2 = true) → u = false → (∃ i0, i0 < kk + 1 ∧ ∀ m ∈ cls.getD i0 [], sgn S m = -1) → b2 = true) := fun op is b2 hs h1 h2 hu hx => by
                obtain ⟨i0, h0, h5⟩ := hx
                by_cases e : i0 = kk
                · rw [e] at h5
                  obtain ⟨h6, h7⟩ := hs.bad h5
                  exact h2 h6 h7
                · exact h1 (HBd.out hu ⟨i0, by omega, h5⟩)
              clear l2 e2 HBd
              generalize cls.getD kk [] = c at *
              obtain ⟨nn, hnn⟩ : ∃ nn, c.length = nn := ⟨_, rfl⟩
              have HNN : Hid (c.length = nn) := hnn
              rw [hnn] at e1 l1 HE2 HL2 HG2 HB2
              clear hnn
              have q2 : (kk : Int) < (K : Int) := by omega
              have e1m := e1 m0
              go_wp2_with fail
              go_loopg [12, 13, 14, 15, 16] nn (fun gk3 s12 s13 s14 s15 s16 wr3 => ∃ (j : Nat) (op : Int) (is : Bool), s12 = .int .i64 op ∧ s13 = .bool is ∧ s14 = .int .i64 (j : Int) ∧ j + gk3 = nn ∧ ∃ m, w3.drewN m = wr3 ∧ Aside (SCN S c j op is))
              case atStart => exact ⟨0, 0, false, rfl, rfl, rfl, by omega, m0, rfl, SCN.zero S c⟩
              case round =>
                obtain ⟨j, op, is, rfl, rfl, rfl, hj, m1, rfl, HSn⟩ := hrel
                have k0n := k0 m1
                have e1n := e1 m1
                clear k0m e1m
                by_cases hltj : j < nn
                · obtain ⟨bx, ox, rfl, e3⟩ := HE2.out (by omega)
                  have e3n := e3 m1 j hltj
                  obtain ⟨x0, x1, x2⟩ := HL2.out j hltj
                  have HSG : Hid (∀ W, (∃ m, w3.drewN m = W) → Calls Try.prog 9 #[.pointer (some ⟨g, 0, none⟩), .int .i64 (c.getD j 0)] W fun e w' => e = .returned (.int .i64 (sgn S (c.getD j 0))) ∧ ∃ m, w' = W.drewN m) := x2
                  have q3 : (j : Int) < (nn : Int) := by omega
                  have S1 : Aside (sgn S (c.getD j 0) = 1 → SCN S c (j + 1) op true) := fun h => HSn.out.one (by rw [HNN.out]; exact hltj) h
                  have S2 : Aside (sgn S (c.getD j 0) = -1 → SCN S c (j + 1) op is) := fun h => HSn.out.neg h
                  have S3 : Aside (sgn S (c.getD j 0) = 0 → (op = 0 ∨ op = c.getD j 0) → SCN S c (j + 1) (c.getD j 0) is) := fun h h2 => HSn.out.opn (by rw [HNN.out]; exact hltj) h x0 h2
                  have S4 : Aside (sgn S (c.getD j 0) = 0 → ¬ (op = 0 ∨ op = c.getD j 0) → SCN S c (j + 1) op true) := fun h h2 => HSn.out.two (by rw [HNN.out]; exact hltj) h h2
                  clear e3 x2 HSn
                  generalize c.getD j 0 = x at *
                  generalize sgn S x = y at *
                  go_wp2_with fail
                  refine (HSG.out _ ⟨_, rfl⟩).mono ?_
                  rintro e w4 ⟨rfl, m2, rfl⟩
                  have HW4 : Aside (w3.drewN (m1 + m2) = (w3.drewN m1).drewN m2) := (World.drewN_drewN w3 m1 m2).symm
                  rcases x1 with e5 | e5 | e5
                  · subst e5
                    have HN : Aside (SCN S c (j + 1) op is) := S2.out rfl
                    clear S1 S2 S3 S4 x0
                    generalize (w3.drewN m1).drewN m2 = W4 at *
                    cases is
                    all_goals
                      go_wp2
                      go_roundg (gk - 1)
                      case measure => omega
                      case rel => exact ⟨j + 1, op, _, by simp, by simp, by simp, by omega, _, HW4.out, HN⟩
                  · subst e5
                    by_cases h5 : op = 0 ∨ op = x
                    · have HN : Aside (SCN S c (j + 1) x is) := S3.out rfl h5
                      clear S1 S2 S3 S4
                      generalize (w3.drewN m1).drewN m2 = W4 at *
                      by_cases h6 : op = 0
                      · subst h6
                        clear h5
                        cases is
                        all_goals
                          go_wp2
                          go_roundg (gk - 1)
                          case measure => omega
                          case rel => exact ⟨j + 1, x, _, by simp, by simp, by simp, by omega, _, HW4.out, HN⟩
                      · have h7 : op = x := h5.resolve_left h6
                        subst h7
                        have q6 : (op == 0) = false := beq_false_of_ne h6
                        clear h5
                        cases is
                        all_goals
                          go_wp2
                          go_roundg (gk - 1)
                          case measure => omega
                          case rel => exact ⟨j + 1, op, _, by simp, by simp, by simp, by omega, _, HW4.out, HN⟩
                    · have HN : Aside (SCN S c (j + 1) op true) := S4.out rfl h5
                      have q6 : (op == 0) = false := beq_false_of_ne (fun e => h5 (Or.inl e))
                      have q7 : (op == x) = false := beq_false_of_ne (fun e => h5 (Or.inr e))
                      clear S1 S2 S3 S4 h5
                      generalize (w3.drewN m1).drewN m2 = W4 at *
                      cases is
                      all_goals
                        go_wp2
                        go_roundg (gk - 1)
                        case measure => omega
                        case rel => exact ⟨j + 1, op, _, by simp, by simp, by simp, by omega, _, HW4.out, HN⟩
                  · subst e5
                    have HN : Aside (SCN S c (j + 1) op true) := S1.out rfl
                    clear S1 S2 S3 S4 x0
                    generalize (w3.drewN m1).drewN m2 = W4 at *
                    cases is
                    all_goals
                      go_wp2
                      go_roundg (gk - 1)
                      case measure => omega
                      case rel => exact ⟨j + 1, op, _, by simp, by simp, by simp, by omega, _, HW4.out, HN⟩
                · have hjn : j = nn := by omega
                  subst hjn
                  cases u with
                  | true =>
                    have his : is = true := HG2.out op is rfl HSn.out
                    subst his
                    clear HSn
                    cases bd with
                    | true =>
                      go_wp2
                      go_roundg (K - (kk + 1))
                      case measure => omega
                      case rel => exact ⟨kk + 1, true, by simp, by simp, by omega, m1, rfl, fun h => absurd h (by decide)⟩
                    | false =>
                      go_wp2
                      go_roundg (K - (kk + 1))
                      case measure => omega
                      case rel => exact ⟨kk + 1, false, by simp, by simp, by omega, m1, rfl, fun h => absurd h (by decide)⟩
                  | false =>
                    have HSN : Hid (SCN S c j op is) := HSn.out
                    clear HSn
                    cases is with
                    | true =>
                      have HN : Hid (false = false → (∃ i0, i0 < kk + 1 ∧ ∀ m ∈ cls.getD i0 [], sgn S m = -1) → bd = true) := HB2.out op true bd HSN.out (fun h => h) (fun h => absurd h (by decide))
                      cases bd with
                      | true =>
                        clear HN
                        go_wp2
                        go_roundg (K - (kk + 1))
                        case measure => omega
                        case rel => exact ⟨kk + 1, true, by simp, by simp, by omega, m1, rfl, fun _ _ => rfl⟩
                      | false =>
                        have HNF : Hid (¬ (∃ i0, i0 < kk + 1 ∧ ∀ m ∈ cls.getD i0 [], sgn S m = -1)) := fun hx => absurd (HN.out rfl hx) (by decide)
                        clear HN
                        go_wp2
                        go_roundg (K - (kk + 1))
                        case measure => omega
                        case rel => exact ⟨kk + 1, false, by simp, by simp, by omega, m1, rfl, fun _ hx => absurd hx HNF.out⟩
                    | false =>
                      by_cases h6 : op = 0
                      · subst h6
                        cases bd
                        all_goals
                          go_wp2
                          go_roundg (K - (kk + 1))
                          case measure => omega
                          case rel => exact ⟨kk + 1, true, by simp, by simp, by omega, m1, rfl, fun _ _ => rfl⟩
                      · have q6 : (op == 0) = false := beq_false_of_ne h6
                        have HN : Hid (false = false → (∃ i0, i0 < kk + 1 ∧ ∀ m ∈ cls.getD i0 [], sgn S m = -1) → bd = true) := HB2.out op false bd HSN.out (fun h => h) (fun _ h => absurd h h6)
                        cases bd with
                        | true =>
                          clear HN
                          go_wp2
                          go_roundg (K - (kk + 1))
                          case measure => omega
                          case rel => exact ⟨kk + 1, true, by simp, by simp, by omega, m1, rfl, fun _ _ => rfl⟩
                        | false =>
                          have HNF : Hid (¬ (∃ i0, i0 < kk + 1 ∧ ∀ m ∈ cls.getD i0 [], sgn S m = -1)) := fun hx => absurd (HN.out rfl hx) (by decide)
                          clear HN
                          go_wp2
                          go_roundg (K - (kk + 1))
                          case measure => omega
                          case rel => exact ⟨kk + 1, false, by simp, by simp, by omega, m1, rfl, fun _ hx => absurd hx HNF.out⟩
            · have hkn : kk = K := by omega
              subst hkn
              have HS3 : Aside (Stb w g b w.heap.size (w3.drewN m0)) := HST.out m0
              cases u with
              | true =>
                clear HBd
                go_wp2
                go_roundg (k - (i + 1))
                case measure => omega
                case rel => exact ⟨i + 1, by simp, by omega, HS3⟩
              | false =>
                have hbd : bd = true := HBd.out rfl (HF.out rfl)
                subst hbd
                clear HBd
                go_wp2
                go_roundg (k - (i + 1))
                case measure => omega
                case rel => exact ⟨i + 1, by simp, by omega, HS3⟩
        · have q3 : (xk == 3) = false := beq_false_of_ne hk3
          have H3 : Aside (Stb w g b w.heap.size w2) := H2.out
          go_wp2
          go_roundg (gk - 1)
          case measure => omega
          case rel => exact ⟨i + 1, by simp, by omega, H3⟩
      · have hji : i = k := by omega
        subst hji
        go_wp2
        first | exact HPP.out _ _ _ HJ.out | (go_ret2; exact HPP.out _ _ _ HJ.out) | (go_ret; exact HPP.out _ _ _ HJ.out)
end Go.Proofs.Ytpkbigjijihljab
