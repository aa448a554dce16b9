import Derived.Test.YtpkbigjijihljabOK
import Derived.Test.YtpkbigjijihljabOM
namespace Go.Proofs.Ytpkbigjijihljab
open Go.ChangeShapes Go.WideShapes Go.ChangeAt Go.RowKit
open Go.Pr
/-- a number that makes all true -/
def Stm (t : Nat) (w : World) (g b B : Nat) (W : World) : Prop := ∃ S O1 O2 p cls dec pA pD q, BREL S cls dec ∧ EB W g b B O1 O2 S p cls dec pA pD q ∧ Below B w W ∧ (∀ c ∈ cls, ∃ m ∈ c, hv t m = true) ∧ ∀ d ∈ dec, hv t d = true
theorem Stm.stb {t : Nat} {w W : World} {g b B : Nat} (h : Stm t w g b B W) : Stb w g b B W := by
  obtain ⟨S, O1, O2, p, cls, dec, pA, pD, q, h1, h2, h3, _⟩ := h
  exact ⟨S, O1, O2, p, cls, dec, pA, pD, q, h1, h2, h3⟩
theorem Stm.drewN {t m : Nat} {w W : World} {g b B : Nat} (h : Stm t w g b B W) : Stm t w g b B (W.drewN m) := by
  obtain ⟨S, O1, O2, p, cls, dec, pA, pD, q, h1, h2, h3, h4⟩ := h
  exact ⟨S, O1, O2, p, cls, dec, pA, pD, q, h1, h2.drewN, ⟨h3.os, h3.tape, h3.output, h3.size, h3.block⟩, h4⟩
theorem Stb.made {t : Nat} (ht : t < 18446744073709551616) {w W : World} {g b B : Nat} (h : Stb w g b B W) :
    Calls Try.prog 10 #[.pointer (some ⟨b, 0, none⟩), .int .u64 (t : Int)] W fun e w' => ∃ r, e = .returned (.bool r) ∧ Stb w g b B w' ∧ (r = true → Stm t w g b B w') := by
  have h0 := h
  obtain ⟨S, O1, O2, p, cls, dec, pA, pD, q, h1, h2, h3⟩ := h
  refine (made_any h2.bk h1.bsz t ht).mono fun e w' hh => ?_
  obtain ⟨r, e1, e2, m, rfl⟩ := hh
  exact ⟨r, e1, h0.drewN, fun hr => ⟨S, O1, O2, p, cls, dec, pA, pD, q, h1, h2.drewN, ⟨h3.os, h3.tape, h3.output, h3.size, h3.block⟩, e2 hr⟩⟩
theorem vx_not {t : Nat} (x : Int) (h : x ≠ 0 ∧ hv t x = true) : ¬ (-x ≠ 0 ∧ hv t (-x) = true) := fun h2 => by
  have := hv_not h.2 h.1
  rw [this] at h2
  exact absurd h2.2 (by decide)
theorem Stm.vals {t : Nat} {S : ES} {cls : List (List Int)} {dec : List Int} (hr : BREL S cls dec) (h4 : (∀ c ∈ cls, ∃ m ∈ c, hv t m = true) ∧ ∀ d ∈ dec, hv t d = true) : (∀ c ∈ S.trail, hv t (litI c) = true) ∧ S.clash = none := by
  have hz := hr.bsz
  have a1 : ∀ c ∈ cls, ∃ m ∈ c, m ≠ 0 ∧ hv t m = true := fun c hc => by
    obtain ⟨m, hm, hv⟩ := h4.1 c hc
    exact ⟨m, hm, (hz.cb c hc m hm).1, hv⟩
  have a2 : ∀ d ∈ dec, d ≠ 0 ∧ hv t d = true := fun d hd => ⟨(hz.db d hd).1, h4.2 d hd⟩
  exact ⟨fun c hc => (hr.holds (V := fun x => x ≠ 0 ∧ hv t x = true) vx_not a1 a2 c hc).2, hr.sat (V := fun x => x ≠ 0 ∧ hv t x = true) vx_not a1 a2⟩
theorem Stm.trail {t : Nat} {w W : World} {g b B : Nat} (h : Stm t w g b B W) :
    Calls Try.prog 11 #[.pointer (some ⟨g, 0, none⟩)] W fun e w' => ∃ ad n, e = .returned (.slice ad n n) ∧ n ≤ 1048576 ∧ (∀ j, j < n → ∃ a x, ad = some ⟨a, 0, none⟩ ∧ (∀ m, (w'.drewN m).cell? ⟨a, j, none⟩ = some (.int .i64 x)) ∧ -1048576 ≤ x ∧ x ≤ 1048576 ∧ hv t x = true) ∧ Stm t w g b B w' := by
  obtain ⟨S, O1, O2, p, cls, dec, pA, pD, q, h1, h2, h3, h4⟩ := h
  have hw := h1.full.inv.wf
  refine (trail_full h2.m hw).mono fun e w' hh => ?_
  obtain ⟨v, e1, e2, e3, e4⟩ := hh
  obtain ⟨t2, bl⟩ := h2.told e3 e4
  have hS : Stm t w g b B w' := ⟨S, O1, O2, p, cls, dec, pA, pD, q, h1, t2, h3.trans bl, h4⟩
  have hl : (S.trail.map litI).length ≤ 1048576 := by rw [List.length_map]; have := hw.trail_len; have := hw.n; omega
  rcases e2 with ⟨rfl, e5⟩ | ⟨a, rfl, _, _, e6⟩
  · exact ⟨none, 0, e1, by omega, fun j hj => absurd hj (Nat.not_lt_zero j), hS⟩
  · refine ⟨some ⟨a, 0, none⟩, _, e1, hl, fun j hj => ⟨a, (S.trail.map litI).getD j 0, rfl, fun m => (blk_cell e6 j).trans (intsV_get _ j hj), ?_⟩, hS⟩
    rw [getD_of _ _ _ hj, List.getElem_map]
    have hj2 : j < S.trail.length := by rw [List.length_map] at hj; exact hj
    have hm := List.getElem_mem hj2
    have htr := hw.tr _ hm
    have hb := litI_le htr.2.1
    have hn := hw.n
    exact ⟨by omega, by omega, (Stm.vals h1 h4).1 _ hm⟩
theorem Stm.conflict {t : Nat} {w W : World} {g b B : Nat} (h : Stm t w g b B W) :
    Calls Try.prog 13 #[.pointer (some ⟨g, 0, none⟩)] W fun e w' => ∃ ad, e = .returned (.slice ad 0 0) ∧ Stm t w g b B w' := by
  obtain ⟨S, O1, O2, p, cls, dec, pA, pD, q, h1, h2, h3, h4⟩ := h
  have hw := h1.full.inv.wf
  have hc := (Stm.vals h1 h4).2
  refine (conflict_mem h2.m hw).mono fun e w' hh => ?_
  obtain ⟨v, e1, e2, e3, e4⟩ := hh
  obtain ⟨t2, bl⟩ := h2.told e3 e4
  rw [hc] at e2
  have hS : Stm t w g b B w' := ⟨S, O1, O2, p, cls, dec, pA, pD, q, h1, t2, h3.trans bl, h4⟩
  rcases e2 with ⟨rfl, _⟩ | ⟨a, rfl, _⟩
  · exact ⟨none, e1, hS⟩
  · exact ⟨_, e1, hS⟩
theorem Stm.prop {t : Nat} {w W : World} {g b B : Nat} (h : Stm t w g b B W) :
    Calls Try.prog 8 #[.pointer (some ⟨g, 0, none⟩)] W fun e w' => e = .returned (.bool true) ∧ Stb w g b B w' := by
  obtain ⟨S, O1, O2, p, cls, dec, pA, pD, q, h1, h2, h3, h4⟩ := h
  refine (propagate_mem h2.m h1.full).mono fun e w' hh => ?_
  obtain ⟨u, he, T, t1, t2, t3, t4⟩ := hh
  have hr := h1.runs t1
  have hc := (Stm.vals hr h4).2
  have hu : u = true := by
    cases u with
    | true => rfl
    | false => exact absurd hc (t3 rfl)
  rw [hu] at he
  obtain ⟨O1', p', t5, _, bl⟩ := h2.e t4
  exact ⟨he, T, O1', O2, p', cls, dec, pA, pD, q, hr, t5, h3.trans bl⟩
set_option maxHeartbeats 4000000 in
theorem follows_walk (vars : Int) {t : Nat} (ht : t < 18446744073709551616) {ad : Option Addr} {cp : Nat} {sc : List OP} (w : World) (hs : SCR w w.heap.size ad sc) (hl : sc.length ≤ 17592186044416) :
    Calls Try.prog 4 #[.int .i64 vars, .slice ad sc.length cp, .int .u64 (t : Int)] w fun e w' => e = .returned (.bool true) ∧ Below w.heap.size w w' := by
  by_cases h : vars < 0 ∨ 1048576 < vars
  · clear hs hl
    generalize sc.length = n
    go_enter Try.func4, Try.ntmps4
    go_wp2_with fail
    refine (first_no vars h w).mono ?_
    rintro e w1 ⟨rfl, hb⟩
    go_wp2
    go_ret
    exact ⟨rfl, hb⟩
  · obtain ⟨n, rfl⟩ : ∃ n : Nat, vars = n := ⟨vars.toNat, by omega⟩
    have hn : n ≤ 1048576 := by omega
    have HBo : Hid (Calls Try.prog 6 #[.int .i64 (n : Int)] w fun e w' => ∃ g, e = .returned (.tuple #[.pointer (some ⟨g, 0, none⟩), .bool true]) ∧ Stb w g w'.heap.size w.heap.size (w'.alloc (.cells #[.slice none 0 0, .slice none 0 0] 30))) := (first_ok n hn w).mono fun e w' hh => by
      obtain ⟨g, O, p, e1, m, a, bl⟩ := hh
      exact ⟨g, e1, Stb.start hn m a bl⟩
    generalize hPP : (fun (e : Ending) (w' : World) => e = .returned (.bool true) ∧ Below w.heap.size w w') = PP
    have HPP : Hid (∀ g b w', Stb w g b w.heap.size w' → PP (.returned (.bool true)) w') := fun g b w' h => by rw [← hPP]; exact ⟨rfl, h.below⟩
    have HSC : Hid (∀ g b i, i < sc.length → ∃ sb so xk xn xa xl xc, ad = some ⟨sb, so, none⟩ ∧ (∀ W, Stb w g b w.heap.size W → W.cell? ⟨sb, so + i * 3, none⟩ = some (.int .i64 xk) ∧ W.cell? ⟨sb, so + i * 3 + 1, none⟩ = some (.int .i64 xn) ∧ W.cell? ⟨sb, so + i * 3 + 2, none⟩ = some (.slice xa xl xc)) ∧
      ∀ V, Stb w g b w.heap.size V → Calls Try.prog 7 #[.pointer (some ⟨b, 0, none⟩), .pointer (some ⟨g, 0, none⟩), .agg #[.int .i64 xk, .int .i64 xn, .slice xa xl xc]] V fun e w' => e = .returned (.tuple #[]) ∧ Stb w g b w.heap.size w') := fun g b i hi => scr_does hs g b i hi
    have HMD : Hid (∀ g b W, Stb w g b w.heap.size W → Calls Try.prog 10 #[.pointer (some ⟨b, 0, none⟩), .int .u64 (t : Int)] W fun e w' => ∃ r, e = .returned (.bool r) ∧ Stb w g b w.heap.size w' ∧ (r = true → Stm t w g b w.heap.size w')) := fun g b W h => h.made ht
    have HTR : Hid (∀ g b W, Stm t w g b w.heap.size W → Calls Try.prog 11 #[.pointer (some ⟨g, 0, none⟩)] W fun e w' => ∃ ad n, e = .returned (.slice ad n n) ∧ n ≤ 1048576 ∧ (∀ j, j < n → ∃ a x, ad = some ⟨a, 0, none⟩ ∧ (∀ m, (w'.drewN m).cell? ⟨a, j, none⟩ = some (.int .i64 x)) ∧ -1048576 ≤ x ∧ x ≤ 1048576 ∧ hv t x = true) ∧ Stm t w g b w.heap.size w') := fun g b W h => h.trail
    have HHO : Hid (∀ l W, -1048576 ≤ l → l ≤ 1048576 → hv t l = true → Calls Try.prog 12 #[.int .u64 (t : Int), .int .i64 l] W fun e w' => e = .returned (.bool true) ∧ w' = W) := fun l W h1 h2 h3 => by
      have := holds_any t ht l h1 h2 W
      rw [h3] at this
      exact this
    have HCO : Hid (∀ g b W, Stm t w g b w.heap.size W → Calls Try.prog 13 #[.pointer (some ⟨g, 0, none⟩)] W fun e w' => ∃ ad, e = .returned (.slice ad 0 0) ∧ Stm t w g b w.heap.size w') := fun g b W h => h.conflict
    have HPR : Hid (∀ g b W, Stm t w g b w.heap.size W → Calls Try.prog 8 #[.pointer (some ⟨g, 0, none⟩)] W fun e w' => e = .returned (.bool true) ∧ Stb w g b w.heap.size w') := fun g b W h => h.prop
    clear hPP h hs ht hn
    generalize sc.length = k at *
    go_enter Try.func4, Try.ntmps4
    go_wp2_with fail
    refine HBo.out.mono ?_
    rintro e w1 ⟨g, rfl, h1⟩
    have H1 : Hid (Stb w g w1.heap.size w.heap.size (w1.alloc (.cells #[.slice none 0 0, .slice none 0 0] 30))) := h1
    clear h1 HBo
    go_wp2_with fail
    generalize w1.alloc (.cells #[.slice none 0 0, .slice none 0 0] 30) = W1 at *
    generalize w1.heap.size = b at *
    go_loopg [10, 11, 12] k (fun gk s10 s11 s12 wr => ∃ i : Nat, s10 = .int .i64 (i : Int) ∧ i + gk = k ∧ Aside (Stb w g b w.heap.size wr))
    case atStart => exact ⟨0, rfl, by omega, H1.out⟩
    case round =>
      obtain ⟨i, rfl, hi2, HJ⟩ := hrel
      by_cases hlt : i < k
      · obtain ⟨sb, so, xk, xn, xa, xl, xc, rfl, hcel, hdoes⟩ := HSC.out g b i hlt
        have HDO : Hid (∀ V, Stb w g b w.heap.size V → Calls Try.prog 7 #[.pointer (some ⟨b, 0, none⟩), .pointer (some ⟨g, 0, none⟩), .agg #[.int .i64 xk, .int .i64 xn, .slice xa xl xc]] V fun e w' => e = .returned (.tuple #[]) ∧ Stb w g b w.heap.size w') := hdoes
        have HCE : Hid (∀ W, Stb w g b w.heap.size W → W.cell? ⟨sb, so + i * 3, none⟩ = some (.int .i64 xk) ∧ W.cell? ⟨sb, so + i * 3 + 1, none⟩ = some (.int .i64 xn) ∧ W.cell? ⟨sb, so + i * 3 + 2, none⟩ = some (.slice xa xl xc)) := hcel
        obtain ⟨c0, c1, c2⟩ := hcel _ HJ.out
        have q1 : (i : Int) < (k : Int) := by omega
        clear hdoes hcel H1
        go_wp2_with fail
        refine (HDO.out _ HJ.out).mono ?_
        rintro e w2 ⟨rfl, h2⟩
        have H2 : Hid (Stb w g b w.heap.size w2) := h2
        clear h2 c0 c1 c2
        go_wp2_with fail
        refine (HMD.out _ _ _ H2.out).mono ?_
        rintro e w3 ⟨r, rfl, h3, h3'⟩
        cases r with
        | false =>
          have H3 : Aside (Stb w g b w.heap.size w3) := h3
          clear h3 h3' H2
          go_wp2
          go_roundg (gk - 1)
          case measure => omega
          case rel => exact ⟨i + 1, by simp, by omega, H3⟩
        | true =>
          have H3 : Hid (Stm t w g b w.heap.size w3) := h3' rfl
          clear h3 h3' H2
          go_wp2_with fail
          refine (HTR.out _ _ _ H3.out).mono ?_
          rintro e w4 ⟨at4, n4, rfl, h4a, h4b, h4c⟩
          have H4 : Hid (Stm t w g b w.heap.size w4) := h4c
          have H4b : Hid (∀ j, j < n4 → ∃ a x, at4 = some ⟨a, 0, none⟩ ∧ (∀ m, (w4.drewN m).cell? ⟨a, j, none⟩ = some (.int .i64 x)) ∧ -1048576 ≤ x ∧ x ≤ 1048576 ∧ hv t x = true) := h4b
          clear h4b h4c H3
          go_wp2_with fail
          go_loopg [12] n4 (fun gk2 s12 wr2 => ∃ j : Nat, s12 = .int .i64 (j : Int) ∧ j + gk2 = n4 ∧ ∃ m, w4.drewN m = wr2)
          case atStart => exact ⟨0, rfl, by omega, 0, rfl⟩
          case round =>
            obtain ⟨j, rfl, hj, m0, rfl⟩ := hrel
            by_cases hlt2 : j < n4
            · obtain ⟨a, x, rfl, d1, d2, d3, d4⟩ := H4b.out j hlt2
              have HHj : Hid (∀ W, Calls Try.prog 12 #[.int .u64 (t : Int), .int .i64 x] W fun e w' => e = .returned (.bool true) ∧ w' = W) := fun W => HHO.out x W d2 d3 d4
              have d1m := d1 m0
              have q2 : (j : Int) < (n4 : Int) := by omega
              clear d1 d2 d3 d4
              go_wp2_with fail
              first
              | (refine (HHj.out _).mono ?_
                 rintro e w' ⟨rfl, hw'⟩
                 obtain rfl := hw'.symm
                 go_wp2
                 go_roundg (gk - 1)
                 case measure => omega
                 case rel => exact ⟨j + 1, by simp, by omega, m0, rfl⟩)
              | (go_quiet ((go_at_call 12; exact Calls.quiet_of_same (HHj.out _)))
                 go_wp2
                 go_roundg (gk - 1)
                 case measure => omega
                 case rel => exact ⟨j + 1, by simp, by omega, _, rfl⟩)
            · have hjn : j = n4 := by omega
              subst hjn
              have H5 : Hid (Stm t w g b w.heap.size (w4.drewN m0)) := H4.out.drewN
              have H5b : Hid (∀ W, Stm t w g b w.heap.size W → W.cell? ⟨sb, so + i * 3, none⟩ = some (.int .i64 xk)) := fun W h => (HCE.out W h.stb).1
              clear H4
              go_wp2_with fail
              refine (HCO.out _ _ _ H5.out).mono ?_
              rintro e w5 ⟨ad5, rfl, h5⟩
              have H6 : Hid (Stm t w g b w.heap.size w5) := h5
              have c5 := H5b.out w5 h5
              have H7 : Aside (Stb w g b w.heap.size w5) := h5.stb
              clear h5 H5 H5b
              by_cases hk3 : xk = 3
              · subst hk3
                go_wp2_with fail
                refine (HPR.out _ _ _ H6.out).mono ?_
                rintro e w6 ⟨rfl, h6⟩
                have H8 : Aside (Stb w g b w.heap.size w6) := h6
                clear h6 H6 c5
                go_wp2
                go_roundg (k - (i + 1))
                case measure => omega
                case rel => exact ⟨i + 1, by simp, by omega, H8⟩
              · have q3 : (xk == 3) = false := beq_false_of_ne hk3
                go_wp2
                go_roundg (k - (i + 1))
                case measure => omega
                case rel => exact ⟨i + 1, by simp, by omega, H7⟩
      · have hji : i = k := by omega
        subst hji
        go_wp2
        first | exact HPP.out _ _ _ HJ.out | (go_ret2; exact HPP.out _ _ _ HJ.out) | (go_ret; exact HPP.out _ _ _ HJ.out)
end Go.Proofs.Ytpkbigjijihljab
