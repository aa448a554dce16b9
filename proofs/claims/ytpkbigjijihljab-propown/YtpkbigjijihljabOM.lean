import Derived.Test.YtpkbigjijihljabOE
import Derived.BigQuiet
import Derived.Deep.DeepCutAuto
import Derived.Deep.QuietTactic
namespace Go.Proofs.Ytpkbigjijihljab
open Go.ChangeShapes Go.WideShapes Go.ChangeAt Go.RowKit
open Go.Pr
/-- a literal under a number -/
def hv (t : Nat) (l : Int) : Bool := if l < 0 then (((t : Int) / 2 ^ ((-l).toNat % 64)).tmod 2 == 0) else (((t : Int) / 2 ^ (l.toNat % 64)).tmod 2 == 1)
theorem hv_not {t : Nat} {l : Int} (h : hv t l = true) (h0 : l ≠ 0) : hv t (-l) = false := by
  unfold hv at *
  by_cases h1 : l < 0
  · rw [if_pos h1] at h
    rw [if_neg (by omega)]
    have := eq_of_beq h
    rw [this]
    rfl
  · rw [if_neg h1] at h
    rw [if_pos (by omega), Int.neg_neg]
    have := eq_of_beq h
    rw [this]
    rfl
theorem holds_any (t : Nat) (_ : t < 18446744073709551616) (l : Int) (h1 : -1048576 ≤ l) (h2 : l ≤ 1048576) (w : World) :
    Calls Try.prog 12 #[.int .u64 (t : Int), .int .i64 l] w fun e w' => e = .returned (.bool (hv t l)) ∧ w' = w := by
  by_cases h0 : l < 0
  · obtain ⟨n, rfl⟩ : ∃ n : Nat, l = -(n : Int) := ⟨(-l).toNat, by omega⟩
    have e : hv t (-(n : Int)) = (((t : Int) / 2 ^ (n % 64)).tmod 2 == 0) := by
      unfold hv
      rw [if_pos h0, Int.neg_neg, show ((n : Int)).toNat = n by omega]
    rw [e]
    clear e
    go_enter Try.func12, Try.ntmps12
    go_wp2
    go_ret
    exact ⟨rfl, rfl⟩
  · obtain ⟨n, rfl⟩ : ∃ n : Nat, l = (n : Int) := ⟨l.toNat, by omega⟩
    have e : hv t (n : Int) = (((t : Int) / 2 ^ (n % 64)).tmod 2 == 1) := by
      unfold hv
      rw [if_neg h0, show ((n : Int)).toNat = n by omega]
    rw [e]
    clear e
    go_enter Try.func12, Try.ntmps12
    go_wp2
    go_ret
    exact ⟨rfl, rfl⟩
end Go.Proofs.Ytpkbigjijihljab
namespace Go.Proofs.Ytpkbigjijihljab
open Go.ChangeShapes Go.WideShapes Go.ChangeAt Go.RowKit
open Go.Pr
theorem row_form2 {w : World} {base e size n : Nat} {v : Value} {L : List Value} (h : w.ownsRow base e size v n L) (hn : 0 < n) : ∃ b c, v = .slice (some ⟨b, 0, none⟩) n c ∧ n ≤ c ∧ ∀ j, j < n * size → w.cell? ⟨b, j, none⟩ = L[j]? := by
  have h1 := h
  rcases h.2 with ⟨e, h0⟩ | ⟨b, cap, cur, e, _, hb, hc, _⟩
  · omega
  · rw [e] at h1
    exact ⟨b, cap, e, hc, fun j hj => h1.cellAt j hj⟩
/-- a clause of the book -/
theorem BK.at {w : World} {b : Nat} {O : Nat → Prop} {cls : List (List Int)} {dec : List Int} {pA pD : Value} {q : Nat → Value} (h : BK w b O cls dec pA pD q) {i : Nat} (hi : i < cls.length) : ∃ bA cA ad cp, pA = .slice (some ⟨bA, 0, none⟩) cls.length cA ∧ w.cell? ⟨bA, i, none⟩ = some (.slice ad (cls.getD i []).length cp) ∧ (0 < (cls.getD i []).length → ∃ b o, ad = some ⟨b, o, none⟩ ∧ ∀ j, j < (cls.getD i []).length → w.cell? ⟨b, o + j, none⟩ = some (.int .i64 ((cls.getD i []).getD j 0))) := by
  obtain ⟨bA, cA, e1, _, e2⟩ := row_form2 h.rA (by omega)
  obtain ⟨ad, cp, e3, e4⟩ := h.rq i hi
  refine ⟨bA, cA, ad, cp, e1, ?_, fun h0 => ?_⟩
  · rw [e2 i (by omega), List.getElem?_map, List.getElem?_range hi, ← e3]
    rfl
  · obtain ⟨b1, o, cs, e5, _, _, e6⟩ := e4 h0
    exact ⟨b1, o, e5, e6⟩
theorem BK.decAt {w : World} {b : Nat} {O : Nat → Prop} {cls : List (List Int)} {dec : List Int} {pA pD : Value} {q : Nat → Value} (h : BK w b O cls dec pA pD q) {i : Nat} (hi : i < dec.length) : ∃ bD cD, pD = .slice (some ⟨bD, 0, none⟩) dec.length cD ∧ w.cell? ⟨bD, i, none⟩ = some (.int .i64 (dec.getD i 0)) := by
  obtain ⟨bD, cD, e1, _, e2⟩ := row_form2 h.rD (by omega)
  refine ⟨bD, cD, e1, ?_⟩
  rw [e2 i (by omega), List.getElem?_map, List.getElem?_eq_getElem hi, getD_of _ _ _ hi]
  rfl
theorem BK.formA {w : World} {b : Nat} {O : Nat → Prop} {cls : List (List Int)} {dec : List Int} {pA pD : Value} {q : Nat → Value} (h : BK w b O cls dec pA pD q) : (∃ ad c, pA = .slice ad cls.length c) ∧ ∃ ad c, pD = .slice ad dec.length c := by
  constructor
  · rcases h.rA.2 with ⟨e, h0⟩ | ⟨b, cap, cur, e, _⟩
    · exact ⟨none, 0, by rw [e, h0]⟩
    · exact ⟨_, cap, e⟩
  · rcases h.rD.2 with ⟨e, h0⟩ | ⟨b, cap, cur, e, _⟩
    · exact ⟨none, 0, by rw [e, h0]⟩
    · exact ⟨_, cap, e⟩
/-- how great a book may be -/
structure BSZ (cls : List (List Int)) (dec : List Int) : Prop where
  c : cls.length ≤ 1048576
  cl : ∀ c ∈ cls, c.length ≤ 65536
  cb : ∀ c ∈ cls, ∀ m ∈ c, m ≠ 0 ∧ -1048576 ≤ m ∧ m ≤ 1048576
  d : dec.length ≤ 1048576
  db : ∀ m ∈ dec, m ≠ 0 ∧ -1048576 ≤ m ∧ m ≤ 1048576
theorem BREL.bsz {S : ES} {cls : List (List Int)} {dec : List Int} (h : BREL S cls dec) : BSZ cls dec := by
  have hw := h.full.inv.wf
  have hn := hw.n
  refine ⟨by rw [h.all, all_len]; exact hw.cll, fun c hc => ?_, fun c hc m hm => ?_, by rw [h.len]; have := WF.marks_len hw; omega, fun m hm => ?_⟩
  · rw [h.all] at hc
    obtain ⟨k, hk, rfl⟩ := mem_allI.1 hc
    rw [List.length_map, hw.inside_len hk]
    exact (hw.clause_ok hk).2.2.1
  · rw [h.all] at hc
    obtain ⟨k, hk, rfl⟩ := mem_allI.1 hc
    obtain ⟨z, hz, rfl⟩ := List.mem_map.1 hm
    have hz2 := hw.inside_mem hz
    have := litI_le hz2.2
    exact ⟨litI_ne hz2.1, by omega, by omega⟩
  · obtain ⟨j, hj, e⟩ := List.mem_iff_getElem.1 hm
    have hj2 : j < S.marks.length := by rw [← h.len]; exact hj
    have hd := h.dec j hj2
    rw [getD_of _ _ _ hj, e] at hd
    have hml : S.marks.getD j 0 < S.trail.length := by rw [getD_of _ _ _ hj2]; exact hw.mks _ (List.getElem_mem _)
    generalize S.marks.getD j 0 = a at hml hd
    rw [getD_of _ _ _ hml] at hd
    have ht := hw.tr _ (List.getElem_mem hml)
    have := litI_le ht.2.1
    rw [hd]
    exact ⟨litI_ne ht.1, by omega, by omega⟩
set_option maxHeartbeats 4000000 in
theorem made_any {w : World} {b : Nat} {O : Nat → Prop} {cls : List (List Int)} {dec : List Int} {pA pD : Value} {q : Nat → Value} (h : BK w b O cls dec pA pD q) (hz : BSZ cls dec) (t : Nat) (ht : t < 18446744073709551616) :
    Calls Try.prog 10 #[.pointer (some ⟨b, 0, none⟩), .int .u64 (t : Int)] w fun e w' => ∃ r, e = .returned (.bool r) ∧ (r = true → (∀ c ∈ cls, ∃ m ∈ c, hv t m = true) ∧ ∀ d ∈ dec, hv t d = true) ∧ ∃ m, w' = w.drewN m := by
  obtain ⟨⟨aA, cA, eA⟩, aD, cD, eD⟩ := h.formA
  have k0 : w.cell? ⟨b, 0, none⟩ = some (.slice aA cls.length cA) := (h.cell 0).trans (congrArg some eA)
  have k1 : w.cell? ⟨b, 1, none⟩ = some (.slice aD dec.length cD) := (h.cell 1).trans (congrArg some eD)
  have HB : Hid (BK w b O cls dec pA pD q) := h
  have HZ : Hid (BSZ cls dec) := hz
  have hc := hz.c
  have hd := hz.d
  have HH : Hid (∀ l W, l ≠ 0 ∧ -1048576 ≤ l ∧ l ≤ 1048576 → Calls Try.prog 12 #[.int .u64 (t : Int), .int .i64 l] W fun e w' => e = .returned (.bool (hv t l)) ∧ w' = W) := fun l W hl => holds_any t ht l hl.2.1 hl.2.2 W
  generalize hPP : (fun (e : Ending) (w' : World) => ∃ r, e = .returned (.bool r) ∧ (r = true → (∀ c ∈ cls, ∃ m ∈ c, hv t m = true) ∧ ∀ d ∈ dec, hv t d = true) ∧ ∃ m, w' = w.drewN m) = PP
  have HP0 : Hid (∀ m, PP (.returned (.bool false)) (w.drewN m)) := fun m => by rw [← hPP]; exact ⟨false, rfl, fun h => absurd h (by decide), m, rfl⟩
  have HP1 : Hid (∀ m, (∀ i, i < cls.length → ∃ m ∈ cls.getD i [], hv t m = true) → (∀ i, i < dec.length → hv t (dec.getD i 0) = true) → PP (.returned (.bool true)) (w.drewN m)) := fun m h1 h2 => by
    rw [← hPP]
    refine ⟨true, rfl, fun _ => ⟨fun c hc => ?_, fun d hd => ?_⟩, m, rfl⟩
    · obtain ⟨i, hi, e⟩ := List.mem_iff_getElem.1 hc
      have := h1 i hi
      rw [getD_of _ _ _ hi, e] at this
      exact this
    · obtain ⟨i, hi, e⟩ := List.mem_iff_getElem.1 hd
      have := h2 i hi
      rw [getD_of _ _ _ hi, e] at this
      exact this
  clear h hz hPP
  have HC : Hid (∀ i, i < cls.length → ∃ bA ad cp, aA = some ⟨bA, 0, none⟩ ∧ (∀ m, (w.drewN m).cell? ⟨bA, i, none⟩ = some (.slice ad (cls.getD i []).length cp)) ∧ (0 < (cls.getD i []).length → ∃ b o, ad = some ⟨b, o, none⟩ ∧ ∀ m j, j < (cls.getD i []).length → (w.drewN m).cell? ⟨b, o + j, none⟩ = some (.int .i64 ((cls.getD i []).getD j 0)))) := fun i hi => by
    obtain ⟨bA, cA', ad, cp, e1, e2, e3⟩ := HB.out.at hi
    rw [eA] at e1
    injection e1 with e4 _ _
    exact ⟨bA, ad, cp, e4, fun _ => e2, fun h0 => by obtain ⟨b1, o, e5, e6⟩ := e3 h0; exact ⟨b1, o, e5, fun _ => e6⟩⟩
  have HD : Hid (∀ i, i < dec.length → ∃ bD, aD = some ⟨bD, 0, none⟩ ∧ ∀ m, (w.drewN m).cell? ⟨bD, i, none⟩ = some (.int .i64 (dec.getD i 0))) := fun i hi => by
    obtain ⟨bD, cD', e1, e2⟩ := HB.out.decAt hi
    rw [eD] at e1
    injection e1 with e4 _ _
    exact ⟨bD, e4, fun _ => e2⟩
  have HL : Hid (∀ i, i < cls.length → (cls.getD i []).length ≤ 65536 ∧ ∀ j, j < (cls.getD i []).length → (cls.getD i []).getD j 0 ∈ cls.getD i [] ∧ (cls.getD i []).getD j 0 ≠ 0 ∧ -1048576 ≤ (cls.getD i []).getD j 0 ∧ (cls.getD i []).getD j 0 ≤ 1048576) := fun i hi => by
    have hm : cls.getD i [] ∈ cls := by rw [getD_of _ _ _ hi]; exact List.getElem_mem _
    refine ⟨HZ.out.cl _ hm, fun j hj => ?_⟩
    have hm2 : (cls.getD i []).getD j 0 ∈ cls.getD i [] := by rw [getD_of (cls.getD i []) _ _ hj]; exact List.getElem_mem _
    exact ⟨hm2, HZ.out.cb _ hm _ hm2⟩
  have HLD : Hid (∀ i, i < dec.length → dec.getD i 0 ≠ 0 ∧ -1048576 ≤ dec.getD i 0 ∧ dec.getD i 0 ≤ 1048576) := fun i hi => HZ.out.db _ (by rw [getD_of _ _ _ hi]; exact List.getElem_mem _)
  have k0' : ∀ m, (w.drewN m).cell? ⟨b, 0, none⟩ = some (.slice aA cls.length cA) := fun _ => k0
  have k1' : ∀ m, (w.drewN m).cell? ⟨b, 1, none⟩ = some (.slice aD dec.length cD) := fun _ => k1
  clear HB HZ eA eD k0 k1 ht
  obtain ⟨k, hk⟩ : ∃ k, cls.length = k := ⟨_, rfl⟩
  obtain ⟨d, hdd⟩ : ∃ d, dec.length = d := ⟨_, rfl⟩
  rw [hk] at HC HL HP1 k0' hc
  rw [hdd] at HD HLD HP1 k1' hd
  clear hk hdd
  have k00 := k0' 0
  have HW0 : Hid (w = w.drewN 0) := rfl
  go_enter Try.func10, Try.ntmps10
  go_wp2_with fail
  go_loopg [5, 6, 7] k (fun gk s5 s6 s7 wr => ∃ i : Nat, s5 = .int .i64 (i : Int) ∧ i + gk = k ∧ ∃ m, w.drewN m = wr ∧ Aside (∀ j, j < i → ∃ m ∈ cls.getD j [], hv t m = true))
  case atStart => exact ⟨0, rfl, by omega, 0, rfl, fun j hj => absurd hj (Nat.not_lt_zero j)⟩
  case round =>
    obtain ⟨i, rfl, hi, m0, rfl, HA⟩ := hrel
    by_cases hlt : i < k
    · obtain ⟨bA, ad, cp, rfl, e1, e2⟩ := HC.out i hlt
      obtain ⟨l1, l2⟩ := HL.out i hlt
      have HL2 : Hid (∀ j, j < (cls.getD i []).length → (cls.getD i []).getD j 0 ∈ cls.getD i [] ∧ (cls.getD i []).getD j 0 ≠ 0 ∧ -1048576 ≤ (cls.getD i []).getD j 0 ∧ (cls.getD i []).getD j 0 ≤ 1048576) := l2
      have HE2 : Hid (0 < (cls.getD i []).length → ∃ b o, ad = some ⟨b, o, none⟩ ∧ ∀ m j, j < (cls.getD i []).length → (w.drewN m).cell? ⟨b, o + j, none⟩ = some (.int .i64 ((cls.getD i []).getD j 0))) := e2
      have HN : Aside ((∃ m ∈ cls.getD i [], hv t m = true) → ∀ j, j < i + 1 → ∃ m ∈ cls.getD j [], hv t m = true) := fun h5 j hj => by
        by_cases e : j = i
        · rw [e]; exact h5
        · exact HA.out j (by omega)
      clear l2 e2
      generalize cls.getD i [] = c at *
      obtain ⟨n, hn⟩ : ∃ n, c.length = n := ⟨_, rfl⟩
      rw [hn] at e1 l1 HL2 HE2
      clear hn
      have q1 : (i : Int) < (k : Int) := by omega
      have k0m := k0' m0
      have e1m := e1 m0
      go_wp2_with fail
      go_loopg [6, 7] n (fun gk2 s6 s7 wr2 => ∃ (j : Nat) (r : Bool), s6 = .bool r ∧ s7 = .int .i64 (j : Int) ∧ j + gk2 = n ∧ ∃ m, w.drewN m = wr2 ∧ Aside (r = true → ∃ x ∈ c, hv t x = true))
      case atStart => exact ⟨0, false, rfl, rfl, by omega, m0, rfl, fun h => absurd h (by decide)⟩
      case round =>
        obtain ⟨j, r, rfl, rfl, hj, m1, rfl, HAr⟩ := hrel
        have k0n := k0' m1
        have e1n := e1 m1
        clear k0m e1m
        by_cases hlt2 : j < n
        · obtain ⟨b1, o1, rfl, e3⟩ := HE2.out (by omega)
          obtain ⟨x1, x2⟩ := HL2.out j hlt2
          have e3n := e3 m1 j hlt2
          have q2 : (j : Int) < (n : Int) := by omega
          have HX1 : Aside (c.getD j 0 ∈ c) := x1
          have HHj : Hid (∀ W, Calls Try.prog 12 #[.int .u64 (t : Int), .int .i64 (c.getD j 0)] W fun e w' => e = .returned (.bool (hv t (c.getD j 0))) ∧ w' = W) := fun W => HH.out _ W x2
          clear e3 x1 x2
          generalize c.getD j 0 = x at *
          obtain ⟨y, hy⟩ : ∃ y, hv t x = y := ⟨_, rfl⟩
          rw [hy] at HHj
          cases r with
          | true =>
            have HT : Aside (∃ x ∈ c, hv t x = true) := HAr.out rfl
            clear HAr
            go_wp2_with fail
            go_roundg (gk - 1)
            case measure => omega
            case rel => exact ⟨j + 1, true, rfl, by simp, by omega, m1, rfl, fun _ => HT.out⟩
          | false =>
            have HAy : Aside (y = true → ∃ x ∈ c, hv t x = true) := fun h => ⟨x, HX1.out, by rw [hy]; exact h⟩
            clear hy
            go_wp2_with fail
            first
            | (go_quiet ((go_at_call 12; exact Calls.quiet_of_same (HHj.out _)))
               go_wp2
               go_roundg (gk - 1)
               case measure => omega
               case rel => exact ⟨j + 1, y, by simp, by simp, by omega, _, rfl, HAy⟩)
            | (refine (HHj.out _).mono ?_
               rintro e w' ⟨rfl, hw'⟩
               obtain rfl := hw'.symm
               go_wp2
               go_roundg (gk - 1)
               case measure => omega
               case rel => exact ⟨j + 1, y, by simp, by simp, by omega, m1, rfl, HAy⟩)
        · have hjn : j = n := by omega
          subst hjn
          cases r with
          | true =>
            have HN2 := HN.out (HAr.out rfl)
            have HN3 : Aside (∀ j, j < i + 1 → ∃ m ∈ cls.getD j [], hv t m = true) := HN2
            clear HN2
            go_wp2
            go_roundg (k - (i + 1))
            case measure => omega
            case rel => exact ⟨i + 1, by simp, by omega, m1, rfl, HN3⟩
          | false =>
            go_wp2
            first | exact HP0.out _ | (go_ret; exact HP0.out _) | (go_ret2; exact HP0.out _)
    · have hik : i = k := by omega
      subst hik
      have HA2 : Hid (∀ j, j < i → ∃ m ∈ cls.getD j [], hv t m = true) := HA.out
      have k0m := k0' m0
      have k1m := k1' m0
      go_wp2_with fail
      go_loopg [8] d (fun gk2 s8 wr2 => ∃ (j : Nat), s8 = .int .i64 (j : Int) ∧ j + gk2 = d ∧ ∃ m, w.drewN m = wr2 ∧ Aside (∀ x, x < j → hv t (dec.getD x 0) = true))
      case atStart => exact ⟨0, rfl, by omega, m0, rfl, fun j hj => absurd hj (Nat.not_lt_zero j)⟩
      case round =>
        obtain ⟨j, rfl, hj, m1, rfl, HAr⟩ := hrel
        have k1n := k1' m1
        clear k0m k1m
        by_cases hlt2 : j < d
        · obtain ⟨bD, rfl, e3⟩ := HD.out j hlt2
          have x2 := HLD.out j hlt2
          have e3n := e3 m1
          have q2 : (j : Int) < (d : Int) := by omega
          have HHj : Hid (∀ W, Calls Try.prog 12 #[.int .u64 (t : Int), .int .i64 (dec.getD j 0)] W fun e w' => e = .returned (.bool (hv t (dec.getD j 0))) ∧ w' = W) := fun W => HH.out _ W x2
          have HNx : Aside (hv t (dec.getD j 0) = true → ∀ x, x < j + 1 → hv t (dec.getD x 0) = true) := fun h x hx => by
            by_cases e : x = j
            · rw [e]; exact h
            · exact HAr.out x (by omega)
          clear e3 x2
          generalize dec.getD j 0 = x at *
          cases hy : hv t x with
          | true =>
            rw [hy] at HHj
            have HN3 : Aside (∀ x, x < j + 1 → hv t (dec.getD x 0) = true) := HNx.out hy
            clear hy HNx
            go_wp2_with fail
            first
            | (go_quiet ((go_at_call 12; exact Calls.quiet_of_same (HHj.out _)))
               go_wp2
               go_roundg (gk - 1)
               case measure => omega
               case rel => exact ⟨j + 1, by simp, by omega, _, rfl, HN3⟩)
            | (refine (HHj.out _).mono ?_
               rintro e w' ⟨rfl, hw'⟩
               obtain rfl := hw'.symm
               go_wp2
               go_roundg (gk - 1)
               case measure => omega
               case rel => exact ⟨j + 1, by simp, by omega, m1, rfl, HN3⟩)
          | false =>
            rw [hy] at HHj
            clear hy HNx
            go_wp2_with fail
            first
            | (go_quiet ((go_at_call 12; exact Calls.quiet_of_same (HHj.out _)))
               go_wp2
               first | exact HP0.out _ | (go_ret; exact HP0.out _) | (go_ret2; exact HP0.out _))
            | (refine (HHj.out _).mono ?_
               rintro e w' ⟨rfl, hw'⟩
               obtain rfl := hw'.symm
               go_wp2
               first | exact HP0.out _ | (go_ret; exact HP0.out _) | (go_ret2; exact HP0.out _))
        · have hjn : j = d := by omega
          subst hjn
          have HP2 : Hid (PP (.returned (.bool true)) (w.drewN m1)) := HP1.out m1 HA2.out HAr.out
          go_wp2
          first | exact HP2.out | (go_ret; exact HP2.out) | (go_ret2; exact HP2.out)
end Go.Proofs.Ytpkbigjijihljab
