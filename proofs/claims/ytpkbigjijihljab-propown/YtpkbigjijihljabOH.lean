import Derived.Test.YtpkbigjijihljabOG
namespace Go.Proofs.Ytpkbigjijihljab
open Go.ChangeShapes Go.WideShapes Go.ChangeAt Go.RowKit
open Go.Pr
set_option maxHeartbeats 4000000 in
theorem does4 {w : World} {g b B : Nat} {O1 O2 : Nat → Prop} {S : ES} {p : Nat → Value} {cls : List (List Int)} {dec : List Int} {pA pD : Value} {q : Nat → Value} (h : EB w g b B O1 O2 S p cls dec pA pD q) (hr : BREL S cls dec) (N : Int) (ad : Option Addr) (n cp : Nat) :
    Calls Try.prog 7 #[.pointer (some ⟨b, 0, none⟩), .pointer (some ⟨g, 0, none⟩), .agg #[.int .i64 4, .int .i64 N, .slice ad n cp]] w fun e w' => e = .returned (.tuple #[]) ∧ Stb w g b B w' := by
  generalize hPP : (fun (e : Ending) (w' : World) => e = .returned (.tuple #[]) ∧ Stb w g b B w') = PP
  have HPP : Hid (∀ w', Stb w g b B w' → PP (.returned (.tuple #[])) w') := fun w' h => by rw [← hPP]; exact ⟨rfl, h⟩
  clear hPP
  have HE : Hid (∀ W, SB w w.heap.size #[.int .i64 4, .int .i64 N, .slice ad n cp] g b B S cls dec W → Calls Try.prog 23 #[.pointer (some ⟨g, 0, none⟩), .int .i64 N] W fun e w' => e = .returned (.int .i64 (bakE S N)) ∧ SB w w.heap.size #[.int .i64 4, .int .i64 N, .slice ad n cp] g b B (bakS S N) cls dec w') := fun W h => sb_back h hr.full N
  have HS : Hid (SB w w.heap.size #[.int .i64 4, .int .i64 N, .slice ad n cp] g b B S cls dec (w.alloc (.cells #[.int .i64 4, .int .i64 N, .slice ad n cp] 33))) := SB.start h
  have o1 : (w.alloc (.cells #[.int .i64 4, .int .i64 N, .slice ad n cp] 33)).cell? ⟨w.heap.size, 1, none⟩ = some (.int .i64 N) := HS.out.cell 1
  have hln := hr.len
  by_cases h1 : N < 0 ∨ (dec.length : Int) < N
  · have e0 : bakE S N = 32 := by unfold bakE ES.level; rw [← hln, if_pos h1]
    have eS : bakS S N = S := by unfold bakS ES.level; rw [← hln, if_neg (by omega)]
    have HQ : Hid (∀ w1, SB w w.heap.size #[.int .i64 4, .int .i64 N, .slice ad n cp] g b B S cls dec w1 → Stb w g b B w1) := fun w1 h => h.stb hr
    rw [eS, e0] at HE
    clear h hr eS e0 hln h1
    go_enter Try.func7, Try.ntmps7
    go_wp2_with fail
    first | (go_region_with (first | (go_at_call 23; refine (HE.out _ HS.out.drew).mono ?_; rintro e w1 ⟨rfl, hs⟩; have o2 := hs.cell 1; have HS1 : Hid (Stb w g b B w1) := HQ.out w1 hs; clear hs))) | fail
    all_goals
      go_wp2
      go_end0
      exact HPP.out _ HS1.out
  · have e0 : bakE S N = 0 := by unfold bakE ES.level; rw [← hln, if_neg h1]
    obtain ⟨k, rfl⟩ : ∃ k : Nat, N = (k : Int) := ⟨N.toNat, by omega⟩
    have hk0 : (0 : Int) ≤ (k : Int) := by omega
    have hdl : dec.length ≤ 1048576 := by rw [hr.len]; have := WF.marks_len hr.full.inv.wf; have := hr.full.inv.wf.n; omega
    by_cases h2 : (k : Int) < (dec.length : Int)
    · have eS : bakS S (k : Int) = S.back k := by unfold bakS ES.level; rw [← hln, if_pos ⟨by omega, h2⟩, show ((k : Int)).toNat = k by omega]
      have HR : Hid (BREL (S.back k) cls (dec.take k)) := hr.back (by rw [← hln]; omega)
      have HQ : Hid (∀ w1, SB w w.heap.size #[.int .i64 4, .int .i64 (k : Int), .slice ad n cp] g b B (S.back k) cls dec w1 → ∃ bD cD, w1.cell? ⟨w.heap.size, 1, none⟩ = some (.int .i64 (k : Int)) ∧ w1.cell? ⟨b, 1, none⟩ = some (.slice (some ⟨bD, 0, none⟩) dec.length cD) ∧ w1.frozen? ⟨b, 1, none⟩ = false ∧ dec.length ≤ cD ∧ Stb w g b B (w1.setCell ⟨b, 1, none⟩ (.slice (some ⟨bD, 0, none⟩) k cD))) := fun w1 hs => by
        have o2 : w1.cell? ⟨w.heap.size, 1, none⟩ = some (.int .i64 (k : Int)) := hs.cell 1
        obtain ⟨P1, P2, p', pA', pD', q', h1, h2', h3, h4, h5, h6⟩ := hs
        obtain ⟨aD, cD, eD, hcD, hn0, hs0⟩ := row_form h1.bk.rD
        obtain ⟨bD, rfl⟩ : ∃ bD, aD = some ⟨bD, 0, none⟩ := by
          cases aD with
          | none => have := hn0 rfl; omega
          | some a => obtain ⟨b, e⟩ := hs0 a rfl; exact ⟨b, by rw [e]⟩
        obtain ⟨z1, O', m', f'⟩ := h1.bk.reD (w1 := w1) (dec' := dec.take k) ⟨rfl, rfl, rfl, Nat.le_refl _, fun _ _ _ => rfl⟩ (.slice (some ⟨bD, 0, none⟩) k cD) (row_cut h1.bk.rD eD (by omega)) (by rw [eD]; exact Or.inl rfl)
        obtain ⟨t, bl⟩ := h1.k m' f'
        exact ⟨bD, cD, o2, (h1.bk.cell 1).trans (congrArg some eD), h1.bk.frozen 1, hcD, _, _, _, _, _, _, _, _, _, HR.out, t, h6.trans bl⟩
      rw [eS, e0] at HE
      clear h hr eS e0 hln h1 HR
      generalize dec.length = dl at *
      go_enter Try.func7, Try.ntmps7
      go_wp2_with fail
      first | (go_region_with (first | (go_at_call 23; refine (HE.out _ HS.out.drew).mono ?_; rintro e w1 ⟨rfl, hs⟩; obtain ⟨bD, cD, o2, kD, fD, hcD, hfin⟩ := HQ.out w1 hs; have HFIN : Hid (Stb w g b B (w1.setCell ⟨b, 1, none⟩ (.slice (some ⟨bD, 0, none⟩) k cD))) := hfin; clear hs hfin))) | fail
      all_goals
        have q1 : (k : Int) ≤ (cD : Int) := by omega
        go_wp2_with fail
        go_region
        all_goals
          go_wp2
          go_end0
          exact HPP.out _ (Stb.drew HFIN.out)
    · have eS : bakS S (k : Int) = S := by unfold bakS ES.level; rw [← hln, if_neg (by omega)]
      have HQ : Hid (∀ w1, SB w w.heap.size #[.int .i64 4, .int .i64 (k : Int), .slice ad n cp] g b B S cls dec w1 → ∃ aD cD, w1.cell? ⟨w.heap.size, 1, none⟩ = some (.int .i64 (k : Int)) ∧ w1.cell? ⟨b, 1, none⟩ = some (.slice aD dec.length cD) ∧ Stb w g b B w1) := fun w1 hs => by
        have o2 : w1.cell? ⟨w.heap.size, 1, none⟩ = some (.int .i64 (k : Int)) := hs.cell 1
        have hS := hs.stb hr
        obtain ⟨P1, P2, p', pA', pD', q', h1, _⟩ := hs
        obtain ⟨aD, cD, eD, _⟩ := row_form h1.bk.rD
        exact ⟨aD, cD, o2, (h1.bk.cell 1).trans (congrArg some eD), hS⟩
      rw [eS, e0] at HE
      clear h hr eS e0 hln h1
      generalize dec.length = dl at *
      go_enter Try.func7, Try.ntmps7
      go_wp2_with fail
      first | (go_region_with (first | (go_at_call 23; refine (HE.out _ HS.out.drew).mono ?_; rintro e w1 ⟨rfl, hs⟩; obtain ⟨aD, cD, o2, kD, hfin⟩ := HQ.out w1 hs; have HFIN : Hid (Stb w g b B w1) := hfin; clear hs hfin))) | fail
      all_goals
        go_wp2
        go_end0
        exact HPP.out _ HFIN.out
end Go.Proofs.Ytpkbigjijihljab
