import Derived.Test.YtpkbigjijihljaaLC
namespace Go.Proofs.Ytpkbigjijihljaa
open Go.ChangeShapes Go.WideShapes Go.ChangeAt Go.RowKit
open Go.Pr
set_option maxHeartbeats 4000000 in
theorem step2 {w : World} {g r B : Nat} {O1 O2 : Nat → Prop} {S : ES} {R : RS} {p : Nat → Value} {pA pT : Value} {q : Nat → Value} (h : TWO w g r B O1 O2 S R p pA pT q) (hr : REL S R) (N : Int) (ad : Option Addr) (n cp : Nat) :
    Calls Try.prog 11 #[.pointer (some ⟨g, 0, none⟩), .pointer (some ⟨r, 0, none⟩), .agg #[.int .i64 2, .int .i64 N, .slice ad n cp]] w fun e w' => e = .returned (.bool true) ∧ Stp w g r B w' := by
  generalize hPP : (fun (e : Ending) (w' : World) => e = .returned (.bool true) ∧ Stp w g r B w') = PP
  have HPP : Hid (∀ w', Stp w g r B w' → PP (.returned (.bool true)) w') := fun w' h => by rw [← hPP]; exact ⟨rfl, h⟩
  clear hPP
  have HS : Hid (ST w w.heap.size #[.int .i64 2, .int .i64 N, .slice ad n cp] g r B S R (w.alloc (.cells #[.int .i64 2, .int .i64 N, .slice ad n cp] 32))) := ST.start h
  have HE : Hid (∀ W, ST w w.heap.size #[.int .i64 2, .int .i64 N, .slice ad n cp] g r B S R W → Calls Try.prog 25 #[.pointer (some ⟨g, 0, none⟩), .int .i64 N] W fun e w' => e = .returned (.int .i64 (decE S N)) ∧ ST w w.heap.size #[.int .i64 2, .int .i64 N, .slice ad n cp] g r B (decS S N) R w') := fun W h => st_decide h hr.full N
  have HR : Hid (∀ W, ST w w.heap.size #[.int .i64 2, .int .i64 N, .slice ad n cp] g r B (decS S N) R W → Calls Try.prog 26 #[.pointer (some ⟨r, 0, none⟩), .int .i64 N] W fun e w' => e = .returned (.int .i64 (decE S N)) ∧ Stp w g r B w') := fun W h => (st_rdecide h hr.rw N).mono fun e w' hh => ⟨by rw [← hr.decE]; exact hh.1, hh.2.stp (hr.decide N)⟩
  clear h hr
  go_enter Try.func11, Try.ntmps11
  go_wp2_with fail
  go_region_with (first
    | (go_at_call 25; refine (HE.out _ HS.out.drew).mono ?_; rintro e w1 ⟨rfl, hs1⟩; have HS1 : Hid (ST w w.heap.size #[.int .i64 2, .int .i64 N, .slice ad n cp] g r B (decS S N) R w1) := hs1; have c1 : w1.cell? ⟨w.heap.size, 1, none⟩ = some (.int .i64 N) := hs1.cell 1; clear hs1)
    | (go_at_call 26; refine (HR.out _ HS1.out).mono ?_; rintro e w2 ⟨rfl, hs2⟩; have HS2 : Hid (Stp w g r B w2) := hs2; clear hs2))
  all_goals
    go_wp2
    first | exact HPP.out _ HS2.out | (go_ret2; exact HPP.out _ HS2.out) | (go_ret; exact HPP.out _ HS2.out)
end Go.Proofs.Ytpkbigjijihljaa
namespace Go.Proofs.Ytpkbigjijihljaa
open Go.ChangeShapes Go.WideShapes Go.ChangeAt Go.RowKit
open Go.Pr
set_option maxHeartbeats 4000000 in
theorem step4 {w : World} {g r B : Nat} {O1 O2 : Nat → Prop} {S : ES} {R : RS} {p : Nat → Value} {pA pT : Value} {q : Nat → Value} (h : TWO w g r B O1 O2 S R p pA pT q) (hr : REL S R) (N : Int) (ad : Option Addr) (n cp : Nat) :
    Calls Try.prog 11 #[.pointer (some ⟨g, 0, none⟩), .pointer (some ⟨r, 0, none⟩), .agg #[.int .i64 4, .int .i64 N, .slice ad n cp]] w fun e w' => e = .returned (.bool true) ∧ Stp w g r B w' := by
  generalize hPP : (fun (e : Ending) (w' : World) => e = .returned (.bool true) ∧ Stp w g r B w') = PP
  have HPP : Hid (∀ w', Stp w g r B w' → PP (.returned (.bool true)) w') := fun w' h => by rw [← hPP]; exact ⟨rfl, h⟩
  clear hPP
  have HS : Hid (ST w w.heap.size #[.int .i64 4, .int .i64 N, .slice ad n cp] g r B S R (w.alloc (.cells #[.int .i64 4, .int .i64 N, .slice ad n cp] 32))) := ST.start h
  have HE : Hid (∀ W, ST w w.heap.size #[.int .i64 4, .int .i64 N, .slice ad n cp] g r B S R W → Calls Try.prog 28 #[.pointer (some ⟨g, 0, none⟩), .int .i64 N] W fun e w' => e = .returned (.int .i64 (bakE S N)) ∧ ST w w.heap.size #[.int .i64 4, .int .i64 N, .slice ad n cp] g r B (bakS S N) R w') := fun W h => st_back h hr.full N
  have HR : Hid (∀ W, ST w w.heap.size #[.int .i64 4, .int .i64 N, .slice ad n cp] g r B (bakS S N) R W → Calls Try.prog 29 #[.pointer (some ⟨r, 0, none⟩), .int .i64 N] W fun e w' => e = .returned (.int .i64 (bakE S N)) ∧ Stp w g r B w') := fun W h => (st_rback h hr.rw N).mono fun e w' hh => ⟨by rw [← hr.bakE]; exact hh.1, hh.2.stp (hr.back N)⟩
  clear h hr
  go_enter Try.func11, Try.ntmps11
  go_wp2_with fail
  go_region_with (first
    | (go_at_call 28; refine (HE.out _ HS.out.drew).mono ?_; rintro e w1 ⟨rfl, hs1⟩; have HS1 : Hid (ST w w.heap.size #[.int .i64 4, .int .i64 N, .slice ad n cp] g r B (bakS S N) R w1) := hs1; have c1 : w1.cell? ⟨w.heap.size, 1, none⟩ = some (.int .i64 N) := hs1.cell 1; clear hs1)
    | (go_at_call 29; refine (HR.out _ HS1.out).mono ?_; rintro e w2 ⟨rfl, hs2⟩; have HS2 : Hid (Stp w g r B w2) := hs2; clear hs2))
  all_goals
    go_wp2
    first | exact HPP.out _ HS2.out | (go_ret2; exact HPP.out _ HS2.out) | (go_ret; exact HPP.out _ HS2.out)
end Go.Proofs.Ytpkbigjijihljaa
namespace Go.Proofs.Ytpkbigjijihljaa
open Go.ChangeShapes Go.WideShapes Go.ChangeAt Go.RowKit
open Go.Pr
set_option maxHeartbeats 4000000 in
theorem step3 {w : World} {g r B : Nat} {O1 O2 : Nat → Prop} {S : ES} {R : RS} {p : Nat → Value} {pA pT : Value} {q : Nat → Value} (h : TWO w g r B O1 O2 S R p pA pT q) (hr : REL S R) (N : Int) (ad : Option Addr) (n cp : Nat) :
    Calls Try.prog 11 #[.pointer (some ⟨g, 0, none⟩), .pointer (some ⟨r, 0, none⟩), .agg #[.int .i64 3, .int .i64 N, .slice ad n cp]] w fun e w' => e = .returned (.bool true) ∧ Stp w g r B w' := by
  generalize hPP : (fun (e : Ending) (w' : World) => e = .returned (.bool true) ∧ Stp w g r B w') = PP
  have HPP : Hid (∀ w', Stp w g r B w' → PP (.returned (.bool true)) w') := fun w' h => by rw [← hPP]; exact ⟨rfl, h⟩
  clear hPP
  have HS : Hid (ST w w.heap.size #[.int .i64 3, .int .i64 N, .slice ad n cp] g r B S R (w.alloc (.cells #[.int .i64 3, .int .i64 N, .slice ad n cp] 32))) := ST.start h
  have HE : Hid (∀ W, ST w w.heap.size #[.int .i64 3, .int .i64 N, .slice ad n cp] g r B S R W → Calls Try.prog 18 #[.pointer (some ⟨g, 0, none⟩)] W fun e w' => ∃ b T, e = .returned (.bool b) ∧ (Runs S T ∧ (b = true → T.clash = none ∧ T.step = none) ∧ (b = false → T.clash ≠ none)) ∧ ST w w.heap.size #[.int .i64 3, .int .i64 N, .slice ad n cp] g r B T R w') := fun W h => st_prop h hr.full
  have HR : Hid (∀ W (b : Bool) (T : ES), (Runs S T ∧ (b = true → T.clash = none ∧ T.step = none) ∧ (b = false → T.clash ≠ none)) → ST w w.heap.size #[.int .i64 3, .int .i64 N, .slice ad n cp] g r B T R W → Calls Try.prog 27 #[.pointer (some ⟨r, 0, none⟩)] W fun e w' => e = .returned (.bool b) ∧ Stp w g r B w') := fun W b T hT h => (st_rprop h hr hT).mono fun e w' hh => by
    obtain ⟨he, R', hr', hs'⟩ := hh
    exact ⟨he, hs'.stp hr'⟩
  clear h hr
  go_enter Try.func11, Try.ntmps11
  go_wp2_with fail
  refine (HE.out _ HS.out).mono ?_
  rintro e w1 ⟨b, T, rfl, hT, hs1⟩
  have HT : Hid (Runs S T ∧ (b = true → T.clash = none ∧ T.step = none) ∧ (b = false → T.clash ≠ none)) := hT
  have HS1 : Hid (ST w w.heap.size #[.int .i64 3, .int .i64 N, .slice ad n cp] g r B T R w1) := hs1
  clear hs1 hT
  go_wp2_with fail
  refine (HR.out _ b T HT.out HS1.out).mono ?_
  rintro e w2 ⟨rfl, hs2⟩
  have HS2 : Hid (Stp w g r B w2) := hs2
  clear hs2
  clear HT HS1 HR HE HS
  cases b
  all_goals
    go_wp2
    first | exact HPP.out _ HS2.out | (go_ret2; exact HPP.out _ HS2.out) | (go_ret; exact HPP.out _ HS2.out)
end Go.Proofs.Ytpkbigjijihljaa
namespace Go.Proofs.Ytpkbigjijihljaa
open Go.ChangeShapes Go.WideShapes Go.ChangeAt Go.RowKit
open Go.Pr
set_option maxHeartbeats 4000000 in
theorem step0 {w : World} {g r B : Nat} {O1 O2 : Nat → Prop} {S : ES} {R : RS} {p : Nat → Value} {pA pT : Value} {q : Nat → Value} (h : TWO w g r B O1 O2 S R p pA pT q) (hr : REL S R) (K N : Int) (ad : Option Addr) (n cp : Nat) (hK : K < 1 ∨ 6 < K) :
    Calls Try.prog 11 #[.pointer (some ⟨g, 0, none⟩), .pointer (some ⟨r, 0, none⟩), .agg #[.int .i64 K, .int .i64 N, .slice ad n cp]] w fun e w' => e = .returned (.bool true) ∧ Stp w g r B w' := by
  generalize hPP : (fun (e : Ending) (w' : World) => e = .returned (.bool true) ∧ Stp w g r B w') = PP
  have HPP : Hid (∀ w', Stp w g r B w' → PP (.returned (.bool true)) w') := fun w' h => by rw [← hPP]; exact ⟨rfl, h⟩
  clear hPP
  have HS : Hid (Stp w g r B (w.alloc (.cells #[.int .i64 K, .int .i64 N, .slice ad n cp] 32))) := (ST.start h).stp hr
  have k1 : ¬ K = 1 := by omega
  have k2 : ¬ K = 2 := by omega
  have k3 : ¬ K = 3 := by omega
  have k4 : ¬ K = 4 := by omega
  have k5 : ¬ K = 5 := by omega
  have k6 : ¬ K = 6 := by omega
  clear h hr hK
  go_enter Try.func11, Try.ntmps11
  go_wp2
  first | exact HPP.out _ HS.out | (go_ret2; exact HPP.out _ HS.out) | (go_ret; exact HPP.out _ HS.out)
end Go.Proofs.Ytpkbigjijihljaa
namespace Go.Proofs.Ytpkbigjijihljaa
open Go.ChangeShapes Go.WideShapes Go.ChangeAt Go.RowKit
open Go.Pr
theorem st_level {w0 W : World} {b0 g r B : Nat} {oc : Array Value} {S : ES} {R : RS} (h : ST w0 b0 oc g r B S R W) (hF : FULL S) :
    (∀ m, Calls Try.prog 34 #[.pointer (some ⟨g, 0, none⟩)] (W.drewN m) fun e w' => e = .returned (.int .i64 (S.level : Int)) ∧ w' = W.drewN m) ∧ (∀ m, Calls Try.prog 35 #[.pointer (some ⟨g, 0, none⟩)] (W.drewN m) fun e w' => e = .returned (.int .i64 (S.n : Int)) ∧ w' = W.drewN m) ∧ (∀ m, Calls Try.prog 36 #[.pointer (some ⟨g, 0, none⟩)] (W.drewN m) fun e w' => e = .returned (.int .i64 (S.cls.length : Int)) ∧ w' = W.drewN m) ∧ (∃ aA cA, W.cell? ⟨r, 3, none⟩ = some (.slice aA R.all.length cA)) ∧ W.cell? ⟨r, 1, none⟩ = some (.int .i64 (R.level : Int)) ∧ W.cell? ⟨r, 0, none⟩ = some (.int .i64 (R.n : Int)) := by
  obtain ⟨O1, O2, p, pA, pT, q, h1, h2, h3, h4, h5, h6⟩ := h
  refine ⟨fun m => level_mem h1.m.drewN, fun m => vars_mem h1.m.drewN hF.inv.wf, fun m => clauses_mem h1.m.drewN, ?_, h1.rm.cell 1, h1.rm.cell 0⟩
  obtain ⟨aA, cA, eA, _⟩ := h1.rm.formA
  exact ⟨aA, cA, (h1.rm.cell 3).trans (congrArg some eA)⟩
set_option maxHeartbeats 4000000 in
theorem step6 {w : World} {g r B : Nat} {O1 O2 : Nat → Prop} {S : ES} {R : RS} {p : Nat → Value} {pA pT : Value} {q : Nat → Value} (h : TWO w g r B O1 O2 S R p pA pT q) (hr : REL S R) (N : Int) (ad : Option Addr) (n cp : Nat) :
    Calls Try.prog 11 #[.pointer (some ⟨g, 0, none⟩), .pointer (some ⟨r, 0, none⟩), .agg #[.int .i64 6, .int .i64 N, .slice ad n cp]] w fun e w' => e = .returned (.bool true) ∧ Stp w g r B w' := by
  generalize hPP : (fun (e : Ending) (w' : World) => e = .returned (.bool true) ∧ Stp w g r B w') = PP
  have HPP : Hid (∀ w', Stp w g r B w' → PP (.returned (.bool true)) w') := fun w' h => by rw [← hPP]; exact ⟨rfl, h⟩
  clear hPP
  have HS : Hid (∀ m, Stp w g r B ((w.alloc (.cells #[.int .i64 6, .int .i64 N, .slice ad n cp] 32)).drewN m)) := fun m => (ST.start h).drewN.stp hr
  obtain ⟨l1, l2, l3, ⟨aA, cA, c3⟩, c1, c0⟩ := st_level (ST.start (oc := #[.int .i64 6, .int .i64 N, .slice ad n cp]) h) hr.full
  rw [hr.all, allI_len] at c3
  rw [hr.level] at c1
  rw [hr.n] at c0
  have HL : Hid (∀ m, Calls Try.prog 34 #[.pointer (some ⟨g, 0, none⟩)] ((w.alloc (.cells #[.int .i64 6, .int .i64 N, .slice ad n cp] 32)).drewN m) fun e w' => e = .returned (.int .i64 (S.marks.length : Int)) ∧ w' = (w.alloc (.cells #[.int .i64 6, .int .i64 N, .slice ad n cp] 32)).drewN m) := l1
  have HV : Hid (∀ m, Calls Try.prog 35 #[.pointer (some ⟨g, 0, none⟩)] ((w.alloc (.cells #[.int .i64 6, .int .i64 N, .slice ad n cp] 32)).drewN m) fun e w' => e = .returned (.int .i64 (S.n : Int)) ∧ w' = (w.alloc (.cells #[.int .i64 6, .int .i64 N, .slice ad n cp] 32)).drewN m) := l2
  have HC : Hid (∀ m, Calls Try.prog 36 #[.pointer (some ⟨g, 0, none⟩)] ((w.alloc (.cells #[.int .i64 6, .int .i64 N, .slice ad n cp] 32)).drewN m) fun e w' => e = .returned (.int .i64 (S.cls.length : Int)) ∧ w' = (w.alloc (.cells #[.int .i64 6, .int .i64 N, .slice ad n cp] 32)).drewN m) := l3
  clear h hr l1 l2 l3
  go_enter Try.func11, Try.ntmps11
  go_wp2
  generalize w.alloc (.cells #[.int .i64 6, .int .i64 N, .slice ad n cp] 32) = W at *
  generalize S.marks.length = x1 at *
  generalize S.n = x2 at *
  generalize S.cls.length = x3 at *
  go_quiet (first | (go_at_call 34; exact Calls.quiet_of_same (HL.out _)) | (go_at_call 35; exact Calls.quiet_of_same (HV.out _)) | (go_at_call 36; exact Calls.quiet_of_same (HC.out _)))
  go_wp2
  first | exact HPP.out _ (HS.out _) | (go_ret2; exact HPP.out _ (HS.out _)) | (go_ret; exact HPP.out _ (HS.out _))
end Go.Proofs.Ytpkbigjijihljaa
namespace Go.Proofs.Ytpkbigjijihljaa
open Go.ChangeShapes Go.WideShapes Go.ChangeAt Go.RowKit
open Go.Pr
theorem st_looks {w0 W : World} {b0 g r B : Nat} {oc : Array Value} {S : ES} {R : RS} (h : ST w0 b0 oc g r B S R W) (hr : REL S R) (N : Int) (hN : N ≤ 9223372036854775807) :
    (R.bad = false → (∀ m, Calls Try.prog 30 #[.pointer (some ⟨g, 0, none⟩), .int .i64 N] (W.drewN m) fun e w' => e = .returned (.int .i64 (valE S N)) ∧ ∃ m', w' = (W.drewN m).drewN m') ∧ (∀ m, Calls Try.prog 32 #[.pointer (some ⟨g, 0, none⟩), .int .i64 N] (W.drewN m) fun e w' => e = .returned (.int .i64 (levE S N)) ∧ ∃ m', w' = (W.drewN m).drewN m') ∧ (∀ m, Calls Try.prog 31 #[.pointer (some ⟨r, 0, none⟩), .int .i64 N] (W.drewN m) fun e w' => e = .returned (.int .i64 (valE S N)) ∧ w' = W.drewN m) ∧ (∀ m, Calls Try.prog 33 #[.pointer (some ⟨r, 0, none⟩), .int .i64 N] (W.drewN m) fun e w' => e = .returned (.int .i64 (levE S N)) ∧ w' = W.drewN m)) ∧ W.cell? ⟨r, 5, none⟩ = some (.bool R.bad) := by
  obtain ⟨O1, O2, p, pA, pT, q, h1, h2, h3, h4, h5, h6⟩ := h
  have hl : R.tr.length ≤ 1000000000000000000 := by have := (GT.refl hr.rw).len; have := hr.rw.n; omega
  refine ⟨fun hb => ⟨fun m => value_mem h1.m.drewN hr.full.inv.wf N, fun m => levelOf_mem h1.m.drewN hr.full N, fun m => ?_, fun m => ?_⟩, h1.rm.cell 5⟩
  · obtain ⟨ad, c, eT, _, ht⟩ := (h1.rm.drewN (m := m)).formT
    rw [← hr.value hb N]
    exact rvalue_any r R.n ad R.tr c N (W.drewN m) ((h1.rm.drewN (m := m)).cell 0) (((h1.rm.drewN (m := m)).cell 4).trans (congrArg some eT)) ht hl hr.rw.n
  · obtain ⟨ad, c, eT, _, ht⟩ := (h1.rm.drewN (m := m)).formT
    rw [← hr.levelOf hb N]
    exact rlevelOf_any r ad R.tr c N (W.drewN m) (((h1.rm.drewN (m := m)).cell 4).trans (congrArg some eT)) ht hl hN
set_option maxHeartbeats 4000000 in
theorem step5 {w : World} {g r B : Nat} {O1 O2 : Nat → Prop} {S : ES} {R : RS} {p : Nat → Value} {pA pT : Value} {q : Nat → Value} (h : TWO w g r B O1 O2 S R p pA pT q) (hr : REL S R) (N : Int) (hN : N ≤ 9223372036854775807) (ad : Option Addr) (n cp : Nat) :
    Calls Try.prog 11 #[.pointer (some ⟨g, 0, none⟩), .pointer (some ⟨r, 0, none⟩), .agg #[.int .i64 5, .int .i64 N, .slice ad n cp]] w fun e w' => e = .returned (.bool true) ∧ Stp w g r B w' := by
  generalize hPP : (fun (e : Ending) (w' : World) => e = .returned (.bool true) ∧ Stp w g r B w') = PP
  have HPP : Hid (∀ w', Stp w g r B w' → PP (.returned (.bool true)) w') := fun w' h => by rw [← hPP]; exact ⟨rfl, h⟩
  clear hPP
  have HS : Hid (∀ m, Stp w g r B ((w.alloc (.cells #[.int .i64 5, .int .i64 N, .slice ad n cp] 32)).drewN m)) := fun m => (ST.start h).drewN.stp hr
  have o1 : (w.alloc (.cells #[.int .i64 5, .int .i64 N, .slice ad n cp] 32)).cell? ⟨w.heap.size, 1, none⟩ = some (.int .i64 N) := (ST.start (oc := #[.int .i64 5, .int .i64 N, .slice ad n cp]) h).cell 1
  obtain ⟨l1, c5⟩ := st_looks (ST.start (oc := #[.int .i64 5, .int .i64 N, .slice ad n cp]) h) hr N hN
  clear h hr hN
  cases hb : R.bad with
  | true =>
    rw [hb] at c5
    clear l1 hb
    go_enter Try.func11, Try.ntmps11
    go_wp2
    generalize (w.alloc (.cells #[.int .i64 5, .int .i64 N, .slice ad n cp] 32)) = W at *
    first
    | exact HPP.out _ (HS.out 0)
    | (go_ret2; exact HPP.out _ (HS.out 0))
    | (go_quiet (fail); go_wp2; first | exact HPP.out _ (HS.out _) | (go_ret2; exact HPP.out _ (HS.out _)))
  | false =>
    rw [hb] at c5
    obtain ⟨l1, l2, l3, l4⟩ := l1 hb
    have H1 : Hid (∀ m, Calls Try.prog 30 #[.pointer (some ⟨g, 0, none⟩), .int .i64 N] ((w.alloc (.cells #[.int .i64 5, .int .i64 N, .slice ad n cp] 32)).drewN m) fun e w' => e = .returned (.int .i64 (valE S N)) ∧ ∃ m', w' = ((w.alloc (.cells #[.int .i64 5, .int .i64 N, .slice ad n cp] 32)).drewN m).drewN m') := l1
    have H2 : Hid (∀ m, Calls Try.prog 32 #[.pointer (some ⟨g, 0, none⟩), .int .i64 N] ((w.alloc (.cells #[.int .i64 5, .int .i64 N, .slice ad n cp] 32)).drewN m) fun e w' => e = .returned (.int .i64 (levE S N)) ∧ ∃ m', w' = ((w.alloc (.cells #[.int .i64 5, .int .i64 N, .slice ad n cp] 32)).drewN m).drewN m') := l2
    have H3 : Hid (∀ m, Calls Try.prog 31 #[.pointer (some ⟨r, 0, none⟩), .int .i64 N] ((w.alloc (.cells #[.int .i64 5, .int .i64 N, .slice ad n cp] 32)).drewN m) fun e w' => e = .returned (.int .i64 (valE S N)) ∧ w' = (w.alloc (.cells #[.int .i64 5, .int .i64 N, .slice ad n cp] 32)).drewN m) := l3
    have H4 : Hid (∀ m, Calls Try.prog 33 #[.pointer (some ⟨r, 0, none⟩), .int .i64 N] ((w.alloc (.cells #[.int .i64 5, .int .i64 N, .slice ad n cp] 32)).drewN m) fun e w' => e = .returned (.int .i64 (levE S N)) ∧ w' = (w.alloc (.cells #[.int .i64 5, .int .i64 N, .slice ad n cp] 32)).drewN m) := l4
    clear l1 l2 l3 l4 hb
    go_enter Try.func11, Try.ntmps11
    go_wp2
    generalize valE S N = x1 at *
    generalize levE S N = x2 at *
    generalize w.heap.size = b0 at *
    generalize (w.alloc (.cells #[.int .i64 5, .int .i64 N, .slice ad n cp] 32)) = W at *
    go_quiet (first | (go_at_call 30; exact Calls.quiet_of (H1.out _)) | (go_at_call 32; exact Calls.quiet_of (H2.out _)) | (go_at_call 31; exact Calls.quiet_of_same (H3.out _)) | (go_at_call 33; exact Calls.quiet_of_same (H4.out _)))
    go_wp2
    first | exact HPP.out _ (HS.out _) | (go_ret2; exact HPP.out _ (HS.out _)) | (go_ret; exact HPP.out _ (HS.out _))
end Go.Proofs.Ytpkbigjijihljaa
