import Derived.Test.YtnknbijbhidpnaaGreatDoorOwn
import Derived.Test.YtnknbijbhidpnaaGreatDoorOne
namespace Go.Proofs.YtnknbijbhidpnaaGreatDoor
open Go.ChangeShapes Go.WideShapes Go.ChangeAt Go.RowKit Go.Cn

set_option maxHeartbeats 4000000 in
set_option maxRecDepth 100000 in
theorem alike_any (vars : Int) (ad bd : Option Addr) (cs : List (List Int)) (c d : Nat) (w : World) (h : Cls w ad cs) (h2 : Cls w bd cs) (hl : cs.length ≤ 1000000000000000000) (hcl : ∀ j, j < cs.length → (cs.getD j []).length ≤ 1000000000000000000) :
    Calls Tryz.prog 9 #[.agg #[.int .i64 vars, .slice ad cs.length c], .agg #[.int .i64 vars, .slice bd cs.length d]] w fun e w' => e = .returned (.bool true) ∧ Below w.heap.size w w' := by
  have HB0 : Aside (∀ o o2, Below w.heap.size w ((w.alloc o).alloc o2)) := fun o o2 => ((Below.refl _ _).alloc (Nat.le_refl _) o).alloc (by rw [sz1]; omega) o2
  have HC : Aside (∀ o o2, Cls ((w.alloc o).alloc o2) ad cs) := fun o o2 => h.below (HB0.out o o2)
  have HD : Aside (∀ o o2, Cls ((w.alloc o).alloc o2) bd cs) := fun o o2 => h2.below (HB0.out o o2)
  have HM : Aside (∀ j, j < cs.length → (cs.getD j []).length ≤ 1000000000000000000) := hcl
  clear h h2 hcl
  generalize hn : cs.length = n at *
  have HLn : Aside (cs.length = n) := hn
  clear hn
  go_enter Tryz.func9, Tryz.ntmps9
  go_wp2
  have x1 : ((w.alloc (.cells #[.int .i64 vars, .slice ad n c] 24)).alloc (.cells #[.int .i64 vars, .slice bd n d] 24)).cell? ⟨w.heap.size, 1, none⟩ = some (.slice ad n c) := blk_cell (heap_alloc2_old _ _ _) 1
  have x2 : ((w.alloc (.cells #[.int .i64 vars, .slice ad n c] 24)).alloc (.cells #[.int .i64 vars, .slice bd n d] 24)).cell? ⟨w.heap.size + 1, 1, none⟩ = some (.slice bd n d) := blk_cell (heap_alloc2_new _ _ _) 1
  have HB1 : Aside (Below w.heap.size w ((w.alloc (.cells #[.int .i64 vars, .slice ad n c] 24)).alloc (.cells #[.int .i64 vars, .slice bd n d] 24))) := HB0.out _ _
  have HC1 := HC.out (.cells #[.int .i64 vars, .slice ad n c] 24) (.cells #[.int .i64 vars, .slice bd n d] 24)
  have HD1 := HD.out (.cells #[.int .i64 vars, .slice ad n c] 24) (.cells #[.int .i64 vars, .slice bd n d] 24)
  clear HC HD HB0
  generalize (w.alloc (.cells #[.int .i64 vars, .slice ad n c] 24)).alloc (.cells #[.int .i64 vars, .slice bd n d] 24) = W1 at *
  have HC : Aside (Cls W1 ad cs) := HC1
  have HD : Aside (Cls W1 bd cs) := HD1
  clear HC1 HD1
  go_loopg [5] n (fun gk s5 wr => ∃ k d : Nat, s5 = .int .i64 k ∧ k + gk = n ∧ wr = W1.drewN d)
  case atStart => exact ⟨0, 0, rfl, by omega, rfl⟩
  case round =>
    obtain ⟨k, dd, rfl, hk, rfl⟩ := hrel
    by_cases hlt : k < n
    · obtain ⟨b, off, rfl, hb, hc⟩ := HC.out (by rw [HLn.out]; omega)
      obtain ⟨aj, cj, ck, hij⟩ := hc k (by rw [HLn.out]; exact hlt)
      obtain ⟨b2, off2, rfl, hb2, hc2⟩ := HD.out (by rw [HLn.out]; omega)
      obtain ⟨aj2, cj2, ck2, hij2⟩ := hc2 k (by rw [HLn.out]; exact hlt)
      have HK : Hid (∀ m, Calls Tryz.prog 13 #[.slice aj (cs.getD k []).length cj, .slice aj2 (cs.getD k []).length cj2] ((W1.drewN dd).drewN m) fun e w' => e = .returned (.bool true) ∧ ∃ m', w' = ((W1.drewN dd).drewN m).drewN m') := by
        intro m
        have := lsame_any aj aj2 (cs.getD k []) (cs.getD k []) cj cj2 ((W1.drewN dd).drewN m) hij hij2 (HM.out k hlt)
        rw [decide_eq_true rfl] at this
        exact this
      have q1 : (k : Int) < (n : Int) := by omega
      have HW2 : Aside (∀ m, ∃ z, (W1.drewN dd).drewN m = W1.drewN z) := fun m => ⟨dd + m, by rw [World.drewN_drewN]⟩
      have y1 : (W1.drewN dd).cell? ⟨w.heap.size, 1, none⟩ = some (.slice (some ⟨b, off, none⟩) n c) := x1
      have y2 : (W1.drewN dd).cell? ⟨w.heap.size + 1, 1, none⟩ = some (.slice (some ⟨b2, off2, none⟩) n d) := x2
      have y3 : (W1.drewN dd).cell? ⟨b, off + k, none⟩ = some (.slice aj (cs.getD k []).length cj) := ck
      have y4 : (W1.drewN dd).cell? ⟨b2, off2 + k, none⟩ = some (.slice aj2 (cs.getD k []).length cj2) := ck2
      clear hc hij ck hc2 hij2 ck2
      go_wp2
      generalize W1.drewN dd = WQ at y1 y2 y3 y4 HK HW2 ⊢
      generalize cs.getD k [] = C at *
      go_quiet ((go_at_call 13; exact Calls.quiet_of (HK.out _)))
      go_wp2
      obtain ⟨z, hz⟩ := HW2.out nq
      go_roundg (gk - 1)
      case measure => omega
      case rel => exact ⟨k + 1, z, by simp, by omega, hz⟩
    · go_wp2
      go_ret
      exact ⟨rfl, ⟨HB1.out.os, HB1.out.tape, HB1.out.output, HB1.out.size, HB1.out.block⟩⟩
end Go.Proofs.YtnknbijbhidpnaaGreatDoor
