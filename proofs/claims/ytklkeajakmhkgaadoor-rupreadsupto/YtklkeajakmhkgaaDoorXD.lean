import Derived.Test.YtklkeajakmhkgaaDoorXC
namespace Go.Proofs.YtklkeajakmhkgaaDoor
open Go.ChangeShapes Go.WideShapes Go.ChangeAt Go.RowKit Go.Lib

set_option maxHeartbeats 1000000 in
theorem equal_any (ad bd : Option Addr) (xs : List Int) (c d : Nat) (w : World) (h : Ints w ad xs) (h2 : Ints w bd xs) (hl : xs.length ≤ 1000000000000000000) :
    Calls Tryd.prog 11 #[.slice ad xs.length c, .slice bd xs.length d] w fun e w' => e = .returned (.bool true) ∧ ∃ m, w' = w.drewN m := by
  have HI : Aside (Ints w ad xs) := h
  have HJ : Aside (Ints w bd xs) := h2
  clear h h2
  generalize hn : xs.length = n at *
  have HL : Aside (xs.length = n) := hn
  clear hn
  go_enter Tryd.func11, Tryd.ntmps11
  go_wp2
  go_loopg [5] n (fun gk i wr => ∃ k m : Nat, i = .int .i64 k ∧ k + gk = n ∧ wr = w.drewN m)
  case atStart => exact ⟨0, 0, rfl, by omega, rfl⟩
  case round =>
    obtain ⟨k, m, rfl, hk, rfl⟩ := hrel
    by_cases hlt : k < n
    · obtain ⟨b, off, rfl, hb, hc⟩ := HI.out (by rw [HL.out]; omega)
      have ck := hc k (by rw [HL.out]; omega)
      obtain ⟨b2, off2, rfl, hb2, hc2⟩ := HJ.out (by rw [HL.out]; omega)
      have ck2 := hc2 k (by rw [HL.out]; omega)
      obtain ⟨y, hy⟩ : ∃ y, xs.getD k 0 = y := ⟨_, rfl⟩
      rw [hy] at ck ck2
      clear hy hc hc2
      go_wp2
      go_region
      go_wp2
      go_roundg (gk - 1)
      case measure => omega
      case rel => exact ⟨k + 1, _, by simp, by omega, rfl⟩
    · go_wp2
      go_ret
      exact ⟨rfl, _, rfl⟩
theorem Ints.dn {w : World} {ad : Option Addr} {xs : List Int} (h : Ints w ad xs) (m : Nat) : Ints (w.drewN m) ad xs := h
set_option maxHeartbeats 8000000 in
set_option maxRecDepth 20000 in
theorem alike_any (ad bd : Option Addr) (ps : List (Bool × List Int)) (c d : Nat) (w : World) (h : Stp w ad ps) (h2 : Stp w bd ps) (hl : ps.length ≤ 1048576) (hcl : ∀ s ∈ ps, s.2.length ≤ 1048576) :
    Calls Tryd.prog 6 #[.slice ad ps.length c, .slice bd ps.length d] w fun e w' => e = .returned (.bool true) ∧ ∃ m, w' = w.drewN m := by
  have HC : Aside (Stp w ad ps ∧ Stp w bd ps) := ⟨h, h2⟩
  have HM : Aside (∀ s ∈ ps, s.2.length ≤ 1048576) := hcl
  clear h h2 hcl
  generalize hn : ps.length = n at *
  have HLn : Aside (ps.length = n) := hn
  clear hn
  go_enter Tryd.func6, Tryd.ntmps6
  go_wp2_with fail
  go_loopg [5] n (fun gk s5 wr => ∃ k e : Nat, s5 = .int .i64 k ∧ k + gk = n ∧ wr = w.drewN e)
  case atStart => exact ⟨0, 0, rfl, by omega, rfl⟩
  case round =>
    obtain ⟨k, dd, rfl, hk, rfl⟩ := hrel
    by_cases hlt : k < n
    · obtain ⟨b, off, rfl, hb, hc⟩ := HC.out.1 (by rw [HLn.out]; omega)
      obtain ⟨aj, cj, c0, c1, hij⟩ := hc k (by rw [HLn.out]; exact hlt)
      obtain ⟨b2, off2, rfl, hb2, hc2⟩ := HC.out.2 (by rw [HLn.out]; omega)
      obtain ⟨aj2, cj2, e0, e1, hij2⟩ := hc2 k (by rw [HLn.out]; exact hlt)
      have hm := HM.out _ (show ps.getD k (false, []) ∈ ps by rw [getD_of _ _ _ (by rw [HLn.out]; exact hlt)]; exact List.getElem_mem _)
      obtain ⟨⟨dr, C⟩, hs⟩ : ∃ s, ps.getD k (false, []) = s := ⟨_, rfl⟩
      rw [hs] at c0 c1 hij e0 e1 hij2 hm
      clear hs
      have hm' : C.length ≤ 1048576 := hm
      have HK : Hid (∀ m, Calls Tryd.prog 11 #[.slice aj C.length cj, .slice aj2 C.length cj2] ((w.drewN dd).drewN m) fun e w' => e = .returned (.bool true) ∧ ∃ m', w' = ((w.drewN dd).drewN m).drewN m') :=
        fun m => equal_any aj aj2 C cj cj2 _ ((hij.dn dd).dn m) ((hij2.dn dd).dn m) (by omega)
      have q1 : (k : Int) < (n : Int) := by omega
      have HW2 : Aside (∀ m, ∃ z, (w.drewN dd).drewN m = w.drewN z) := fun m => ⟨dd + m, by rw [World.drewN_drewN]⟩
      have y1 : (w.drewN dd).cell? ⟨b, off + k * 2, none⟩ = some (.bool dr) := c0
      have y2 : (w.drewN dd).cell? ⟨b, off + k * 2 + 1, none⟩ = some (.slice aj C.length cj) := c1
      have y3 : (w.drewN dd).cell? ⟨b2, off2 + k * 2, none⟩ = some (.bool dr) := e0
      have y4 : (w.drewN dd).cell? ⟨b2, off2 + k * 2 + 1, none⟩ = some (.slice aj2 C.length cj2) := e1
      have hbb : (dr != dr) = false := by simp
      clear hc hij hc2 hij2 c0 c1 e0 e1 hm HC
      go_wp2
      generalize w.drewN dd = WQ at y1 y2 y3 y4 HK HW2 ⊢
      generalize C.length = cl at *
      first | (go_quiet ((go_at_call 11; exact Calls.quiet_of (HK.out _)))) | fail
      go_wp2
      obtain ⟨z, hz⟩ := HW2.out nq
      go_roundg (gk - 1)
      case measure => omega
      case rel => exact ⟨k + 1, z, by simp, by omega, hz⟩
    · go_wp2
      go_ret
      exact ⟨rfl, dd, rfl⟩
end Go.Proofs.YtklkeajakmhkgaaDoor
