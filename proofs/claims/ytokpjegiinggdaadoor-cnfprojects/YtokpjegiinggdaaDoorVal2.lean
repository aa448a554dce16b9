import Derived.Test.YtokpjegiinggdaaDoorVals
namespace Go.Proofs.YtokpjegiinggdaaDoor
open Go.ChangeShapes Go.WideShapes Go.ChangeAt Go.RowKit Go.Cn

theorem i8_three {x : Int} (h : x = -1 ∨ x = 0 ∨ x = 1) : -1 ≤ x ∧ x ≤ 1 := by omega
set_option maxHeartbeats 2000000 in
set_option maxRecDepth 100000 in
theorem value_any (ad bd : Option Addr) (xs ms : List Int) (c d : Nat) (w : World) (h : Ints w ad xs) (h2 : I8 w bd ms) (hl : xs.length ≤ 1000000000000000000) (hl2 : ms.length ≤ 1000000000000000000) :
    Calls Tryd.prog 35 #[.slice ad xs.length c, .slice bd ms.length d] w fun e w' => e = .returned (.int .i8 (val ms xs)) ∧ w' = w := by
  have HI : Aside (Ints w ad xs) := h
  have HO : Hid (∀ l m, Calls Tryd.prog 61 #[.slice bd ms.length d, .int .i64 l] (w.drewN m) fun e w' => e = .returned (.int .i8 (ofB ms l)) ∧ w' = w.drewN m) := fun l m => of_any bd ms d l (w.drewN m) (h2.drewN m) hl2
  have HT : Aside (∀ l, ofB ms l = -1 ∨ ofB ms l = 0 ∨ ofB ms l = 1) := ofB_three ms
  have HE : Aside (∀ k a, xs.length ≤ k → vGo ms (xs.drop k) a = a) := fun k a => vGo_end ms xs k a
  have HS : Aside (∀ k a, k < xs.length → vGo ms (xs.drop k) a = vGo ms (xs.drop (k + 1)) (if a < ofB ms (xs.getD k 0) then ofB ms (xs.getD k 0) else a)) := fun k a => vGo_step ms xs k a
  have HR : Aside (vGo ms (xs.drop 0) (-1) = val ms xs) := rfl
  generalize val ms xs = R at *
  generalize hV : vGo ms = V at *
  clear hV
  generalize hO : ofB ms = O at *
  clear hO h h2
  generalize ms.length = q at *
  generalize hn : xs.length = n at *
  have HL : Aside (xs.length = n) := hn
  clear hn
  go_enter Tryd.func35, Tryd.ntmps35
  go_wp2
  go_loopg [5, 10] n (fun gk s5 s10 wr => ∃ (k : Nat) (a : Int), s5 = .int .i8 a ∧ s10 = .int .i64 k ∧ k + gk = n ∧ (a = -1 ∨ a = 0 ∨ a = 1) ∧ wr = w ∧ Aside (V (xs.drop k) a = R))
  case atStart => exact ⟨0, -1, rfl, rfl, by omega, Or.inl rfl, rfl, HR⟩
  case round =>
    obtain ⟨k, a, rfl, rfl, hk, ha, rfl, HG⟩ := hrel
    by_cases hlt : k < n
    · obtain ⟨b, off, rfl, hb, hc⟩ := HI.out (by rw [HL.out]; omega)
      have ck := hc k (by rw [HL.out]; omega)
      have HG2 : Aside (V (xs.drop (k + 1)) (if a < O (xs.getD k 0) then O (xs.getD k 0) else a) = R) := (HS.out k a hlt).symm.trans HG.out
      clear hc HG
      generalize xs.getD k 0 = y at *
      have HC : Hid (Calls Tryd.prog 61 #[.slice bd q d, .int .i64 y] wr fun e w' => e = .returned (.int .i8 (O y)) ∧ w' = wr) := HO.out y 0
      have ho := HT.out y
      generalize O y = o at *
      have q1 : (k : Int) < (n : Int) := by omega
      obtain ⟨z, hz⟩ : ∃ z, (if a < o then o else a) = z := ⟨_, rfl⟩
      rw [hz] at HG2
      go_wp2_with fail
      refine HC.out.mono ?_
      rintro e w' ⟨rfl, hw⟩
      obtain rfl := hw.symm
      rcases ha with rfl | rfl | rfl <;> rcases ho with rfl | rfl | rfl <;> simp at hz <;> subst hz <;> (go_wp2; go_roundg (gk - 1); (case measure => omega); (case rel => exact ⟨k + 1, _, rfl, by first | rfl | simp, by omega, by omega, rfl, HG2⟩))
    · obtain rfl : k = n := by omega
      have HE2 : Aside (a = R) := (HE.out k a (Nat.le_refl _)).symm.trans HG.out
      go_wp2
      go_ret
      exact ⟨ret_of HE2.out.symm, rfl⟩
end Go.Proofs.YtokpjegiinggdaaDoor
