import Derived.Test.YtkomadlmonhlhaaAgZf
namespace Go.Proofs.Ytkomadlmonhlhaa
open Go.ChangeShapes Go.WideShapes Go.ChangeAt Go.RowKit Go.Lib Go.Ag Go.WideMaps Go.Maps Go.ChangeMaps Go.Cn

def Nts (w : World) (ad : Option Addr) (ls : List Nat) : Prop := 0 < ls.length → ∃ b off, ad = some ⟨b, off, none⟩ ∧ b < w.heap.size ∧ ∀ j, j < ls.length → w.cell? ⟨b, off + j, none⟩ = some (.int .i64 ((ls.getD j 0 : Nat) : Int))
theorem nts_of {w : World} {B n : Nat} {ad : Option Addr} {cp : Nat} {ls : List Nat} (h : w.ownsRow B 3 1 (.slice ad n cp) n (natV ls)) : Nts w ad ls := fun h0 => by
  have hn : ls.length = n := by have := h.1; rw [natV_len] at this; omega
  obtain ⟨a2, c2, e, _, h3⟩ := row_form h
  cases e
  obtain ⟨g, rfl⟩ := h3 (by omega)
  refine ⟨g, 0, rfl, (h.lt g rfl).2, fun j hj => ?_⟩
  rw [Nat.zero_add, h.cellAt j (by omega)]
  unfold natV
  rw [List.getElem?_map, List.getD_eq_getElem?_getD, List.getElem?_eq_getElem hj]
  rfl
theorem bls_of {w : World} {B n : Nat} {ad : Option Addr} {cp : Nat} {ls : List Bool} (h : w.ownsRow B 4 1 (.slice ad n cp) n (blV ls)) : Bls w ad ls := fun h0 => by
  have hn : ls.length = n := by have := h.1; unfold blV at this; rw [List.length_map] at this; omega
  obtain ⟨a2, c2, e, _, h3⟩ := row_form h
  cases e
  obtain ⟨g, rfl⟩ := h3 (by omega)
  refine ⟨g, 0, rfl, (h.lt g rfl).2, fun j hj => ?_⟩
  rw [Nat.zero_add, h.cellAt j (by omega)]
  unfold blV
  rw [List.getElem?_map, List.getD_eq_getElem?_getD, List.getElem?_eq_getElem hj]
  rfl
theorem Nts.below {w w' : World} {ad : Option Addr} {bs : List Nat} (h : Nts w ad bs) (hb : Below w.heap.size w w') : Nts w' ad bs := fun h0 => by
  obtain ⟨b, off, e, hlt, hc⟩ := h h0
  exact ⟨b, off, e, Nat.lt_of_lt_of_le hlt hb.size, fun j hj => (World.cell?_of_block (a := ⟨b, off + j, none⟩) (hb.block b hlt)).trans (hc j hj)⟩
set_option maxHeartbeats 2000000 in
theorem sameInts_eq (w : World) (ad1 ad2 : Option Addr) (c1 c2 : Nat) (ls : List Nat) (h1 : Nts w ad1 ls) (h2 : Nts w ad2 ls) (hn : ls.length ≤ 1000000000000) :
    Calls Try.prog 13 #[.slice ad1 ls.length c1, .slice ad2 ls.length c2] w fun e w' => e = .returned (.bool true) ∧ ∃ d, w' = w.drewN d := by
  have H1 : Aside (Nts w ad1 ls) := h1
  have H2 : Aside (Nts w ad2 ls) := h2
  clear h1 h2
  generalize hnn : ls.length = n at *
  have HL : Aside (ls.length = n) := hnn
  clear hnn
  go_enter Try.func13, Try.ntmps13
  go_wp2_with fail
  go_loopg [5] n (fun gk v5 wr => ∃ k d : Nat, v5 = .int .i64 (k : Int) ∧ k + gk = n ∧ wr = w.drewN d)
  case atStart => exact ⟨0, 0, rfl, by omega, rfl⟩
  case round =>
    obtain ⟨k, d, rfl, hk, rfl⟩ := hrel
    by_cases hlt : k < n
    · obtain ⟨b1, o1, rfl, hb1, hc1⟩ := H1.out (by rw [HL.out]; omega)
      obtain ⟨b2, o2, rfl, hb2, hc2⟩ := H2.out (by rw [HL.out]; omega)
      have y1 : (w.drewN d).cell? ⟨b1, o1 + k, none⟩ = some (.int .i64 ((ls.getD k 0 : Nat) : Int)) := hc1 k (by rw [HL.out]; exact hlt)
      have y2 : (w.drewN d).cell? ⟨b2, o2 + k, none⟩ = some (.int .i64 ((ls.getD k 0 : Nat) : Int)) := hc2 k (by rw [HL.out]; exact hlt)
      have q1 : (k : Int) < (n : Int) := by omega
      have HDN : Aside (∀ q, ∃ z, (w.drewN d).drewN q = w.drewN z) := fun q => ⟨d + q, by rw [World.drewN_drewN]⟩
      generalize ls.getD k 0 = x at *
      clear hc1 hc2
      generalize w.drewN d = WQ at *
      go_wp2_with fail
      go_quiet (fail)
      go_wp2_with fail
      go_roundg (n - (k + 1))
      case measure => omega
      case rel =>
        obtain ⟨z, hz⟩ := HDN.out _
        exact ⟨k + 1, z, by simp, by omega, hz⟩
    · obtain rfl : k = n := by omega
      have q1 : ¬ (k : Int) < (k : Int) := by omega
      go_wp2_with fail
      first | exact ⟨rfl, d, rfl⟩ | (go_ret; exact ⟨rfl, d, rfl⟩)
set_option maxHeartbeats 2000000 in
theorem sameBools_eq (w : World) (ad1 ad2 : Option Addr) (c1 c2 : Nat) (ls : List Bool) (h1 : Bls w ad1 ls) (h2 : Bls w ad2 ls) (hn : ls.length ≤ 1000000000000) :
    Calls Try.prog 19 #[.slice ad1 ls.length c1, .slice ad2 ls.length c2] w fun e w' => e = .returned (.bool true) ∧ ∃ d, w' = w.drewN d := by
  have H1 : Aside (Bls w ad1 ls) := h1
  have H2 : Aside (Bls w ad2 ls) := h2
  clear h1 h2
  generalize hnn : ls.length = n at *
  have HL : Aside (ls.length = n) := hnn
  clear hnn
  go_enter Try.func19, Try.ntmps19
  go_wp2_with fail
  go_loopg [5] n (fun gk v5 wr => ∃ k d : Nat, v5 = .int .i64 (k : Int) ∧ k + gk = n ∧ wr = w.drewN d)
  case atStart => exact ⟨0, 0, rfl, by omega, rfl⟩
  case round =>
    obtain ⟨k, d, rfl, hk, rfl⟩ := hrel
    by_cases hlt : k < n
    · obtain ⟨b1, o1, rfl, hb1, hc1⟩ := H1.out (by rw [HL.out]; omega)
      obtain ⟨b2, o2, rfl, hb2, hc2⟩ := H2.out (by rw [HL.out]; omega)
      have y1 : (w.drewN d).cell? ⟨b1, o1 + k, none⟩ = some (.bool (ls.getD k false)) := hc1 k (by rw [HL.out]; exact hlt)
      have y2 : (w.drewN d).cell? ⟨b2, o2 + k, none⟩ = some (.bool (ls.getD k false)) := hc2 k (by rw [HL.out]; exact hlt)
      have q1 : (k : Int) < (n : Int) := by omega
      have HDN : Aside (∀ q, ∃ z, (w.drewN d).drewN q = w.drewN z) := fun q => ⟨d + q, by rw [World.drewN_drewN]⟩
      generalize ls.getD k false = x at *
      clear hc1 hc2
      generalize w.drewN d = WQ at *
      go_wp2_with fail
      go_quiet (fail)
      go_wp2_with fail
      go_roundg (n - (k + 1))
      case measure => omega
      case rel =>
        obtain ⟨z, hz⟩ := HDN.out _
        exact ⟨k + 1, z, by simp, by omega, hz⟩
    · obtain rfl : k = n := by omega
      have q1 : ¬ (k : Int) < (k : Int) := by omega
      go_wp2_with fail
      first | exact ⟨rfl, d, rfl⟩ | (go_ret; exact ⟨rfl, d, rfl⟩)
theorem no_any (x : Int) (w : World) : Calls Try.prog 11 #[.int .i64 x] w fun e w' => e = .returned (.int .i64 x) ∧ w' = w := by
  go_enter Try.func11, Try.ntmps11
  go_wp2_with fail
  first | exact ⟨rfl, rfl⟩ | (go_ret; exact ⟨rfl, rfl⟩)
end Go.Proofs.Ytkomadlmonhlhaa
