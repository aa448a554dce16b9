import Derived.Test.YtclgkmihabpohaaRdD
namespace Go.Proofs.Ytclgkmihabpohaa
open Go.ChangeShapes Go.WideShapes Go.ChangeAt Go.RowKit Go.Lib

set_option maxHeartbeats 8000000 in
theorem rdiffer_any (w : World) (a1 a2 : Option Addr) (t u : List S3) (cp1 cp2 : Nat) (h1 : EVS w a1 t) (h2 : EVS w a2 u) (ht : t.length ≤ 1000000000000000) (hu : u.length ≤ 1000000000000000) :
    Calls Try.prog 5 #[.slice a1 t.length cp1, .slice a2 u.length cp2] w fun e w' => e = .returned (ans t u) ∧ Below w.heap.size w w' := by
  obtain ⟨p, hp⟩ : ∃ p, pre t u = p := ⟨_, rfl⟩
  have HP : Hid (p ≤ t.length ∧ p ≤ u.length ∧ (∀ i, i < p → t.getD i z3 = u.getD i z3) ∧ (p < t.length → p < u.length → t.getD p z3 ≠ u.getD p z3)) := hp ▸ ⟨(pre_le t u).1, (pre_le t u).2, pre_eq t u, pre_ne t u⟩
  have HA : Hid ((p < t.length ∨ p < u.length → ans t u = .tuple #[.int .i64 (p : Int), .bool true]) ∧ (¬ (p < t.length ∨ p < u.length) → ans t u = .tuple #[.int .i64 0, .bool false])) := ⟨fun h => by unfold ans; rw [hp, if_pos h], fun h => by unfold ans; rw [hp, if_neg h]⟩
  have H1 : Hid (EVS w a1 t) := h1
  have H2 : Hid (EVS w a2 u) := h2
  have HB : Hid (∀ m, Below w.heap.size w (w.drewN m)) := fun m => ⟨rfl, rfl, rfl, by simp, fun _ _ => rfl⟩
  clear hp h1 h2
  generalize ans t u = AN at *
  generalize hN1 : t.length = n1 at *
  generalize hN2 : u.length = n2 at *
  have HN : Hid (t.length = n1 ∧ u.length = n2) := ⟨hN1, hN2⟩
  clear hN1 hN2
  go_enter Try.func5, Try.ntmps5
  go_wp2_with fail
  go_loopg [6] (n1 + n2) (fun gk v6 wr => ∃ i d : Nat, v6 = .int .i64 (i : Int) ∧ i ≤ p ∧ n1 + n2 - i ≤ gk ∧ wr = w.drewN d)
  case atStart => exact ⟨0, 0, rfl, by omega, by omega, rfl⟩
  case round =>
    obtain ⟨i, d, rfl, hip, hgk, rfl⟩ := hrel
    obtain ⟨p1, p2, p3, p4⟩ := HP.out
    have HDN : Hid (∀ q, ∃ z, (w.drewN d).drewN q = w.drewN z) := fun q => ⟨d + q, by rw [World.drewN_drewN]⟩
    by_cases hlt : i < p
    · have q1 : decide (i < n1) = true := by simp; omega
      have q2 : decide (i < n2) = true := by simp; omega
      have q3 : decide (n1 ≤ i) = false := by simp; omega
      have q4 : decide (n2 ≤ i) = false := by simp; omega
      have q1' : (i : Int) < (n1 : Int) := by omega
      have q2' : (i : Int) < (n2 : Int) := by omega
      obtain ⟨b1, o1, rfl, hb1, hc1⟩ := H1.out (by rw [HN.out.1]; omega)
      obtain ⟨b2, o2, rfl, hb2, hc2⟩ := H2.out (by rw [HN.out.2]; omega)
      obtain ⟨x0, x1, x2⟩ := hc1 i (by rw [HN.out.1]; omega)
      obtain ⟨y0, y1, y2⟩ := hc2 i (by rw [HN.out.2]; omega)
      rw [← p3 i hlt] at y0 y1 y2
      generalize t.getD i z3 = x at *
      obtain ⟨k0, k1, k2⟩ := x
      dsimp only at x0 x1 x2 y0 y1 y2
      have c0 : (w.drewN d).cell? ⟨b1, o1 + i * 3, none⟩ = some (.int .i64 k0) := x0
      have c1 : (w.drewN d).cell? ⟨b1, o1 + i * 3 + 1, none⟩ = some (.int .u64 k1) := x1
      have c2 : (w.drewN d).cell? ⟨b1, o1 + i * 3 + 2, none⟩ = some (.int .u64 k2) := x2
      have c3 : (w.drewN d).cell? ⟨b2, o2 + i * 3, none⟩ = some (.int .i64 k0) := y0
      have c4 : (w.drewN d).cell? ⟨b2, o2 + i * 3 + 1, none⟩ = some (.int .u64 k1) := y1
      have c5 : (w.drewN d).cell? ⟨b2, o2 + i * 3 + 2, none⟩ = some (.int .u64 k2) := y2
      have HQ := neq_e k0 k1 k2 k0 k1 k2 true (by simp)
      clear x0 x1 x2 y0 y1 y2 hc1 hc2 p1 p2 p3 p4
      generalize w.drewN d = WQ at *
      go_wp2_with fail
      first | (go_big_quiet (fail))
      go_wp2_with fail
      obtain ⟨z, hz⟩ := HDN.out nq
      go_roundg (n1 + n2 - (i + 1))
      case measure => omega
      case rel => exact ⟨i + 1, z, by simp, by omega, by omega, hz⟩
    · obtain rfl : i = p := by omega
      by_cases hd : i < n1 ∨ i < n2
      · have e1 := HA.out.1 hd
        subst e1
        by_cases hl1 : i < n1
        · by_cases hl2 : i < n2
          · have q1 : decide (i < n1) = true := by simp; omega
            have q2 : decide (i < n2) = true := by simp; omega
            have q3 : decide (n1 ≤ i) = false := by simp; omega
            have q4 : decide (n2 ≤ i) = false := by simp; omega
            have q1' : (i : Int) < (n1 : Int) := by omega
            have q2' : (i : Int) < (n2 : Int) := by omega
            obtain ⟨b1, o1, rfl, hb1, hc1⟩ := H1.out (by rw [HN.out.1]; omega)
            obtain ⟨b2, o2, rfl, hb2, hc2⟩ := H2.out (by rw [HN.out.2]; omega)
            obtain ⟨x0, x1, x2⟩ := hc1 i (by rw [HN.out.1]; omega)
            obtain ⟨y0, y1, y2⟩ := hc2 i (by rw [HN.out.2]; omega)
            have hne := p4 hl1 hl2
            generalize t.getD i z3 = x at *
            generalize u.getD i z3 = y at *
            obtain ⟨k0, k1, k2⟩ := x
            obtain ⟨l0, l1, l2⟩ := y
            dsimp only at x0 x1 x2 y0 y1 y2
            have c0 : (w.drewN d).cell? ⟨b1, o1 + i * 3, none⟩ = some (.int .i64 k0) := x0
            have c1 : (w.drewN d).cell? ⟨b1, o1 + i * 3 + 1, none⟩ = some (.int .u64 k1) := x1
            have c2 : (w.drewN d).cell? ⟨b1, o1 + i * 3 + 2, none⟩ = some (.int .u64 k2) := x2
            have c3 : (w.drewN d).cell? ⟨b2, o2 + i * 3, none⟩ = some (.int .i64 l0) := y0
            have c4 : (w.drewN d).cell? ⟨b2, o2 + i * 3 + 1, none⟩ = some (.int .u64 l1) := y1
            have c5 : (w.drewN d).cell? ⟨b2, o2 + i * 3 + 2, none⟩ = some (.int .u64 l2) := y2
            have HQ := neq_e k0 k1 k2 l0 l1 l2 false (decide_eq_false hne)
            clear x0 x1 x2 y0 y1 y2 hc1 hc2 p1 p2 p3 p4 HA HP hne
            generalize w.drewN d = WQ at *
            go_wp2_with fail
            first | (go_big_quiet (fail))
            go_wp2_with fail
            obtain ⟨z, hz⟩ := HDN.out nq
            go_ret2
            exact ⟨rfl, hz ▸ HB.out z⟩
          · have q1 : decide (i < n1) = true := by simp; omega
            have q3 : decide (n1 ≤ i) = false := by simp; omega
            have q4 : decide (n2 ≤ i) = true := by simp; omega
            clear p1 p2 p3 p4 HA HP
            generalize w.drewN d = WQ at *
            go_wp2_with fail
            first | (go_big_quiet (fail))
            go_wp2_with fail
            obtain ⟨z, hz⟩ := HDN.out nq
            go_ret2
            exact ⟨rfl, hz ▸ HB.out z⟩
        · have q1 : decide (i < n1) = false := by simp; omega
          have q2 : decide (i < n2) = true := by simp; omega
          have q3 : decide (n1 ≤ i) = true := by simp; omega
          clear p1 p2 p3 p4 HA HP
          generalize w.drewN d = WQ at *
          go_wp2_with fail
          first | (go_big_quiet (fail))
          go_wp2_with fail
          obtain ⟨z, hz⟩ := HDN.out nq
          go_ret2
          exact ⟨rfl, hz ▸ HB.out z⟩
      · have e1 := HA.out.2 hd
        subst e1
        have q1 : decide (i < n1) = false := by simp; omega
        have q2 : decide (i < n2) = false := by simp; omega
        clear p1 p2 p3 p4 HA HP hd
        go_wp2_with fail
        go_ret2
        exact ⟨rfl, HB.out _⟩
end Go.Proofs.Ytclgkmihabpohaa
