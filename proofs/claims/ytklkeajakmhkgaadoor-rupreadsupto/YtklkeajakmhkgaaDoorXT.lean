import Derived.Test.YtklkeajakmhkgaaDoorXS
import Derived.BigQuiet
namespace Go.Proofs.YtklkeajakmhkgaaDoor
open Go.ChangeShapes Go.WideShapes Go.ChangeAt Go.RowKit Go.Lib

set_option maxHeartbeats 8000000 in
set_option maxRecDepth 100000 in
theorem reads_of (s : ByteArray) (w : World) (R : List (Bool × List Int) × Nat × Int) (hl : R.1.length ≤ 1048576) (hcl : ∀ t ∈ R.1, t.2.length ≤ 1048576)
    (H1 : ∀ W, Below w.heap.size w W → Calls Tryd.prog 4 #[.string s] W (PRS W R)) (H2 : ∀ W, Below w.heap.size w W → Calls Tryd.prog 5 #[.string s] W (PRS W R)) :
    Calls Tryd.prog 3 #[.string s] w fun e w' => e = .returned (.bool true) ∧ Below w.heap.size w w' := by
  generalize hPP : (fun (e : Ending) (w' : World) => e = .returned (.bool true) ∧ Below w.heap.size w w') = PP
  have HPP : Hid (∀ w', Below w.heap.size w w' → PP (.returned (.bool true)) w') := fun w' h => by rw [← hPP]; exact ⟨rfl, h⟩
  clear hPP
  obtain ⟨ps, m, er⟩ := R
  dsimp only at hl hcl
  obtain ⟨n, hn⟩ : ∃ n, ps.length = n := ⟨_, rfl⟩
  have HP1 : Hid (∀ W, Below w.heap.size w W → Calls Tryd.prog 4 #[.string s] W fun e w' => ∃ a c q, e = .returned (.tuple #[.slice a n c, .int .i64 (m : Int), .int .i64 er]) ∧ RST W w' ps (.slice a n c) q) := fun W hb => (H1 W hb).mono fun e w' hh => by
    obtain ⟨a, c, q, h1, h2⟩ := hh
    dsimp only at h1 h2
    rw [hn] at h1 h2
    exact ⟨a, c, q, h1, h2⟩
  have HP2 : Hid (∀ W, Below w.heap.size w W → Calls Tryd.prog 5 #[.string s] W fun e w' => ∃ a c q, e = .returned (.tuple #[.slice a n c, .int .i64 (m : Int), .int .i64 er]) ∧ RST W w' ps (.slice a n c) q) := fun W hb => (H2 W hb).mono fun e w' hh => by
    obtain ⟨a, c, q, h1, h2⟩ := hh
    dsimp only at h1 h2
    rw [hn] at h1 h2
    exact ⟨a, c, q, h1, h2⟩
  have HAL : Hid (∀ W a1 c1 a2 c2, Stp W a1 ps → Stp W a2 ps → Calls Tryd.prog 6 #[.slice a1 n c1, .slice a2 n c2] W fun e w' => e = .returned (.bool true) ∧ ∃ m, w' = W.drewN m) := fun W a1 c1 a2 c2 h1 h2 => by
    rw [← hn]
    exact alike_any a1 a2 ps c1 c2 W h1 h2 hl hcl
  have HL : Hid (ps.length = n) := hn
  rw [hn] at hl
  have HCL : Hid (∀ t ∈ ps, t.2.length ≤ 1048576) := hcl
  have HB0 : Hid (Below w.heap.size w w) := Below.refl _ _
  clear hcl H1 H2 hn
  obtain ⟨i0, hi0, hz0, hz1, hz2⟩ := info_parts (P := Tryd.prog) (e := 3) (z := .int .i64 0) (size := 1) (bytes := 8) (by kernel_rfl)
  go_enter Tryd.func3, Tryd.ntmps3
  go_wp2_with fail
  refine (HP1.out w HB0.out).mono ?_
  rintro e w1 ⟨a1, c1, q1, rfl, hr1⟩
  have HR1 : Hid (RST w w1 ps (.slice a1 n c1) q1) := hr1
  clear hr1 HB0
  go_wp2_with fail
  refine (HP2.out w1 HR1.out.bel).mono ?_
  rintro e w2 ⟨a2, c2, q2, rfl, hr2⟩
  have HR2 : Hid (RST w1 w2 ps (.slice a2 n c2) q2) := hr2
  have HB2 : Hid (Below w.heap.size w w2) := below_next HR1.out.bel hr2.bel
  clear hr2
  go_wp2_with fail
  refine (HP1.out w2 HB2.out).mono ?_
  rintro e w3 ⟨a3, c3, q3, rfl, hr3⟩
  have HR3 : Hid (RST w2 w3 ps (.slice a3 n c3) q3) := hr3
  have HB3 : Hid (Below w1.heap.size w1 w3) := below_next HR2.out.bel hr3.bel
  have HS1 : Hid (∀ m, Stp (w3.drewN m) a1 ps ∧ Stp (w3.drewN m) a2 ps ∧ Stp (w3.drewN m) a3 ps) := fun m => by
    have k1 := (HR1.out.over HB3.out).stp
    have k2 := (HR2.out.over hr3.bel).stp
    have k3 := hr3.stp
    rw [HL.out] at k1 k2 k3
    obtain ⟨x1, y1, e1, s1⟩ := k1
    obtain ⟨x2, y2, e2, s2⟩ := k2
    obtain ⟨x3, y3, e3, s3⟩ := k3
    cases e1
    cases e2
    cases e3
    exact ⟨s1, s2, s3⟩
  have HAS : Hid (AST w w1 w3 w3 ps (.slice a1 n c1) q1 (fun j => (ps.getD j (false, [])).2.map (Value.int .i64))) := AST.start HR1.out HB3.out
  have HBS : Hid (∀ wr q L, AST w w1 w3 wr ps (.slice a1 n c1) q L → Stp wr a2 ps ∧ Stp wr a3 ps ∧ Below w.heap.size w wr) := fun wr q L h => by
    have hz1 := HR2.out.bel.size
    have k2 := h.beside (HR2.out.over hr3.bel) (Nat.le_refl _)
    have k3 := h.beside hr3 hz1
    rw [HL.out] at k2 k3
    obtain ⟨x2, y2, e2, s2⟩ := k2
    obtain ⟨x3, y3, e3, s3⟩ := k3
    cases e2
    cases e3
    exact ⟨s2, s3, h.bel⟩
  clear hr3 HP1 HP2 HR1 HR2 HR3 HB2 HB3
  have HK1 : Hid (∀ m, Calls Tryd.prog 6 #[.slice a1 n c1, .slice a2 n c2] (w3.drewN m) fun e w' => e = .returned (.bool true) ∧ ∃ m', w' = (w3.drewN m).drewN m') := fun m => HAL.out _ a1 c1 a2 c2 (HS1.out m).1 (HS1.out m).2.1
  have HK3 : Hid (∀ m, Calls Tryd.prog 6 #[.slice a3 n c3, .slice a2 n c2] (w3.drewN m) fun e w' => e = .returned (.bool true) ∧ ∃ m', w' = (w3.drewN m).drewN m') := fun m => HAL.out _ a3 c3 a2 c2 (HS1.out m).2.2 (HS1.out m).2.1
  have HI0 : Hid (∀ m, IV1 w w1 w3 ps a1 c1 (w3.drewN m) 0 0) := fun m => by
    have h5 : IV1 w w1 w3 ps a1 c1 w3 0 0 := ⟨q1, _, by rw [HL.out]; exact HAS.out, fun j _ => List.length_map .., fun j hj => absurd hj (Nat.not_lt_zero j), fun h => absurd h (Nat.lt_irrefl 0)⟩
    exact h5.dn m
  have HFI : Hid (∀ wr i k, IV2 w w1 w3 ps a1 c1 wr i k → Stp wr a2 ps ∧ Stp wr a3 ps ∧ Below w.heap.size w wr) := fun wr i k h => by
    obtain ⟨q, L, h1, _⟩ := h
    rw [HL.out] at h1
    exact HBS.out wr q L h1
  clear HS1 HAS HBS
  go_wp2_with fail
  refine (HK1.out 0).mono ?_
  rintro e w4 ⟨rfl, m4, hw4⟩
  have hw5 : w4 = w3.drewN m4 := hw4
  subst hw5
  clear hw4
  go_wp2_with fail
  refine (HK3.out m4).mono ?_
  rintro e w4 ⟨rfl, m5, rfl⟩
  clear HK1 HK3
  have HI1 : IV1 w w1 w3 ps a1 c1 ((w3.drewN m4).drewN m5) 0 0 := by rw [World.drewN_drewN]; exact HI0.out _
  clear HI0
  generalize (w3.drewN m4).drewN m5 = W4 at HI1 ⊢
  have HI2 : Hid (IV1 w w1 w3 ps a1 c1 W4 0 0) := HI1
  clear HI1
  go_wp2_with fail
  go_loopg [12] n (fun gk s12 wr => ∃ i : Nat, s12 = .int .i64 (i : Int) ∧ i + gk = n ∧ Aside (IV1 w w1 w3 ps a1 c1 wr i 0))
  case atStart => exact ⟨0, rfl, by omega, HI2.out⟩
  case round =>
    clear HI2
    obtain ⟨i, rfl, hi, HI⟩ := hrel
    by_cases hlt : i < n
    · have q1 : (i : Int) < (n : Int) := by omega
      have hln : ln ps i ≤ 1048576 := by
        have h7 := HCL.out (ps.getD i (false, [])) (by rw [getD_of _ _ _ (by rw [HL.out]; exact hlt)]; exact List.getElem_mem _)
        exact h7
      obtain ⟨l, hl0⟩ : ∃ l, ln ps i = l := ⟨_, rfl⟩
      have HLN : Hid (ln ps i = l) := hl0
      rw [hl0] at hln
      clear hl0
      have HIn : Hid (IV1 w w1 w3 ps a1 c1 wr i 0) := HI.out
      clear HI
      go_wp2_with fail
      go_loopg [13] l (fun gj s13 wr => ∃ k : Nat, s13 = .int .i64 (k : Int) ∧ k + gj = l ∧ Aside (IV1 w w1 w3 ps a1 c1 wr i k))
      case atStart => exact ⟨0, rfl, by omega, HIn.out⟩
      case round =>
        clear HIn
        obtain ⟨k, rfl, hk, HJ⟩ := hrel
        obtain ⟨bv, ad, c, rfl, y1, hw⟩ := HJ.out.cell (by rw [HL.out]; exact hlt)
        rw [HLN.out] at y1 hw
        by_cases hkl : k < l
        · obtain ⟨b, rfl, ⟨z, y2⟩, y3, hn⟩ := hw hkl
          have HN : Aside (IV1 w w1 w3 ps (some ⟨bv, 0, none⟩) c1 (wr.setCell ⟨b, k, none⟩ (.int .i64 7777777)) i (k + 1)) := hn
          have q2 : (k : Int) < (l : Int) := by omega
          clear hw hn HJ
          go_wp2
          go_roundg (gk - 1)
          case measure => omega
          case rel => exact ⟨k + 1, by simp, by omega, HN.out⟩
        · have hke : k = l := by omega
          have HN : Aside (IV1 w w1 w3 ps (some ⟨bv, 0, none⟩) c1 wr (i + 1) 0) := by
            have h6 := HJ.out
            rw [hke, ← HLN.out] at h6
            exact h6.next
          clear hw HJ
          go_wp2
          go_roundg (n - (i + 1))
          case measure => omega
          case rel => exact ⟨i + 1, by simp, by omega, HN.out⟩
    · have hie : i = n := by omega
      have HJ2 : Hid (IV2 w w1 w3 ps a1 c1 wr 0 0) := by
        have h6 := HI.out
        rw [hie, ← HL.out] at h6
        exact h6.turn
      clear HI
      go_wp2_with fail
      go_loopg [14] n (fun gk s14 wr => ∃ i : Nat, s14 = .int .i64 (i : Int) ∧ i + gk = n ∧ Aside (IV2 w w1 w3 ps a1 c1 wr i 0))
      case atStart => exact ⟨0, rfl, by omega, HJ2.out⟩
      case round =>
        clear HJ2
        clear hie hlt hi
        obtain ⟨i2, rfl, hi2, HI⟩ := hrel
        by_cases hlt : i2 < n
        · have q1 : (i2 : Int) < (n : Int) := by omega
          have hln : ln ps i2 ≤ 1048576 := by
            have h7 := HCL.out (ps.getD i2 (false, [])) (by rw [getD_of _ _ _ (by rw [HL.out]; exact hlt)]; exact List.getElem_mem _)
            exact h7
          obtain ⟨l, hl0⟩ : ∃ l, ln ps i2 = l := ⟨_, rfl⟩
          have HLN : Hid (ln ps i2 = l) := hl0
          rw [hl0] at hln
          clear hl0
          have HIn : Hid (IV2 w w1 w3 ps a1 c1 wr i2 0) := HI.out
          clear HI
          go_wp2_with fail
          go_loopg [15] 16 (fun gj s15 wr => ∃ k : Nat, s15 = .int .i64 (k : Int) ∧ k + gj = 16 ∧ Aside (IV2 w w1 w3 ps a1 c1 wr i2 k))
          case atStart => exact ⟨0, rfl, by omega, HIn.out⟩
          case round =>
            clear HIn
            obtain ⟨k, rfl, hk, HJ⟩ := hrel
            by_cases hkl : k < 16
            · obtain ⟨bv, ad, c, Li, rfl, y1, hrow, hsz, hG⟩ := HJ.out.cell (by rw [HL.out]; exact hlt)
              rw [HLN.out] at y1 hrow hG
              obtain ⟨y, hy⟩ : ∃ y, l + k = y := ⟨_, rfl⟩
              rw [hy] at y1 hrow hG
              have hyb : y ≤ 1048592 := by omega
              have HOW : Hid (∀ o, (wr.alloc o).ownsRow w.heap.size 3 1 (.slice ad y c) y Li) := fun o => hrow.alloc o
              have HG : Hid (∀ (w5 : World) (g5 cap5 : Nat) (o : Obj), w5.ownsRow w.heap.size 3 1 (.slice (some ⟨g5, 0, none⟩) (y + 1) cap5) (y + 1) (Li ++ [.int .i64 8888888]) → (wr.alloc o).grownBy w5 (Value.slice ad y c).ownBlock → ((Value.slice ad y c).ownBlock = some g5 ∨ g5 = wr.heap.size + 1) →
                (∃ z, w5.cell? ⟨bv, i2 * 2 + 1, none⟩ = some z) ∧ w5.frozen? ⟨bv, i2 * 2 + 1, none⟩ = false ∧ IV2 w w1 w3 ps (some ⟨bv, 0, none⟩) c1 (w5.setCell ⟨bv, i2 * 2 + 1, none⟩ (.slice (some ⟨g5, 0, none⟩) (y + 1) cap5)) i2 (k + 1)) := hG
              have q2 : (k : Int) < 16 := by omega
              clear hG hrow HJ hy
              go_wp2_with (at_builtin; refine wpList_append_lies _ rfl _ _ 28 rfl w.heap.size 3 i0 (.int .i64 0) 1 8 Tryd.underlying28 hi0 hz0 hz1 hz2 rfl (by decide) _ _ _ rfl (HOW.out _) ⟨wr.heap.size, 0, none⟩ 1 1 [.int .i64 8888888] rfl rfl (World.news_of_block (cs := #[.int .i64 8888888]) (t := 3) (fr := (0, 0)) (heap_alloc_new wr _)) (ints_oneCell .i64 [8888888]) (by omega) (by unfold maxLen; omega) (by omega) (by simp; omega) (wr.heap.size + 1) (by simp) ?_; intro g5 cap5 w5 hown5 hgrow5 hat5 hlt5; obtain ⟨⟨z5, e5⟩, f5, hn5⟩ := HG.out w5 g5 cap5 _ hown5 hgrow5 hat5; have HN5 : Hid (IV2 w w1 w3 ps (some ⟨bv, 0, none⟩) c1 (w5.setCell ⟨bv, i2 * 2 + 1, none⟩ (.slice (some ⟨g5, 0, none⟩) (y + 1) cap5)) i2 (k + 1)) := hn5; clear hown5 hgrow5 hat5 hlt5 hn5; refine Hid.out ?_)
              refine Lib.hid ?_
              clear HOW HG
              go_wp2
              go_roundg (gk - 1)
              case measure => omega
              case rel => exact ⟨k + 1, by simp, by omega, HN5.out⟩
            · have hke : k = 16 := by omega
              have HN : Aside (IV2 w w1 w3 ps a1 c1 wr (i2 + 1) 0) := by
                have h6 := HJ.out
                rw [hke] at h6
                exact h6.next (by rw [HL.out]; exact hlt)
              clear HJ
              go_wp2
              go_roundg (n - (i2 + 1))
              case measure => omega
              case rel => exact ⟨i2 + 1, by simp, by omega, HN.out⟩
        · have hie : i2 = n := by omega
          have HJ3 : Hid (IV2 w w1 w3 ps a1 c1 wr n 0) := by
            have h6 := HI.out
            rw [hie] at h6
            exact h6
          clear HI
          have HS3 : Hid (∀ m, Stp (wr.drewN m) a2 ps ∧ Stp (wr.drewN m) a3 ps ∧ Below w.heap.size w (wr.drewN m)) := fun m => HFI.out _ n 0 (HJ3.out.dn m)
          have HFN : Hid (∀ m, Calls Tryd.prog 6 #[.slice a3 n c3, .slice a2 n c2] (wr.drewN m) fun e w' => e = .returned (.bool true) ∧ PP (.returned (.bool true)) w') := fun m => (HAL.out _ a3 c3 a2 c2 (HS3.out m).2.1 (HS3.out m).1).mono fun e w' hh => by
            obtain ⟨h1, z, rfl⟩ := hh
            refine ⟨h1, HPP.out _ ?_⟩
            rw [World.drewN_drewN]
            exact (HS3.out _).2.2
          go_wp2_with fail
          go_loopg [16] n (fun gk s16 wr' => ∃ i : Nat, s16 = .int .i64 (i : Int) ∧ i + gk = n ∧ ∃ m, wr' = wr.drewN m)
          case atStart => exact ⟨0, rfl, by omega, 0, rfl⟩
          case round =>
            clear hie hlt hi2
            obtain ⟨i3, rfl, hi3, m3, rfl⟩ := hrel
            by_cases hlt : i3 < n
            · have q1 : (i3 : Int) < (n : Int) := by omega
              have hln : ln ps i3 ≤ 1048576 := by
                have h7 := HCL.out (ps.getD i3 (false, [])) (by rw [getD_of _ _ _ (by rw [HL.out]; exact hlt)]; exact List.getElem_mem _)
                exact h7
              obtain ⟨bv, ad, c, rfl, y1, b, rfl, y2⟩ := ((by have h6 := HJ3.out; rw [← HL.out] at h6; exact h6 : IV2 w w1 w3 ps a1 c1 wr ps.length 0).dn m3).look (i := i3) (by rw [HL.out]; exact hlt)
              obtain ⟨b2, off2, rfl, _, hc2⟩ := (HS3.out m3).1 (by rw [HL.out]; omega)
              obtain ⟨aj, cj, _, z1, _⟩ := hc2 i3 (by rw [HL.out]; exact hlt)
              have z2 : (wr.drewN m3).cell? ⟨b2, off2 + i3 * 2 + 1, none⟩ = some (.slice aj (ln ps i3) cj) := z1
              obtain ⟨l, hl0⟩ : ∃ l, ln ps i3 = l := ⟨_, rfl⟩
              rw [hl0] at hln y1 y2 z2
              clear hc2 z1 hl0
              have HW2 : Aside (∀ m, ∃ z, (wr.drewN m3).drewN m = wr.drewN z) := fun m => ⟨m3 + m, by rw [World.drewN_drewN]⟩
              obtain ⟨y, hy⟩ : ∃ y, l + 16 = y := ⟨_, rfl⟩
              have r0 : IntKind.wrap .i64 ((l : Int) + 16) = (y : Int) := by rw [← hy]; unfold IntKind.wrap; simp [IntKind.bits, IntKind.signed]; omega
              rw [hy] at y1
              have r3 : (0 : Int) < (y : Int) := by omega
              have r4 : 0 < y := by omega
              have HY : Hid (l + 16 = y) := hy
              clear hy
              obtain ⟨WQ, hWQ⟩ : ∃ WQ, wr.drewN m3 = WQ := ⟨_, rfl⟩
              rw [hWQ] at y1 y2 z2 HW2 ⊢
              clear hWQ
              by_cases h0 : 0 < l
              · have y3 := y2 h0
                have r2 : (0 : Int) < (l : Int) := by omega
                go_wp2_with fail
                first | (go_quiet (fail)) | fail
                go_wp2
                obtain ⟨z, hz⟩ := HW2.out nq
                go_roundg (gk - 1)
                case measure => omega
                case rel => exact ⟨i3 + 1, by simp, by omega, z, hz⟩
              · have r2 : ¬ (0 : Int) < (l : Int) := by omega
                have r5 : decide ((0 : Int) < (l : Int)) = false := decide_eq_false r2
                have r6 : decide (0 < l) = false := decide_eq_false h0
                clear y2 r3 r4 HY hln r2 h0
                go_wp2_with fail
                go_big_quiet (fail)
                go_wp2
                obtain ⟨z, hz⟩ := HW2.out nq
                go_roundg (gk - 1)
                case measure => omega
                case rel => exact ⟨i3 + 1, by simp, by omega, z, hz⟩
            · go_wp2_with fail
              refine (HFN.out m3).mono ?_
              rintro e w6 ⟨rfl, hp⟩
              have HF : Hid (PP (.returned (.bool true)) w6) := hp
              clear hp
              go_wp2
              first | exact HF.out | (go_ret; exact HF.out)
end Go.Proofs.YtklkeajakmhkgaaDoor
