import Derived.Test.YtkbfoahfehfjnaaGreatDoorTmK0
import Derived.Test.YtkbfoahfehfjnaaGreatDoorTmS
import Derived.Test.YtkbfoahfehfjnaaGreatDoorTmT
import Derived.Deep.RegionLaw
namespace Go.Proofs.YtkbfoahfehfjnaaGreatDoor
open Go.ChangeShapes Go.WideShapes Go.ChangeAt Go.RowKit Go.Lib Go.Tm Go.Bw Go.Bn Go.WideMaps Go.Maps Go.ChangeMaps

theorem U_of23 {x : Int} (h : U64 x) : U x := ⟨h.1, by have := h.2; omega⟩
set_option maxHeartbeats 8000000 in
set_option maxRecDepth 100000 in
theorem rmake_3 (B0 B : Nat) (lim : Int) (L : List Nd) (v : Value) (M1 M2 : Nat) (op u a b c num : Int) (nm : ByteArray) (w : World) (h : SM 36 w B0 B lim L v (some M1) (some M2)) (hB0 : B0 ≤ w.heap.size) (hl : L.length < 1000000000000) (hn : (⟨op, u, a, b, c, num, nm⟩ : Nd).ok) (hop : 1 ≤ op ∧ op ≤ 33) (hpt : pt op = 3) (hu : 0 ≤ u ∧ u ≤ 64) (hia : isT L a = true) (hib : isT L b = true) (hic : isT L c = true) (h4 : op ≠ 4) (hr : rfE L ⟨op, u, a, b, c, num, nm⟩ = 0) (hP : hp L ⟨op, u, a, b, c, num, nm⟩ = true) (hBr : br ⟨op, u, a, b, c, num, nm⟩ = true) (hSf : sf op (wd L a) (wd L b) (wd L c) = true) (hWf : wf op u num (wd L a) (wd L b) = true) :
    Calls Tryz.prog 17 #[.pointer (some ⟨B, 0, none⟩), .agg #[.int .i64 op, .int .i64 u, .int .i64 a, .int .i64 b, .int .i64 c, .int .u64 num, .string nm]] w (MkP 36 w B0 B lim L v (some M1) (some M2) ⟨op, u, a, b, c, num, nm⟩) := by
  have HPt : Hid (∀ W, Calls Tryz.prog 29 #[.int .i64 op] W fun e w' => e = .returned (.int .i64 3) ∧ w' = W) := fun W => by
    have h1 := rparts_any op W
    have e : rpt op = 3 := by unfold rpt; rw [if_neg (by omega)]; exact hpt
    rw [e] at h1
    exact h1
  have HI : Hid (∀ o t, Calls Tryz.prog 30 #[.pointer (some ⟨B, 0, none⟩), .int .i64 t] (w.alloc o) fun e w' => e = .returned (.bool (isT L t)) ∧ w' = w.alloc o) := fun o t => is_any 36 B0 B lim L v (some M1) (some M2) t _ (h.below (bel1 w o))
  have HEx : Hid (∀ W, Calls Tryz.prog 31 #[.agg #[.int .i64 op, .int .i64 u, .int .i64 a, .int .i64 b, .int .i64 c, .int .u64 num, .string nm], .int .i64 3] W fun e w' => e = .returned (.bool (!br ⟨op, u, a, b, c, num, nm⟩)) ∧ Below W.heap.size W w') := fun W => by
    have h1 := extra_any ⟨op, u, a, b, c, num, nm⟩ W
    rw [show pt ((⟨op, u, a, b, c, num, nm⟩ : Nd)).op = 3 from hpt] at h1
    exact h1
  have qu1 : decide (u < 0) = false := decide_eq_false (by omega)
  have qu2 : decide (64 < u) = false := decide_eq_false (by omega)
  have HSo : Hid (∀ W, Below w.heap.size w W → Calls Tryz.prog 32 #[.pointer (some ⟨B, 0, none⟩), .agg #[.int .i64 op, .int .i64 u, .int .i64 a, .int .i64 b, .int .i64 c, .int .u64 num, .string nm]] W fun e w' => e = .returned (.bool true) ∧ Below W.heap.size W w') := fun W hb => by
    have h1 := rsorts_any 36 B0 B lim L v (some M1) (some M2) ⟨op, u, a, b, c, num, nm⟩ W (h.below hb) hop.1 hop.2 hP hBr
    rw [hSf] at h1
    exact h1
  have HWi : Hid (∀ W, Below w.heap.size w W → Calls Tryz.prog 33 #[.pointer (some ⟨B, 0, none⟩), .agg #[.int .i64 op, .int .i64 u, .int .i64 a, .int .i64 b, .int .i64 c, .int .u64 num, .string nm]] W fun e w' => e = .returned (.bool true) ∧ Below W.heap.size W w') := fun W hb => by
    have h1 := rwidth_any 36 B0 B lim L v (some M1) (some M2) ⟨op, u, a, b, c, num, nm⟩ W (h.below hb) hop.1 hop.2 (U_of23 hn.num) hu hP
    rw [hWf] at h1
    exact h1
  have HS : Hid (SM 36 w B0 B lim L v (some M1) (some M2)) := h
  have HOK : Hid (((⟨op, u, a, b, c, num, nm⟩ : Nd)).ok) := hn
  rw [hBr] at HEx
  obtain ⟨kl, hkl⟩ := key_node _ hn
  have HKL : Hid (keyOf Tryz.prog 39 (nodeV ⟨op, u, a, b, c, num, nm⟩) = some kl) := hkl
  have HRF : Hid (rfE L ⟨op, u, a, b, c, num, nm⟩ = 0) := hr
  have HBB : Hid (B0 ≤ w.heap.size) := hB0
  obtain ⟨i0, hi, hz0, hz1, hz2⟩ := info_parts (P := Tryz.prog) (e := 39) (z := .agg #[.int .i64 0, .int .i64 0, .int .i64 0, .int .i64 0, .int .i64 0, .int .u64 0, .string ⟨#[]⟩]) (size := 7) (bytes := 64) (by kernel_rfl)
  have q4 : (op == 4) = false := beq_eq_false_iff_ne.2 h4
  have HF2 : Hid (∀ y, varF L y = varF (L ++ [⟨op, u, a, b, c, num, nm⟩]) y) := fun y => varF_no h4 y
  have HOLD : Hid (∀ w' i, pos ⟨op, u, a, b, c, num, nm⟩ L = some i → Below w.heap.size w w' → MkP 36 w B0 B lim L v (some M1) (some M2) ⟨op, u, a, b, c, num, nm⟩ (.returned (.tuple #[.int .i64 ((i : Int) + 1), .int .i64 0])) w') := fun w' i hp hb => MkP.old h hr hp hb
  have HFUL : Hid (∀ w', pos ⟨op, u, a, b, c, num, nm⟩ L = none → 0 < lim ∧ lim ≤ (L.length : Int) → Below w.heap.size w w' → MkP 36 w B0 B lim L v (some M1) (some M2) ⟨op, u, a, b, c, num, nm⟩ (.returned (.tuple #[.int .i64 0, .int .i64 4])) w') := fun w' hp hf hb => MkP.full h hr hp hf hb
  have HNEW : Hid (∀ w', pos ⟨op, u, a, b, c, num, nm⟩ L = none → ¬ (0 < lim ∧ lim ≤ (L.length : Int)) → AddP 36 w B0 B lim (L ++ [⟨op, u, a, b, c, num, nm⟩]) v (some M1) (some M2) w' → MkP 36 w B0 B lim L v (some M1) (some M2) ⟨op, u, a, b, c, num, nm⟩ (.returned (.tuple #[.int .i64 ((L.length : Int) + 1), .int .i64 0])) w') := fun w' hp hf hA => MkP.new hr hp hf hA
  generalize hPP : MkP 36 w B0 B lim L v (some M1) (some M2) ⟨op, u, a, b, c, num, nm⟩ = PP at *
  clear hPP hP hBr hSf hWf hop hpt hu h4 h hn hr hkl hB0
  go_enter Tryz.func17, Tryz.ntmps17
  go_wp2_with (first | (go_at_call 29; refine (HPt.out _).mono ?_; rintro e w' ⟨rfl, rfl⟩) | (go_at_call 30; refine (HI.out _ _).mono ?_; rintro e w' ⟨rfl, rfl⟩))
  refine (HEx.out _).mono ?_
  rintro e w1 ⟨rfl, hb⟩
  have X1 : Hid (Below (w.heap.size + 1) (w.alloc (Obj.cells #[.int .i64 op, .int .i64 u, .int .i64 a, .int .i64 b, .int .i64 c, .int .u64 num, .string nm] 39 (0, 0))) w1) := hb.mono (by simp)
  clear hb
  have d0 : w1.cell? ⟨w.heap.size, 0, none⟩ = some (.int .i64 op) := box_cells X1.out 0
  have d1 : w1.cell? ⟨w.heap.size, 1, none⟩ = some (.int .i64 u) := box_cells X1.out 1
  have d2 : w1.cell? ⟨w.heap.size, 2, none⟩ = some (.int .i64 a) := box_cells X1.out 2
  have d3 : w1.cell? ⟨w.heap.size, 3, none⟩ = some (.int .i64 b) := box_cells X1.out 3
  have d4 : w1.cell? ⟨w.heap.size, 4, none⟩ = some (.int .i64 c) := box_cells X1.out 4
  have d5 : w1.cell? ⟨w.heap.size, 5, none⟩ = some (.int .u64 num) := box_cells X1.out 5
  have d6 : w1.cell? ⟨w.heap.size, 6, none⟩ = some (.string nm) := box_cells X1.out 6
  go_wp2_with fail
  refine (HSo.out _ (box_old X1.out)).mono ?_
  rintro e w2 ⟨rfl, hb⟩
  have X2 : Hid (Below (w.heap.size + 1) (w.alloc (Obj.cells #[.int .i64 op, .int .i64 u, .int .i64 a, .int .i64 b, .int .i64 c, .int .u64 num, .string nm] 39 (0, 0))) w2) := box_next X1.out hb
  clear hb
  clear d0 d1 d2 d3 d4 d5 d6
  have d0 : w2.cell? ⟨w.heap.size, 0, none⟩ = some (.int .i64 op) := box_cells X2.out 0
  have d1 : w2.cell? ⟨w.heap.size, 1, none⟩ = some (.int .i64 u) := box_cells X2.out 1
  have d2 : w2.cell? ⟨w.heap.size, 2, none⟩ = some (.int .i64 a) := box_cells X2.out 2
  have d3 : w2.cell? ⟨w.heap.size, 3, none⟩ = some (.int .i64 b) := box_cells X2.out 3
  have d4 : w2.cell? ⟨w.heap.size, 4, none⟩ = some (.int .i64 c) := box_cells X2.out 4
  have d5 : w2.cell? ⟨w.heap.size, 5, none⟩ = some (.int .u64 num) := box_cells X2.out 5
  have d6 : w2.cell? ⟨w.heap.size, 6, none⟩ = some (.string nm) := box_cells X2.out 6
  go_wp2_with fail
  refine (HWi.out _ (box_old X2.out)).mono ?_
  rintro e w3 ⟨rfl, hb⟩
  have X3 : Hid (Below (w.heap.size + 1) (w.alloc (Obj.cells #[.int .i64 op, .int .i64 u, .int .i64 a, .int .i64 b, .int .i64 c, .int .u64 num, .string nm] 39 (0, 0))) w3) := box_next X2.out hb
  clear hb
  clear d0 d1 d2 d3 d4 d5 d6
  have d0 : w3.cell? ⟨w.heap.size, 0, none⟩ = some (.int .i64 op) := box_cells X3.out 0
  have d1 : w3.cell? ⟨w.heap.size, 1, none⟩ = some (.int .i64 u) := box_cells X3.out 1
  have d2 : w3.cell? ⟨w.heap.size, 2, none⟩ = some (.int .i64 a) := box_cells X3.out 2
  have d3 : w3.cell? ⟨w.heap.size, 3, none⟩ = some (.int .i64 b) := box_cells X3.out 3
  have d4 : w3.cell? ⟨w.heap.size, 4, none⟩ = some (.int .i64 c) := box_cells X3.out 4
  have d5 : w3.cell? ⟨w.heap.size, 5, none⟩ = some (.int .u64 num) := box_cells X3.out 5
  have d6 : w3.cell? ⟨w.heap.size, 6, none⟩ = some (.string nm) := box_cells X3.out 6
  go_wp2_with fail
  clear HSo HWi HEx HI HPt qu1 qu2 hia hib hic X1 X2
  have hS3 := HS.out.below (box_old X3.out)
  obtain ⟨ad, cp, rfl, hc, -⟩ := hS3.form
  obtain ⟨D, hm, hF⟩ := hS3.m1
  have hrun := hF.look lawN Tryz.underlying33 hm ⟨op, u, a, b, c, num, nm⟩ HOK.out
  have hrunD := hF.look lawN Tryz.underlying33 hm.drew ⟨op, u, a, b, c, num, nm⟩ HOK.out
  have hrunE := hF.look lawN Tryz.underlying33 hm.drew.drew ⟨op, u, a, b, c, num, nm⟩ HOK.out
  have c0 : w3.cell? ⟨B, 0, none⟩ = some (.int .i64 lim) := blk_cell hS3.blk 0
  have c1 : w3.cell? ⟨B, 1, none⟩ = some (.slice ad L.length cp) := blk_cell hS3.blk 1
  have c2 : w3.cell? ⟨B, 2, none⟩ = some (.map (some M1)) := blk_cell hS3.blk 2
  clear hS3 hm hF
  unfold numF at hrun hrunD hrunE
  cases hp : pos ⟨op, u, a, b, c, num, nm⟩ L with
  | some i =>
    rw [hp] at hrun hrunD hrunE
    go_region
    go_wp2
    first | exact HOLD.out _ i hp (box_old X3.out).drew | (go_ret2; exact HOLD.out _ i hp (box_old X3.out).drew)
  | none =>
    rw [hp] at hrun hrunD hrunE
    have HPS : Hid (pos ⟨op, u, a, b, c, num, nm⟩ L = none) := hp
    clear hp
    by_cases hf : 0 < lim ∧ lim ≤ (L.length : Int)
    · have q1 : decide (0 < lim) = true := decide_eq_true hf.1
      have q2 : decide (lim ≤ (L.length : Int)) = true := decide_eq_true hf.2
      go_region
      go_wp2_with fail
      go_region
      go_wp2
      first | exact HFUL.out _ HPS.out hf (box_old X3.out).drew.drew | (go_ret2; exact HFUL.out _ HPS.out hf (box_old X3.out).drew.drew)
    · have HNW : Hid (∀ w', AddP 36 w B0 B lim (L ++ [⟨op, u, a, b, c, num, nm⟩]) (.slice ad L.length cp) (some M1) (some M2) w' → PP (.returned (.tuple #[.int .i64 ((L.length : Int) + 1), .int .i64 0])) w') := fun w' hA => HNEW.out w' HPS.out hf hA
      clear HNEW HFUL HOLD
      by_cases h1 : 0 < lim
      · have q1 : decide (0 < lim) = true := decide_eq_true h1
        have q2 : decide (lim ≤ (L.length : Int)) = false := decide_eq_false (fun e => hf ⟨h1, e⟩)
        clear hf
        go_region
        go_wp2_with fail
        go_region
        go_wp2_with fail
        clear q1 q2 h1
        have hx3 := (HS.out.below (box_old X3.out)).x
        have HX1 : Hid (SX 36 w3.drew.drew B0 B lim L (.slice ad L.length cp) M1 M2 (numF L) (varF L) L.length L.length) := ⟨hx3.blk, hx3.row, hx3.m1, hx3.m2, hx3.ne⟩
        have HBX : Hid (w3.drew.drew.heap[w.heap.size]? = some (Obj.cells #[.int .i64 op, .int .i64 u, .int .i64 a, .int .i64 b, .int .i64 c, .int .u64 num, .string nm] 39 (0, 0))) := (X3.out.block w.heap.size (by omega)).trans (heap_alloc_new w _)
        have HOB : Hid ((Value.slice ad L.length cp).ownBlock ≠ some w.heap.size) := fun e => by have := HS.out.lt (Or.inr (Or.inl e)); omega
        have HK1 : Hid (Kp w w3.drew.drew B (.slice ad L.length cp) (some M1) (some M2)) := Kp.of_below (box_old X3.out).drew.drew
        have HM : Hid (∀ k, M1 = k ∨ M2 = k → Own B (.slice ad L.length cp) (some M1) (some M2) k ∨ w.heap.size ≤ k) := fun k hk => by
          rcases hk with rfl | rfl
          · exact Or.inl (Or.inr (Or.inr (Or.inl rfl)))
          · exact Or.inl (Or.inr (Or.inr (Or.inr rfl)))
        have HSZ : Hid (w.heap.size ≤ w3.drew.drew.heap.size) := HK1.out.size
        have hne3 : ¬ B = w.heap.size := by have := HS.out.lt (Or.inl rfl); omega
        obtain ⟨W1, hW1⟩ : ∃ W1, w3.drew.drew = W1 := ⟨_, rfl⟩
        rw [hW1] at HBX HX1 HK1 HSZ ⊢
        obtain ⟨bx, hbxe⟩ : ∃ bx, w.heap.size = bx := ⟨_, rfl⟩
        have HBE : Hid (w.heap.size = bx) := hbxe
        rw [hbxe] at HBX HOB hne3 ⊢
        clear hW1 hbxe hx3 d0 d1 d2 d3 d4 d5 d6 c0 c1 c2 hrun hrunD
        have HR1 : Hid (W1.ownsRow B0 39 7 (.slice ad L.length cp) L.length (flat L)) := HX1.out.row
        have hlt1 : B < W1.heap.size := (Array.getElem?_eq_some_iff.1 HX1.out.blk).1
        have hlt2 : bx < W1.heap.size := (Array.getElem?_eq_some_iff.1 HBX.out).1
        have hB1 : B0 ≤ W1.heap.size := by have := HBB.out; have := HSZ.out; omega
        have hne1 : ¬ B = W1.heap.size := by omega
        have hne2 : ¬ bx = W1.heap.size := by omega
        have c1 : W1.cell? ⟨B, 1, none⟩ = some (.slice ad L.length cp) := blk_cell HX1.out.blk 1
        have c2 : W1.cell? ⟨B, 2, none⟩ = some (.map (some M1)) := blk_cell HX1.out.blk 2
        have d0 : W1.cell? ⟨bx, 0, none⟩ = some (.int .i64 op) := blk_cell HBX.out 0
        have d1 : W1.cell? ⟨bx, 1, none⟩ = some (.int .i64 u) := blk_cell HBX.out 1
        have d2 : W1.cell? ⟨bx, 2, none⟩ = some (.int .i64 a) := blk_cell HBX.out 2
        have d3 : W1.cell? ⟨bx, 3, none⟩ = some (.int .i64 b) := blk_cell HBX.out 3
        have d4 : W1.cell? ⟨bx, 4, none⟩ = some (.int .i64 c) := blk_cell HBX.out 4
        have d5 : W1.cell? ⟨bx, 5, none⟩ = some (.int .u64 num) := blk_cell HBX.out 5
        have d6 : W1.cell? ⟨bx, 6, none⟩ = some (.string nm) := blk_cell HBX.out 6
        obtain ⟨FL, hFL⟩ : ∃ FL, flat L = FL := ⟨_, rfl⟩
        have HFL : Hid (flat L = FL) := hFL
        rw [hFL] at HR1
        clear hFL
        obtain ⟨n, hn⟩ : ∃ n, L.length = n := ⟨_, rfl⟩
        have HN : Hid (L.length = n) := hn
        rw [hn] at HR1 HX1 c1 hl hc HOB
        clear hn
        go_region_law (first
          | (refine step_append_lies _ (by rfl) _ _ _ (by rfl) B0 39 i0 _ 7 64 Tryz.underlying32 hi hz0 hz1 hz2 rfl (by omega) (.slice ad n cp) n FL (by rfl) ((HR1.out.alloc _).drew) ⟨W1.heap.size, 0, none⟩ 1 1 [.int .i64 op, .int .i64 u, .int .i64 a, .int .i64 b, .int .i64 c, .int .u64 num, .string nm] (by rfl) (by rfl) (World.news_of_block (cs := #[.int .i64 op, .int .i64 u, .int .i64 a, .int .i64 b, .int .i64 c, .int .u64 num, .string nm]) (t := 39) (fr := (0, 0)) (heap_alloc_new W1 _)) (by intro u hu; simp at hu; rcases hu with rfl | rfl | rfl | rfl | rfl | rfl | rfl <;> rfl) (by omega) (by unfold maxLen; omega) (by omega) (by simp; omega) (W1.heap.size + 1) (by simp) ?_; intro g4 cap4 w4 hown4 hgrow4 hat4 hlt4; have k7 : w4.heap[B]? = some (.cells #[.int .i64 lim, .slice ad n cp, .map (some M1), .map (some M2)] 36 (0, 0)) := ((hgrow4.block B (by simp; omega) (own_ne HR1.out HX1.out.blk (by decide))).trans ((Below.heap_alloc _ _ _ (by omega)).trans HX1.out.blk)); have k8 := blk_cell k7 1; have k9 : w4.frozen? ⟨B, 1, none⟩ = false := (by simp [World.frozen?, k7]); have HK : Hid (w4.ownsRow B0 39 7 (.slice (some ⟨g4, 0, none⟩) (n + 1) cap4) (n + 1) (FL ++ [.int .i64 op, .int .i64 u, .int .i64 a, .int .i64 b, .int .i64 c, .int .u64 num, .string nm]) ∧ (W1.alloc (Obj.cells #[.int .i64 op, .int .i64 u, .int .i64 a, .int .i64 b, .int .i64 c, .int .u64 num, .string nm] 39 (0, 0))).grownBy w4 (Value.slice ad n cp).ownBlock ∧ ((Value.slice ad n cp).ownBlock = some g4 ∨ g4 = W1.heap.size + 1)) := ⟨hown4, ⟨hgrow4.os, hgrow4.tape, hgrow4.output, hgrow4.size, hgrow4.block⟩, hat4⟩; clear hown4 hgrow4 hat4 hlt4))
        all_goals go_wp2_with fail
        all_goals
          (have hX5 := HX1.out.grow (x := ⟨op, u, a, b, c, num, nm⟩) (by decide) (by rw [HN.out, HFL.out]; exact HK.out.1) HK.out.2.1
           rw [HN.out] at hX5
           have hbx4 : w4.heap[bx]? = some (Obj.cells #[.int .i64 op, .int .i64 u, .int .i64 a, .int .i64 b, .int .i64 c, .int .u64 num, .string nm] 39 (0, 0)) := (HK.out.2.1.block bx (by simp; omega) (fun e => HOB.out e.symm)).trans ((Below.heap_alloc _ _ _ hlt2).trans HBX.out)
           have hbx5 := ((gb_set w4 ⟨B, 1, none⟩ (.slice (some ⟨g4, 0, none⟩) (n + 1) cap4)).block bx (Array.getElem?_eq_some_iff.1 hbx4).1 (fun e => hne3 (by cases e; rfl))).trans hbx4
           obtain ⟨w5, hw5⟩ : ∃ w5, w4.setCell ⟨B, 1, none⟩ (.slice (some ⟨g4, 0, none⟩) (n + 1) cap4) = w5 := ⟨_, rfl⟩
           have HW5 : Hid (w4.setCell ⟨B, 1, none⟩ (.slice (some ⟨g4, 0, none⟩) (n + 1) cap4) = w5) := hw5
           rw [hw5] at hX5 hbx5 ⊢
           clear d0 d1 d2 d3 d4 d5 d6 c1 c2 hw5 hbx4
           obtain ⟨D, hm, hF⟩ := hX5.m1
           obtain ⟨w6, hrun6, hm6, hg6⟩ := hm.drew.update lawN Tryz.underlying33 (by unfold maxLen; omega) HKL.out (plainElem_int Tryz.underlying3 (wf_i (x := (n : Int) + 1) (by unfold I64; omega)))
           have d0 : w5.cell? ⟨bx, 0, none⟩ = some (.int .i64 op) := blk_cell hbx5 0
           have d1 : w5.cell? ⟨bx, 1, none⟩ = some (.int .i64 u) := blk_cell hbx5 1
           have d2 : w5.cell? ⟨bx, 2, none⟩ = some (.int .i64 a) := blk_cell hbx5 2
           have d3 : w5.cell? ⟨bx, 3, none⟩ = some (.int .i64 b) := blk_cell hbx5 3
           have d4 : w5.cell? ⟨bx, 4, none⟩ = some (.int .i64 c) := blk_cell hbx5 4
           have d5 : w5.cell? ⟨bx, 5, none⟩ = some (.int .u64 num) := blk_cell hbx5 5
           have d6 : w5.cell? ⟨bx, 6, none⟩ = some (.string nm) := blk_cell hbx5 6
           have c1 : w5.cell? ⟨B, 1, none⟩ = some (.slice (some ⟨g4, 0, none⟩) (n + 1) cap4) := blk_cell hX5.blk 1
           have c2 : w5.cell? ⟨B, 2, none⟩ = some (.map (some M1)) := blk_cell hX5.blk 2
           have hX5d : SX 36 w5.drew B0 B lim (L ++ [⟨op, u, a, b, c, num, nm⟩]) (.slice (some ⟨g4, 0, none⟩) (n + 1) cap4) M1 M2 (numF L) (varF L) n n := ⟨hX5.blk, hX5.row, hX5.m1, hX5.m2, hX5.ne⟩
           have hX6 := hX5d.put1 hm6 (hF.put (dec := ndDec) lawN node_inj HKL.out ((n : Int) + 1)) hg6
           have HX6 : Hid (SX 36 w6 B0 B lim (L ++ [⟨op, u, a, b, c, num, nm⟩]) (.slice (some ⟨g4, 0, none⟩) (n + 1) cap4) M1 M2 (fun y => @ite _ (y = ⟨op, u, a, b, c, num, nm⟩) (ndDec y ⟨op, u, a, b, c, num, nm⟩) (some ((n : Int) + 1)) (numF L y)) (varF L) (n + 1) n) := hX6
           have hMb : some bx ≠ some M1 := fun e => by injection e with e; have := HS.out.lt (Or.inr (Or.inr (Or.inl rfl))); have := HBE.out; omega
           have hbx6 : w6.heap[bx]? = some (Obj.cells #[.int .i64 op, .int .i64 u, .int .i64 a, .int .i64 b, .int .i64 c, .int .u64 num, .string nm] 39 (0, 0)) := (hg6.block bx (Array.getElem?_eq_some_iff.1 hbx5).1 hMb).trans hbx5
           have HK6 : Hid (Kp w w6 B (.slice ad L.length cp) (some M1) (some M2)) := add_kp HK1.out (fun k e => HM.out k (Or.inl e)) (by rw [HN.out]; exact HK.out.2.1) (by rw [HW5.out]; exact hg6)
           have HAT : Hid ((Value.slice ad L.length cp).ownBlock = some g4 ∨ w.heap.size ≤ g4) := by
             show _ ∨ _
             rw [HN.out]
             rcases HK.out.2.2 with e | e
             · exact Or.inl e
             · exact Or.inr (by have := HSZ.out; omega)
           have c16 : w6.cell? ⟨B, 1, none⟩ = some (.slice (some ⟨g4, 0, none⟩) (n + 1) cap4) := blk_cell hX6.blk 1
           have d06 : w6.cell? ⟨bx, 0, none⟩ = some (.int .i64 op) := blk_cell hbx6 0
           clear hm hm6 hg6 hF hX5 hbx5 hX5d hX6 hbx6 hMb
           go_region
           all_goals go_wp2
           all_goals
             (have HE : Hid (PP (.returned (.tuple #[.int .i64 ((n : Int) + 1), .int .i64 0])) w6) := by
                obtain hnn := HN.out
                subst hnn
                exact HNW.out _ (add_fin HS.out HBB.out hl HOK.out HRF.out HPS.out HK6.out HM.out HAT.out HX6.out (Nat.le_succ _) HF2.out)
              first | exact HE.out | (go_ret2; exact HE.out)))
      · have q1 : decide (0 < lim) = false := decide_eq_false h1
        clear hf
        go_region
        go_wp2_with fail
        go_region
        go_wp2_with fail
        clear q1 h1
        have hx3 := (HS.out.below (box_old X3.out)).x
        have HX1 : Hid (SX 36 w3.drew.drew B0 B lim L (.slice ad L.length cp) M1 M2 (numF L) (varF L) L.length L.length) := ⟨hx3.blk, hx3.row, hx3.m1, hx3.m2, hx3.ne⟩
        have HBX : Hid (w3.drew.drew.heap[w.heap.size]? = some (Obj.cells #[.int .i64 op, .int .i64 u, .int .i64 a, .int .i64 b, .int .i64 c, .int .u64 num, .string nm] 39 (0, 0))) := (X3.out.block w.heap.size (by omega)).trans (heap_alloc_new w _)
        have HOB : Hid ((Value.slice ad L.length cp).ownBlock ≠ some w.heap.size) := fun e => by have := HS.out.lt (Or.inr (Or.inl e)); omega
        have HK1 : Hid (Kp w w3.drew.drew B (.slice ad L.length cp) (some M1) (some M2)) := Kp.of_below (box_old X3.out).drew.drew
        have HM : Hid (∀ k, M1 = k ∨ M2 = k → Own B (.slice ad L.length cp) (some M1) (some M2) k ∨ w.heap.size ≤ k) := fun k hk => by
          rcases hk with rfl | rfl
          · exact Or.inl (Or.inr (Or.inr (Or.inl rfl)))
          · exact Or.inl (Or.inr (Or.inr (Or.inr rfl)))
        have HSZ : Hid (w.heap.size ≤ w3.drew.drew.heap.size) := HK1.out.size
        have hne3 : ¬ B = w.heap.size := by have := HS.out.lt (Or.inl rfl); omega
        obtain ⟨W1, hW1⟩ : ∃ W1, w3.drew.drew = W1 := ⟨_, rfl⟩
        rw [hW1] at HBX HX1 HK1 HSZ ⊢
        obtain ⟨bx, hbxe⟩ : ∃ bx, w.heap.size = bx := ⟨_, rfl⟩
        have HBE : Hid (w.heap.size = bx) := hbxe
        rw [hbxe] at HBX HOB hne3 ⊢
        clear hW1 hbxe hx3 d0 d1 d2 d3 d4 d5 d6 c0 c1 c2 hrun hrunD
        have HR1 : Hid (W1.ownsRow B0 39 7 (.slice ad L.length cp) L.length (flat L)) := HX1.out.row
        have hlt1 : B < W1.heap.size := (Array.getElem?_eq_some_iff.1 HX1.out.blk).1
        have hlt2 : bx < W1.heap.size := (Array.getElem?_eq_some_iff.1 HBX.out).1
        have hB1 : B0 ≤ W1.heap.size := by have := HBB.out; have := HSZ.out; omega
        have hne1 : ¬ B = W1.heap.size := by omega
        have hne2 : ¬ bx = W1.heap.size := by omega
        have c1 : W1.cell? ⟨B, 1, none⟩ = some (.slice ad L.length cp) := blk_cell HX1.out.blk 1
        have c2 : W1.cell? ⟨B, 2, none⟩ = some (.map (some M1)) := blk_cell HX1.out.blk 2
        have d0 : W1.cell? ⟨bx, 0, none⟩ = some (.int .i64 op) := blk_cell HBX.out 0
        have d1 : W1.cell? ⟨bx, 1, none⟩ = some (.int .i64 u) := blk_cell HBX.out 1
        have d2 : W1.cell? ⟨bx, 2, none⟩ = some (.int .i64 a) := blk_cell HBX.out 2
        have d3 : W1.cell? ⟨bx, 3, none⟩ = some (.int .i64 b) := blk_cell HBX.out 3
        have d4 : W1.cell? ⟨bx, 4, none⟩ = some (.int .i64 c) := blk_cell HBX.out 4
        have d5 : W1.cell? ⟨bx, 5, none⟩ = some (.int .u64 num) := blk_cell HBX.out 5
        have d6 : W1.cell? ⟨bx, 6, none⟩ = some (.string nm) := blk_cell HBX.out 6
        obtain ⟨FL, hFL⟩ : ∃ FL, flat L = FL := ⟨_, rfl⟩
        have HFL : Hid (flat L = FL) := hFL
        rw [hFL] at HR1
        clear hFL
        obtain ⟨n, hn⟩ : ∃ n, L.length = n := ⟨_, rfl⟩
        have HN : Hid (L.length = n) := hn
        rw [hn] at HR1 HX1 c1 hl hc HOB
        clear hn
        go_region_law (first
          | (refine step_append_lies _ (by rfl) _ _ _ (by rfl) B0 39 i0 _ 7 64 Tryz.underlying32 hi hz0 hz1 hz2 rfl (by omega) (.slice ad n cp) n FL (by rfl) ((HR1.out.alloc _).drew) ⟨W1.heap.size, 0, none⟩ 1 1 [.int .i64 op, .int .i64 u, .int .i64 a, .int .i64 b, .int .i64 c, .int .u64 num, .string nm] (by rfl) (by rfl) (World.news_of_block (cs := #[.int .i64 op, .int .i64 u, .int .i64 a, .int .i64 b, .int .i64 c, .int .u64 num, .string nm]) (t := 39) (fr := (0, 0)) (heap_alloc_new W1 _)) (by intro u hu; simp at hu; rcases hu with rfl | rfl | rfl | rfl | rfl | rfl | rfl <;> rfl) (by omega) (by unfold maxLen; omega) (by omega) (by simp; omega) (W1.heap.size + 1) (by simp) ?_; intro g4 cap4 w4 hown4 hgrow4 hat4 hlt4; have k7 : w4.heap[B]? = some (.cells #[.int .i64 lim, .slice ad n cp, .map (some M1), .map (some M2)] 36 (0, 0)) := ((hgrow4.block B (by simp; omega) (own_ne HR1.out HX1.out.blk (by decide))).trans ((Below.heap_alloc _ _ _ (by omega)).trans HX1.out.blk)); have k8 := blk_cell k7 1; have k9 : w4.frozen? ⟨B, 1, none⟩ = false := (by simp [World.frozen?, k7]); have HK : Hid (w4.ownsRow B0 39 7 (.slice (some ⟨g4, 0, none⟩) (n + 1) cap4) (n + 1) (FL ++ [.int .i64 op, .int .i64 u, .int .i64 a, .int .i64 b, .int .i64 c, .int .u64 num, .string nm]) ∧ (W1.alloc (Obj.cells #[.int .i64 op, .int .i64 u, .int .i64 a, .int .i64 b, .int .i64 c, .int .u64 num, .string nm] 39 (0, 0))).grownBy w4 (Value.slice ad n cp).ownBlock ∧ ((Value.slice ad n cp).ownBlock = some g4 ∨ g4 = W1.heap.size + 1)) := ⟨hown4, ⟨hgrow4.os, hgrow4.tape, hgrow4.output, hgrow4.size, hgrow4.block⟩, hat4⟩; clear hown4 hgrow4 hat4 hlt4))
        all_goals go_wp2_with fail
        all_goals
          (have hX5 := HX1.out.grow (x := ⟨op, u, a, b, c, num, nm⟩) (by decide) (by rw [HN.out, HFL.out]; exact HK.out.1) HK.out.2.1
           rw [HN.out] at hX5
           have hbx4 : w4.heap[bx]? = some (Obj.cells #[.int .i64 op, .int .i64 u, .int .i64 a, .int .i64 b, .int .i64 c, .int .u64 num, .string nm] 39 (0, 0)) := (HK.out.2.1.block bx (by simp; omega) (fun e => HOB.out e.symm)).trans ((Below.heap_alloc _ _ _ hlt2).trans HBX.out)
           have hbx5 := ((gb_set w4 ⟨B, 1, none⟩ (.slice (some ⟨g4, 0, none⟩) (n + 1) cap4)).block bx (Array.getElem?_eq_some_iff.1 hbx4).1 (fun e => hne3 (by cases e; rfl))).trans hbx4
           obtain ⟨w5, hw5⟩ : ∃ w5, w4.setCell ⟨B, 1, none⟩ (.slice (some ⟨g4, 0, none⟩) (n + 1) cap4) = w5 := ⟨_, rfl⟩
           have HW5 : Hid (w4.setCell ⟨B, 1, none⟩ (.slice (some ⟨g4, 0, none⟩) (n + 1) cap4) = w5) := hw5
           rw [hw5] at hX5 hbx5 ⊢
           clear d0 d1 d2 d3 d4 d5 d6 c1 c2 hw5 hbx4
           obtain ⟨D, hm, hF⟩ := hX5.m1
           obtain ⟨w6, hrun6, hm6, hg6⟩ := hm.drew.update lawN Tryz.underlying33 (by unfold maxLen; omega) HKL.out (plainElem_int Tryz.underlying3 (wf_i (x := (n : Int) + 1) (by unfold I64; omega)))
           have d0 : w5.cell? ⟨bx, 0, none⟩ = some (.int .i64 op) := blk_cell hbx5 0
           have d1 : w5.cell? ⟨bx, 1, none⟩ = some (.int .i64 u) := blk_cell hbx5 1
           have d2 : w5.cell? ⟨bx, 2, none⟩ = some (.int .i64 a) := blk_cell hbx5 2
           have d3 : w5.cell? ⟨bx, 3, none⟩ = some (.int .i64 b) := blk_cell hbx5 3
           have d4 : w5.cell? ⟨bx, 4, none⟩ = some (.int .i64 c) := blk_cell hbx5 4
           have d5 : w5.cell? ⟨bx, 5, none⟩ = some (.int .u64 num) := blk_cell hbx5 5
           have d6 : w5.cell? ⟨bx, 6, none⟩ = some (.string nm) := blk_cell hbx5 6
           have c1 : w5.cell? ⟨B, 1, none⟩ = some (.slice (some ⟨g4, 0, none⟩) (n + 1) cap4) := blk_cell hX5.blk 1
           have c2 : w5.cell? ⟨B, 2, none⟩ = some (.map (some M1)) := blk_cell hX5.blk 2
           have hX5d : SX 36 w5.drew B0 B lim (L ++ [⟨op, u, a, b, c, num, nm⟩]) (.slice (some ⟨g4, 0, none⟩) (n + 1) cap4) M1 M2 (numF L) (varF L) n n := ⟨hX5.blk, hX5.row, hX5.m1, hX5.m2, hX5.ne⟩
           have hX6 := hX5d.put1 hm6 (hF.put (dec := ndDec) lawN node_inj HKL.out ((n : Int) + 1)) hg6
           have HX6 : Hid (SX 36 w6 B0 B lim (L ++ [⟨op, u, a, b, c, num, nm⟩]) (.slice (some ⟨g4, 0, none⟩) (n + 1) cap4) M1 M2 (fun y => @ite _ (y = ⟨op, u, a, b, c, num, nm⟩) (ndDec y ⟨op, u, a, b, c, num, nm⟩) (some ((n : Int) + 1)) (numF L y)) (varF L) (n + 1) n) := hX6
           have hMb : some bx ≠ some M1 := fun e => by injection e with e; have := HS.out.lt (Or.inr (Or.inr (Or.inl rfl))); have := HBE.out; omega
           have hbx6 : w6.heap[bx]? = some (Obj.cells #[.int .i64 op, .int .i64 u, .int .i64 a, .int .i64 b, .int .i64 c, .int .u64 num, .string nm] 39 (0, 0)) := (hg6.block bx (Array.getElem?_eq_some_iff.1 hbx5).1 hMb).trans hbx5
           have HK6 : Hid (Kp w w6 B (.slice ad L.length cp) (some M1) (some M2)) := add_kp HK1.out (fun k e => HM.out k (Or.inl e)) (by rw [HN.out]; exact HK.out.2.1) (by rw [HW5.out]; exact hg6)
           have HAT : Hid ((Value.slice ad L.length cp).ownBlock = some g4 ∨ w.heap.size ≤ g4) := by
             show _ ∨ _
             rw [HN.out]
             rcases HK.out.2.2 with e | e
             · exact Or.inl e
             · exact Or.inr (by have := HSZ.out; omega)
           have c16 : w6.cell? ⟨B, 1, none⟩ = some (.slice (some ⟨g4, 0, none⟩) (n + 1) cap4) := blk_cell hX6.blk 1
           have d06 : w6.cell? ⟨bx, 0, none⟩ = some (.int .i64 op) := blk_cell hbx6 0
           clear hm hm6 hg6 hF hX5 hbx5 hX5d hX6 hbx6 hMb
           go_region
           all_goals go_wp2
           all_goals
             (have HE : Hid (PP (.returned (.tuple #[.int .i64 ((n : Int) + 1), .int .i64 0])) w6) := by
                obtain hnn := HN.out
                subst hnn
                exact HNW.out _ (add_fin HS.out HBB.out hl HOK.out HRF.out HPS.out HK6.out HM.out HAT.out HX6.out (Nat.le_succ _) HF2.out)
              first | exact HE.out | (go_ret2; exact HE.out)))
end Go.Proofs.YtkbfoahfehfjnaaGreatDoor
