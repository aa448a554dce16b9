import Derived.Test.YtcmknjocmpdicaaDoorFmKa
namespace Go.Proofs.YtcmknjocmpdicaaDoor
open Go.ChangeShapes Go.WideShapes Go.ChangeAt Go.RowKit Go.Bn
attribute [local go_sem] Oper.semAt_some

set_option maxRecDepth 100000 in
set_option maxHeartbeats 16000000 in
theorem formExpr_any (w0 : World) (m : Nat) (k x : Int) (s : ByteArray) (ad : Option Addr) (len cap : Nat) (W : World) (hex : EX w0 (m + 1) [.int .i64 k, .int .u64 x, .string s, .slice ad len cap]) (hW : Below w0.heap.size w0 W) (hcs : CS w0 m (.slice ad len cap) ≤ 40000000) (hT : TBL 1 W) (hGB : 1 < W.heap.size) : Calls Tryd.prog 29 #[.agg #[.int .i64 k, .int .u64 x, .string s, .slice ad len cap]] W (BP (FE w0 (m + 1) [.int .i64 k, .int .u64 x, .string s, .slice ad len cap]) W) := by
  obtain ⟨W5, hW5⟩ : ∃ W5, ((((W.alloc (.cells #[.int .i64 k, .int .u64 x, .string s, .slice ad len cap] 40)).alloc (.cells #[.bool false] 4)).alloc (.cells #[.int .i64 k, .int .u64 x, .string s, .slice ad len cap] 40)).alloc (.cells #[.slice (some ⟨W.heap.size + 1 + 1, 0, none⟩) 1 1] 38)).alloc (.cells #[.func (.func 32) #[] #[]] 62) = W5 := ⟨_, rfl⟩
  have HW5 : Hid (Below W.heap.size W W5 ∧ W5.heap.size = W.heap.size + 5 ∧ W5.heap[W.heap.size + 1]? = some (.cells #[.bool false] 4 (0, 0)) ∧ W5.heap[W.heap.size + 1 + 1]? = some (.cells #[.int .i64 k, .int .u64 x, .string s, .slice ad len cap] 40 (0, 0)) ∧ W5.heap[W.heap.size + 1 + 1 + 1]? = some (.cells #[.slice (some ⟨W.heap.size + 1 + 1, 0, none⟩) 1 1] 38 (0, 0)) ∧ W5.heap[W.heap.size + 1 + 1 + 1 + 1]? = some (.cells #[.func (.func 32) #[] #[]] 62 (0, 0))) := by
    have b1 := lbel W (.cells #[.int .i64 k, .int .u64 x, .string s, .slice ad len cap] 40)
    have s1 : (W.alloc (.cells #[.int .i64 k, .int .u64 x, .string s, .slice ad len cap] 40)).heap.size = W.heap.size + 1 := by simp
    generalize W.alloc (.cells #[.int .i64 k, .int .u64 x, .string s, .slice ad len cap] 40) = x1 at *
    have b2 := lbel x1 (.cells #[.bool false] 4)
    have n2 := heap_alloc_new x1 (.cells #[.bool false] 4)
    have s2 : (x1.alloc (.cells #[.bool false] 4)).heap.size = x1.heap.size + 1 := by simp
    generalize x1.alloc (.cells #[.bool false] 4) = x2 at *
    have b3 := lbel x2 (.cells #[.int .i64 k, .int .u64 x, .string s, .slice ad len cap] 40)
    have n3 := heap_alloc_new x2 (.cells #[.int .i64 k, .int .u64 x, .string s, .slice ad len cap] 40)
    have s3 : (x2.alloc (.cells #[.int .i64 k, .int .u64 x, .string s, .slice ad len cap] 40)).heap.size = x2.heap.size + 1 := by simp
    generalize x2.alloc (.cells #[.int .i64 k, .int .u64 x, .string s, .slice ad len cap] 40) = x3 at *
    have b4 := lbel x3 (.cells #[.slice (some ⟨W.heap.size + 1 + 1, 0, none⟩) 1 1] 38)
    have n4 := heap_alloc_new x3 (.cells #[.slice (some ⟨W.heap.size + 1 + 1, 0, none⟩) 1 1] 38)
    have s4 : (x3.alloc (.cells #[.slice (some ⟨W.heap.size + 1 + 1, 0, none⟩) 1 1] 38)).heap.size = x3.heap.size + 1 := by simp
    generalize x3.alloc (.cells #[.slice (some ⟨W.heap.size + 1 + 1, 0, none⟩) 1 1] 38) = x4 at *
    have b5 := lbel x4 (.cells #[.func (.func 32) #[] #[]] 62)
    have n5 := heap_alloc_new x4 (.cells #[.func (.func 32) #[] #[]] 62)
    have s5 : (x4.alloc (.cells #[.func (.func 32) #[] #[]] 62)).heap.size = x4.heap.size + 1 := by simp
    rw [hW5] at b5 n5 s5
    rw [s1] at n2
    rw [s2, s1] at n3
    rw [s3, s2, s1] at n4
    rw [s4, s3, s2, s1] at n5
    exact ⟨bnext (bnext (bnext (bnext b1 b2) b3) b4) b5, by omega, (b5.block _ (by omega)).trans ((b4.block _ (by omega)).trans ((b3.block _ (by omega)).trans n2)), (b5.block _ (by omega)).trans ((b4.block _ (by omega)).trans n3), (b5.block _ (by omega)).trans n4, n5⟩
  have HT : Hid (TBL 1 W ∧ 1 < W.heap.size) := ⟨hT, hGB⟩
  obtain ⟨FA, hFA⟩ : ∃ FA, FE w0 (m + 1) [.int .i64 k, .int .u64 x, .string s, .slice ad len cap] = FA := ⟨_, rfl⟩
  have HLI : Hid (LI W5 FA [(.slice (some ⟨W.heap.size + 1 + 1, 0, none⟩) 1 1, m + 1)] ∧ wtE W5 [(.slice (some ⟨W.heap.size + 1 + 1, 0, none⟩) 1 1, m + 1)] ≤ 50000000) := by
    obtain ⟨h1, h2⟩ := LI.root hex (bnext hW HW5.out.1) HW5.out.2.2.2.1
    rw [hFA] at h1
    exact ⟨h1, by omega⟩
  rw [hFA]
  have HW5e : Hid (((((W.alloc (.cells #[.int .i64 k, .int .u64 x, .string s, .slice ad len cap] 40)).alloc (.cells #[.bool false] 4)).alloc (.cells #[.int .i64 k, .int .u64 x, .string s, .slice ad len cap] 40)).alloc (.cells #[.slice (some ⟨W.heap.size + 1 + 1, 0, none⟩) 1 1] 38)).alloc (.cells #[.func (.func 32) #[] #[]] 62) = W5) := hW5
  clear hex hW hcs hT hGB hFA hW5
  refine (callsIn_wide (n := 9)).1 ?_
  refine callsIn_of_wp_marks Tryd.func29 rfl trivial ?_ rfl
  simp only [Tryd.ntmps29, List.size_toArray, List.length_cons, List.length_nil, Nat.reduceAdd, Nat.reduceSub, Array.replicate_succ, Array.replicate_zero, List.push_toArray, List.append_toArray, List.nil_append, List.cons_append]
  gi_wp2_with fail
  refine ⟨trivial, (callsIn_wide.2 (allE_any _ _ _ _)).mono ?_⟩
  rintro e w' ⟨rfl, hw'⟩
  subst hw'
  gi_wp2_with fail
  rw [HW5e.out]
  clear HW5e
  have hs5 := HW5.out.2.1
  refine range_all (n := 9) (by omega) (gf := 33) (lb := #[.pointer (some ⟨W.heap.size + 1 + 1 + 1, 0, none⟩), .pointer (some ⟨W.heap.size + 1 + 1 + 1 + 1, 0, none⟩)]) rfl (enters_of Tryd.func33 (by kernel_rfl) rfl) (encs := encN (w := W5) (FA := FA)) (fun _ => rfl) (G := goodN) (Fin := FA)
    (allE_it 8 (by omega) W5 FA _ _ _ _ _ _ (lc HW5.out.2.2.2.2.1 0) (lc HW5.out.2.2.2.2.2 0) (by omega) (by omega) HLI.out.1 HLI.out.2)
    (fun X => { tmps := #[.agg #[.int .i64 k, .int .u64 x, .string s, .slice ad len cap], .pointer (some ⟨W.heap.size, 0, none⟩), .pointer (some ⟨W.heap.size + 1, 0, none⟩), .pointer (some ⟨X.1.1.1, X.1.1.2, none⟩), .agg #[.int .i64 k, .int .u64 x, .string s, .slice ad len cap], .slice (some ⟨W.heap.size + 1 + 1, 0, none⟩) 1 1, .func (.func 33) #[] #[.pointer (some ⟨W.heap.size + 1 + 1 + 1, 0, none⟩), .pointer (some ⟨W.heap.size + 1 + 1 + 1 + 1, 0, none⟩)], .pointer (some ⟨X.1.1.1, X.1.1.2, none⟩), undef, undef, undef, undef, undef, undef, undef, undef, undef, undef, undef, undef, undef, undef, undef, undef, undef, undef, undef, undef, undef, undef, undef, undef, undef, undef, undef, undef, undef, undef, undef, undef, undef, undef, undef, undef, undef, undef, undef, undef, undef, undef, undef, undef, undef, undef, undef, undef, undef, undef, undef, undef, undef, undef, undef, undef, undef, undef, undef, undef, undef], defers := [] })
    (fun W' => Below W.heap.size W W' ∧ W'.heap[W.heap.size + 1]? = some (.cells #[.bool false] 4 (0, 0)) ∧ ¬ FA) ?hR ?assign ?body ?done ?stop
  case hR =>
    rintro W' o ⟨h1, h2, h3⟩
    exact ⟨put_below h1 (by omega) o, (World.putObj_heap_other (by omega)).trans h2, h3⟩
  case assign =>
    intro l X W' K hK
    simp only [encN]
    gi_wp2
    exact hK
  case body =>
    obtain ⟨xo, hxo⟩ : ∃ xo, xo = x := ⟨_, rfl⟩
    obtain ⟨so, hso⟩ : ∃ so, so = s := ⟨_, rfl⟩
    rw [← hxo, ← hso]
    clear hxo hso
    intro l X Wb hBb hlt1 hd1 hl1
    have HR1 : Hid (Wb.heap[W.heap.size + 1]? = some (.cells #[.bool false] 4 (0, 0)) ∧ Below W.heap.size W Wb) := ⟨(hBb.block _ (by omega)).trans HW5.out.2.2.1, bnext HW5.out.1 hBb⟩
    obtain ⟨⟨⟨b, o⟩, kx, x, s, sl⟩, hb, h0, h1, h2, h3, hs, ⟨aS, nS, cS, hsl⟩, hfa⟩ := X
    have hsl : sl = .slice aS nS cS := hsl
    subst hsl
    have HB : Hid (b < W5.heap.size ∧ Below W5.heap.size W5 Wb) := ⟨hb, hBb⟩
    have y0 : Wb.cell? ⟨b, o, none⟩ = some (.int .i64 kx) := (hBb.cell (p := ⟨b, o, none⟩) hb).trans h0
    have y1 : Wb.cell? ⟨b, o + 1, none⟩ = some (.int .u64 x) := (hBb.cell (p := ⟨b, o + 1, none⟩) hb).trans h1
    have y2 : Wb.cell? ⟨b, o + 2, none⟩ = some (.string s) := (hBb.cell (p := ⟨b, o + 2, none⟩) hb).trans h2
    have y3 : Wb.cell? ⟨b, o + 3, none⟩ = some (.slice aS nS cS) := (hBb.cell (p := ⟨b, o + 3, none⟩) hb).trans h3
    have HFa : Hid (FA → okE kx x s (.slice aS nS cS)) := hfa
    have hTb : TBL 1 Wb := fun kn q1 q2 => (HR1.out.2.cell (p := ⟨1, kn * 3 + 1, none⟩) HT.out.2).trans (HT.out.1 kn q1 q2)
    have HTb : Hid (TBL 1 Wb ∧ 1 < Wb.heap.size) := ⟨hTb, Nat.lt_of_lt_of_le HT.out.2 HR1.out.2.size⟩
    show Code.wpIn (Fence.wide.inRound l) _ Tryd.prog _ (RPost W5.heap.size (okE kx x s (.slice aS nS cS)) _ Wb) { tmps := #[.agg #[.int .i64 k, .int .u64 xo, .string so, .slice ad len cap], .pointer (some ⟨W.heap.size, 0, none⟩), .pointer (some ⟨W.heap.size + 1, 0, none⟩), .pointer (some ⟨b, o, none⟩), .agg #[.int .i64 k, .int .u64 xo, .string so, .slice ad len cap], .slice (some ⟨W.heap.size + 1 + 1, 0, none⟩) 1 1, .func (.func 33) #[] #[.pointer (some ⟨W.heap.size + 1 + 1 + 1, 0, none⟩), .pointer (some ⟨W.heap.size + 1 + 1 + 1 + 1, 0, none⟩)], .pointer (some ⟨b, o, none⟩), undef, undef, undef, undef, undef, undef, undef, undef, undef, undef, undef, undef, undef, undef, undef, undef, undef, undef, undef, undef, undef, undef, undef, undef, undef, undef, undef, undef, undef, undef, undef, undef, undef, undef, undef, undef, undef, undef, undef, undef, undef, undef, undef, undef, undef, undef, undef, undef, undef, undef, undef, undef, undef, undef, undef, undef, undef, undef, undef, undef, undef], defers := [] } Wb
    clear h0 h1 h2 h3 hb hBb hfa hTb
    have HEnd : Hid (∀ Wc, Below Wb.heap.size Wb Wc → ¬ FA → (Wc.cell? ⟨W.heap.size + 1, 0, none⟩ = some (.bool false) ∧ Wc.frozen? ⟨W.heap.size + 1, 0, none⟩ = false) ∧ ((Below W.heap.size W (Wc.setCell ⟨W.heap.size + 1, 0, none⟩ (.bool false)) ∧ (Wc.setCell ⟨W.heap.size + 1, 0, none⟩ (.bool false)).heap[W.heap.size + 1]? = some (.cells #[.bool false] 4 (0, 0)) ∧ ¬ FA) ∧ (Wc.setCell ⟨W.heap.size + 1, 0, none⟩ (.bool false)).heap[W5.heap.size]? = Wb.heap[W5.heap.size]? ∧ (Wc.setCell ⟨W.heap.size + 1, 0, none⟩ (.bool false)).heap[W5.heap.size + 1]? = Wb.heap[W5.heap.size + 1]?)) := fun Wc hc hn => by
      have r1 : Wc.heap[W.heap.size + 1]? = some (.cells #[.bool false] 4 (0, 0)) := (hc.block _ (Array.getElem?_eq_some_iff.1 HR1.out.1).1).trans HR1.out.1
      refine ⟨⟨lc r1 0, by simp [World.frozen?, r1]⟩, ⟨(bnext HR1.out.2 hc).setCell (by show W.heap.size ≤ W.heap.size + 1; omega) _, heap_setCell_same _ _ 0 _ _ _ r1, hn⟩, ?_, ?_⟩
      · exact (heap_setCell_other _ _ _ _ (by show W5.heap.size ≠ W.heap.size + 1; omega)).trans (hc.block _ (by omega))
      · exact (heap_setCell_other _ _ _ _ (by show W5.heap.size + 1 ≠ W.heap.size + 1; omega)).trans (hc.block _ (by omega))
    have HS : Hid (s.size ≤ maxLen) := hs
    clear hs hs5
    by_cases hk1 : kx < 1
    · skip
      have HKp : Hid (∀ Wc, Below Wb.heap.size Wb Wc → Aside (Below Wb.heap.size Wb Wc) ∧ Wc.cell? ⟨b, o, none⟩ = some (.int .i64 kx) ∧ Wc.cell? ⟨b, o + 1, none⟩ = some (.int .u64 x) ∧ Wc.cell? ⟨b, o + 2, none⟩ = some (.string s) ∧ Wc.cell? ⟨b, o + 3, none⟩ = some (.slice aS nS cS)) := fun Wc hc => ⟨hc, (hc.cell (p := ⟨b, o, none⟩) (Nat.lt_of_lt_of_le HB.out.1 HB.out.2.size)).trans y0, (hc.cell (p := ⟨b, o + 1, none⟩) (Nat.lt_of_lt_of_le HB.out.1 HB.out.2.size)).trans y1, (hc.cell (p := ⟨b, o + 2, none⟩) (Nat.lt_of_lt_of_le HB.out.1 HB.out.2.size)).trans y2, (hc.cell (p := ⟨b, o + 3, none⟩) (Nat.lt_of_lt_of_le HB.out.1 HB.out.2.size)).trans y3⟩
      have hk0 := HKp.out Wb.drew ⟨rfl, rfl, rfl, Nat.le_refl _, fun _ _ => rfl⟩
      gi_wp2_with fail
      refine region_round (S := (fun Wc => Aside (Below Wb.heap.size Wb Wc) ∧ Wc.cell? ⟨b, o, none⟩ = some (.int .i64 kx) ∧ Wc.cell? ⟨b, o + 1, none⟩ = some (.int .u64 x) ∧ Wc.cell? ⟨b, o + 2, none⟩ = some (.string s) ∧ Wc.cell? ⟨b, o + 3, none⟩ = some (.slice aS nS cS))) (by kernel_rfl) (by kernel_rfl) (by rintro ⟨_, _, h⟩; exact h) hk0 (fun hHeld => ?_)
      clear hk0
      refine tqY 0 kO0 (some 8) ?va0 rfl rfl (by kernel_rfl) (fun _ _ _ h => h) ?ha0 (by assumption) ?ra0
      case ha0 => (unfold kO0; intro w hSw; (try dsimp only at hSw); go_simp <;> with_reducible rfl)
      try simp only [Act.put, List.setIfInBounds_toArray, List.set_cons_zero, List.set_cons_succ]
      refine tqY 1 kO1 (some 9) ?va1 rfl rfl (by kernel_rfl) (fun _ _ _ h => h) ?ha1 (by assumption) ?ra1
      case ha1 => (unfold kO1; intro w hSw; (try dsimp only at hSw); go_simp <;> with_reducible rfl)
      try simp only [Act.put, List.setIfInBounds_toArray, List.set_cons_zero, List.set_cons_succ]
      refine tqY 2 kO2 (some 10) ?va2 rfl rfl (by kernel_rfl) (fun _ _ _ h => h) ?ha2 (by assumption) ?ra2
      case ha2 => (unfold kO2; intro w hSw; (try dsimp only at hSw); go_simp <;> with_reducible rfl)
      try simp only [Act.put, List.setIfInBounds_toArray, List.set_cons_zero, List.set_cons_succ]
      refine tqY 3 kO3 (some 11) ?va3 rfl rfl (by kernel_rfl) (fun _ _ _ h => h) ?ha3 (by assumption) ?ra3
      case ha3 => (unfold kO3; intro w hSw; (try dsimp only at hSw); go_simp <;> with_reducible rfl)
      try simp only [Act.put, List.setIfInBounds_toArray, List.set_cons_zero, List.set_cons_succ]
      refine tqY 4 kO4 (some 12) ?va4 rfl rfl (by kernel_rfl) (fun _ _ _ h => h) ?ha4 (by assumption) ?ra4
      case ha4 => (unfold kO4; intro w hSw; (try dsimp only at hSw); go_simp <;> with_reducible rfl)
      try simp only [Act.put, List.setIfInBounds_toArray, List.set_cons_zero, List.set_cons_succ]
      refine tqY 5 kO5 (some 13) ?va5 rfl rfl (by kernel_rfl) (fun _ _ _ h => h) ?ha5 (by assumption) ?ra5
      case ha5 => (unfold kO5; intro w hSw; (try dsimp only at hSw); go_simp <;> with_reducible rfl)
      try simp only [Act.put, List.setIfInBounds_toArray, List.set_cons_zero, List.set_cons_succ]
      refine tqN 6 kO6 (some 14) rfl rfl (by kernel_rfl) (fun _ _ _ h => h) (by assumption) ?ra6
      try simp only [Act.put, List.setIfInBounds_toArray, List.set_cons_zero, List.set_cons_succ]
      refine tqN 7 kO7 (some 15) rfl rfl (by kernel_rfl) (fun _ _ _ h => h) (by assumption) ?ra7
      try simp only [Act.put, List.setIfInBounds_toArray, List.set_cons_zero, List.set_cons_succ]
      refine tqN 8 kO8 (some 16) rfl rfl (by kernel_rfl) (fun _ _ _ h => h) (by assumption) ?ra8
      try simp only [Act.put, List.setIfInBounds_toArray, List.set_cons_zero, List.set_cons_succ]
      refine tqN 9 kO9 (some 17) rfl rfl (by kernel_rfl) (fun _ _ _ h => h) (by assumption) ?ra9
      try simp only [Act.put, List.setIfInBounds_toArray, List.set_cons_zero, List.set_cons_succ]
      refine tqN 10 kO10 (some 18) rfl rfl (by kernel_rfl) (fun _ _ _ h => h) (by assumption) ?ra10
      try simp only [Act.put, List.setIfInBounds_toArray, List.set_cons_zero, List.set_cons_succ]
      refine tqY 11 kO11 (some 19) ?va11 rfl rfl (by kernel_rfl) (fun _ _ _ h => h) ?ha11 (by assumption) ?ra11
      case ha11 => (unfold kO11; intro w hSw; (try dsimp only at hSw); go_simp <;> with_reducible rfl)
      try simp only [Act.put, List.setIfInBounds_toArray, List.set_cons_zero, List.set_cons_succ]
      refine tqY 12 kO12 (some 20) ?va12 rfl rfl (by kernel_rfl) (fun _ _ _ h => h) ?ha12 (by assumption) ?ra12
      case ha12 => (unfold kO12; intro w hSw; (try dsimp only at hSw); go_simp <;> with_reducible rfl)
      try simp only [Act.put, List.setIfInBounds_toArray, List.set_cons_zero, List.set_cons_succ]
      refine tqN 13 kO13 (some 21) rfl rfl (by kernel_rfl) (fun _ _ _ h => h) (by assumption) ?ra13
      try simp only [Act.put, List.setIfInBounds_toArray, List.set_cons_zero, List.set_cons_succ]
      refine tqN 14 kO14 (some 22) rfl rfl (by kernel_rfl) (fun _ _ _ h => h) (by assumption) ?ra14
      try simp only [Act.put, List.setIfInBounds_toArray, List.set_cons_zero, List.set_cons_succ]
      refine tqN 15 kO15 (some 23) rfl rfl (by kernel_rfl) (fun _ _ _ h => h) (by assumption) ?ra15
      try simp only [Act.put, List.setIfInBounds_toArray, List.set_cons_zero, List.set_cons_succ]
      refine tqN 16 kO16 (some 24) rfl rfl (by kernel_rfl) (fun _ _ _ h => h) (by assumption) ?ra16
      try simp only [Act.put, List.setIfInBounds_toArray, List.set_cons_zero, List.set_cons_succ]
      refine tqN 17 kO17 (some 25) rfl rfl (by kernel_rfl) (fun _ _ _ h => h) (by assumption) ?ra17
      try simp only [Act.put, List.setIfInBounds_toArray, List.set_cons_zero, List.set_cons_succ]
      refine tqN 18 kO18 (some 26) rfl rfl (by kernel_rfl) (fun _ _ _ h => h) (by assumption) ?ra18
      try simp only [Act.put, List.setIfInBounds_toArray, List.set_cons_zero, List.set_cons_succ]
      refine tqN 19 kO19 (some 27) rfl rfl (by kernel_rfl) (fun _ _ _ h => h) (by assumption) ?ra19
      try simp only [Act.put, List.setIfInBounds_toArray, List.set_cons_zero, List.set_cons_succ]
      refine tqN 20 kO20 (some 28) rfl rfl (by kernel_rfl) (fun _ _ _ h => h) (by assumption) ?ra20
      try simp only [Act.put, List.setIfInBounds_toArray, List.set_cons_zero, List.set_cons_succ]
      refine tqN 21 kO21 (some 29) rfl rfl (by kernel_rfl) (fun _ _ _ h => h) (by assumption) ?ra21
      try simp only [Act.put, List.setIfInBounds_toArray, List.set_cons_zero, List.set_cons_succ]
      refine tqN 22 kO22 (some 30) rfl rfl (by kernel_rfl) (fun _ _ _ h => h) (by assumption) ?ra22
      try simp only [Act.put, List.setIfInBounds_toArray, List.set_cons_zero, List.set_cons_succ]
      refine tqN 23 kO23 (some 31) rfl rfl (by kernel_rfl) (fun _ _ _ h => h) (by assumption) ?ra23
      try simp only [Act.put, List.setIfInBounds_toArray, List.set_cons_zero, List.set_cons_succ]
      refine tqN 24 kO24 (some 32) rfl rfl (by kernel_rfl) (fun _ _ _ h => h) (by assumption) ?ra24
      try simp only [Act.put, List.setIfInBounds_toArray, List.set_cons_zero, List.set_cons_succ]
      refine tqN 25 kO25 (some 33) rfl rfl (by kernel_rfl) (fun _ _ _ h => h) (by assumption) ?ra25
      try simp only [Act.put, List.setIfInBounds_toArray, List.set_cons_zero, List.set_cons_succ]
      refine tqY 26 kO26 (some 34) ?va26 rfl rfl (by kernel_rfl) (fun _ _ _ h => h) ?ha26 (by assumption) ?ra26
      case ha26 => (unfold kO26; intro w hSw; (try dsimp only at hSw); go_simp <;> with_reducible rfl)
      try simp only [Act.put, List.setIfInBounds_toArray, List.set_cons_zero, List.set_cons_succ]
      refine tqY 27 kO27 (some 35) ?va27 rfl rfl (by kernel_rfl) (fun _ _ _ h => h) ?ha27 (by assumption) ?ra27
      case ha27 => (unfold kO27; intro w hSw; (try dsimp only at hSw); go_simp <;> with_reducible rfl)
      try simp only [Act.put, List.setIfInBounds_toArray, List.set_cons_zero, List.set_cons_succ]
      refine tqN 28 kO28 (some 36) rfl rfl (by kernel_rfl) (fun _ _ _ h => h) (by assumption) ?ra28
      try simp only [Act.put, List.setIfInBounds_toArray, List.set_cons_zero, List.set_cons_succ]
      refine tqN 29 kO29 (some 37) rfl rfl (by kernel_rfl) (fun _ _ _ h => h) (by assumption) ?ra29
      try simp only [Act.put, List.setIfInBounds_toArray, List.set_cons_zero, List.set_cons_succ]
      refine tqN 30 kO30 (some 38) rfl rfl (by kernel_rfl) (fun _ _ _ h => h) (by assumption) ?ra30
      try simp only [Act.put, List.setIfInBounds_toArray, List.set_cons_zero, List.set_cons_succ]
      refine tqN 31 kO31 (some 39) rfl rfl (by kernel_rfl) (fun _ _ _ h => h) (by assumption) ?ra31
      try simp only [Act.put, List.setIfInBounds_toArray, List.set_cons_zero, List.set_cons_succ]
      refine tqN 32 kO32 (some 40) rfl rfl (by kernel_rfl) (fun _ _ _ h => h) (by assumption) ?ra32
      try simp only [Act.put, List.setIfInBounds_toArray, List.set_cons_zero, List.set_cons_succ]
      refine tqN 33 kO33 (some 41) rfl rfl (by kernel_rfl) (fun _ _ _ h => h) (by assumption) ?ra33
      try simp only [Act.put, List.setIfInBounds_toArray, List.set_cons_zero, List.set_cons_succ]
      refine tqN 34 kO34 (some 42) rfl rfl (by kernel_rfl) (fun _ _ _ h => h) (by assumption) ?ra34
      try simp only [Act.put, List.setIfInBounds_toArray, List.set_cons_zero, List.set_cons_succ]
      refine tqN 35 kO35 (some 43) rfl rfl (by kernel_rfl) (fun _ _ _ h => h) (by assumption) ?ra35
      try simp only [Act.put, List.setIfInBounds_toArray, List.set_cons_zero, List.set_cons_succ]
      refine tqN 36 kO36 (some 44) rfl rfl (by kernel_rfl) (fun _ _ _ h => h) (by assumption) ?ra36
      try simp only [Act.put, List.setIfInBounds_toArray, List.set_cons_zero, List.set_cons_succ]
      refine tqN 37 kO37 (some 45) rfl rfl (by kernel_rfl) (fun _ _ _ h => h) (by assumption) ?ra37
      try simp only [Act.put, List.setIfInBounds_toArray, List.set_cons_zero, List.set_cons_succ]
      refine tqN 38 kO38 (some 46) rfl rfl (by kernel_rfl) (fun _ _ _ h => h) (by assumption) ?ra38
      try simp only [Act.put, List.setIfInBounds_toArray, List.set_cons_zero, List.set_cons_succ]
      refine tqN 39 kO39 (some 47) rfl rfl (by kernel_rfl) (fun _ _ _ h => h) (by assumption) ?ra39
      try simp only [Act.put, List.setIfInBounds_toArray, List.set_cons_zero, List.set_cons_succ]
      refine tqN 40 kO40 (some 48) rfl rfl (by kernel_rfl) (fun _ _ _ h => h) (by assumption) ?ra40
      try simp only [Act.put, List.setIfInBounds_toArray, List.set_cons_zero, List.set_cons_succ]
      refine tqN 41 kO41 (some 49) rfl rfl (by kernel_rfl) (fun _ _ _ h => h) (by assumption) ?ra41
      try simp only [Act.put, List.setIfInBounds_toArray, List.set_cons_zero, List.set_cons_succ]
      refine tqN 42 kO42 (some 50) rfl rfl (by kernel_rfl) (fun _ _ _ h => h) (by assumption) ?ra42
      try simp only [Act.put, List.setIfInBounds_toArray, List.set_cons_zero, List.set_cons_succ]
      refine tqN 43 kO43 (some 51) rfl rfl (by kernel_rfl) (fun _ _ _ h => h) (by assumption) ?ra43
      try simp only [Act.put, List.setIfInBounds_toArray, List.set_cons_zero, List.set_cons_succ]
      refine tqN 44 kO44 (some 52) rfl rfl (by kernel_rfl) (fun _ _ _ h => h) (by assumption) ?ra44
      try simp only [Act.put, List.setIfInBounds_toArray, List.set_cons_zero, List.set_cons_succ]
      refine tqN 45 kO45 (some 53) rfl rfl (by kernel_rfl) (fun _ _ _ h => h) (by assumption) ?ra45
      try simp only [Act.put, List.setIfInBounds_toArray, List.set_cons_zero, List.set_cons_succ]
      refine tqY 46 kO46 (some 54) ?va46 rfl rfl (by kernel_rfl) (fun _ _ _ h => h) ?ha46 (by assumption) ?ra46
      case ha46 => (unfold kO46; intro w hSw; (try dsimp only at hSw); go_simp <;> with_reducible rfl)
      try simp only [Act.put, List.setIfInBounds_toArray, List.set_cons_zero, List.set_cons_succ]
      refine tqY 47 kO47 (some 55) ?va47 rfl rfl (by kernel_rfl) (fun _ _ _ h => h) ?ha47 (by assumption) ?ra47
      case ha47 => (unfold kO47; intro w hSw; (try dsimp only at hSw); go_simp <;> with_reducible rfl)
      try simp only [Act.put, List.setIfInBounds_toArray, List.set_cons_zero, List.set_cons_succ]
      refine tqN 48 kO48 (some 56) rfl rfl (by kernel_rfl) (fun _ _ _ h => h) (by assumption) ?ra48
      try simp only [Act.put, List.setIfInBounds_toArray, List.set_cons_zero, List.set_cons_succ]
      refine tqN 49 kO49 (some 57) rfl rfl (by kernel_rfl) (fun _ _ _ h => h) (by assumption) ?ra49
      try simp only [Act.put, List.setIfInBounds_toArray, List.set_cons_zero, List.set_cons_succ]
      refine tqN 50 kO50 (some 58) rfl rfl (by kernel_rfl) (fun _ _ _ h => h) (by assumption) ?ra50
      try simp only [Act.put, List.setIfInBounds_toArray, List.set_cons_zero, List.set_cons_succ]
      refine tqN 51 kO51 (some 59) rfl rfl (by kernel_rfl) (fun _ _ _ h => h) (by assumption) ?ra51
      try simp only [Act.put, List.setIfInBounds_toArray, List.set_cons_zero, List.set_cons_succ]
      refine tqN 52 kO52 (some 60) rfl rfl (by kernel_rfl) (fun _ _ _ h => h) (by assumption) ?ra52
      try simp only [Act.put, List.setIfInBounds_toArray, List.set_cons_zero, List.set_cons_succ]
      refine tqN 53 kO53 (some 61) rfl rfl (by kernel_rfl) (fun _ _ _ h => h) (by assumption) ?ra53
      try simp only [Act.put, List.setIfInBounds_toArray, List.set_cons_zero, List.set_cons_succ]
      refine tqN 54 kO54 (some 62) rfl rfl (by kernel_rfl) (fun _ _ _ h => h) (by assumption) ?ra54
      try simp only [Act.put, List.setIfInBounds_toArray, List.set_cons_zero, List.set_cons_succ]
      refine tqN 55 kO55 (some 63) rfl rfl (by kernel_rfl) (fun _ _ _ h => h) (by assumption) ?ra55
      try simp only [Act.put, List.setIfInBounds_toArray, List.set_cons_zero, List.set_cons_succ]
      refine tqN 56 kO56 (some 64) rfl rfl (by kernel_rfl) (fun _ _ _ h => h) (by assumption) ?ra56
      try simp only [Act.put, List.setIfInBounds_toArray, List.set_cons_zero, List.set_cons_succ]
      refine tqN 57 kO57 (some 65) rfl rfl (by kernel_rfl) (fun _ _ _ h => h) (by assumption) ?ra57
      try simp only [Act.put, List.setIfInBounds_toArray, List.set_cons_zero, List.set_cons_succ]
      refine tqN 58 kO58 (some 66) rfl rfl (by kernel_rfl) (fun _ _ _ h => h) (by assumption) ?ra58
      try simp only [Act.put, List.setIfInBounds_toArray, List.set_cons_zero, List.set_cons_succ]
      refine tqN 59 kO59 (some 67) rfl rfl (by kernel_rfl) (fun _ _ _ h => h) (by assumption) ?ra59
      try simp only [Act.put, List.setIfInBounds_toArray, List.set_cons_zero, List.set_cons_succ]
      refine tqY 60 kO60 (some 68) ?va60 rfl rfl (by kernel_rfl) (fun _ _ _ h => h) ?ha60 (by assumption) ?ra60
      case ha60 => (unfold kO60; intro w hSw; (try dsimp only at hSw); go_simp <;> with_reducible rfl)
      try simp only [Act.put, List.setIfInBounds_toArray, List.set_cons_zero, List.set_cons_succ]
      refine wpAnyH_done (by kernel_rfl) ?_ _
      obtain ⟨⟨r1, r2⟩, r3⟩ := HEnd.out _ hHeld.1.out (fun hf => absurd (HFa.out hf) (by intro hh; have h9 := hh.1; unfold prt at h9; rw [if_pos (Or.inl hk1)] at h9; simp [slen] at h9))
      have HR3 : Hid _ := r3
      clear r3
      gi_wp2_with fail
      exact HR3.out
    · have d1 : decide (kx < 1) = false := decide_eq_false hk1
      by_cases hk26 : 26 < kx
      · have d26 : decide (26 < kx) = true := decide_eq_true hk26
        have HKp : Hid (∀ Wc, Below Wb.heap.size Wb Wc → Aside (Below Wb.heap.size Wb Wc) ∧ Wc.cell? ⟨b, o, none⟩ = some (.int .i64 kx) ∧ Wc.cell? ⟨b, o + 1, none⟩ = some (.int .u64 x) ∧ Wc.cell? ⟨b, o + 2, none⟩ = some (.string s) ∧ Wc.cell? ⟨b, o + 3, none⟩ = some (.slice aS nS cS)) := fun Wc hc => ⟨hc, (hc.cell (p := ⟨b, o, none⟩) (Nat.lt_of_lt_of_le HB.out.1 HB.out.2.size)).trans y0, (hc.cell (p := ⟨b, o + 1, none⟩) (Nat.lt_of_lt_of_le HB.out.1 HB.out.2.size)).trans y1, (hc.cell (p := ⟨b, o + 2, none⟩) (Nat.lt_of_lt_of_le HB.out.1 HB.out.2.size)).trans y2, (hc.cell (p := ⟨b, o + 3, none⟩) (Nat.lt_of_lt_of_le HB.out.1 HB.out.2.size)).trans y3⟩
        have hk0 := HKp.out Wb.drew ⟨rfl, rfl, rfl, Nat.le_refl _, fun _ _ => rfl⟩
        gi_wp2_with fail
        refine region_round (S := (fun Wc => Aside (Below Wb.heap.size Wb Wc) ∧ Wc.cell? ⟨b, o, none⟩ = some (.int .i64 kx) ∧ Wc.cell? ⟨b, o + 1, none⟩ = some (.int .u64 x) ∧ Wc.cell? ⟨b, o + 2, none⟩ = some (.string s) ∧ Wc.cell? ⟨b, o + 3, none⟩ = some (.slice aS nS cS))) (by kernel_rfl) (by kernel_rfl) (by rintro ⟨_, _, h⟩; exact h) hk0 (fun hHeld => ?_)
        clear hk0
        refine tqY 0 kO0 (some 8) ?vb0 rfl rfl (by kernel_rfl) (fun _ _ _ h => h) ?hb0 (by assumption) ?rb0
        case hb0 => (unfold kO0; intro w hSw; (try dsimp only at hSw); go_simp <;> with_reducible rfl)
        try simp only [Act.put, List.setIfInBounds_toArray, List.set_cons_zero, List.set_cons_succ]
        refine tqY 1 kO1 (some 9) ?vb1 rfl rfl (by kernel_rfl) (fun _ _ _ h => h) ?hb1 (by assumption) ?rb1
        case hb1 => (unfold kO1; intro w hSw; (try dsimp only at hSw); go_simp <;> with_reducible rfl)
        try simp only [Act.put, List.setIfInBounds_toArray, List.set_cons_zero, List.set_cons_succ]
        refine tqY 2 kO2 (some 10) ?vb2 rfl rfl (by kernel_rfl) (fun _ _ _ h => h) ?hb2 (by assumption) ?rb2
        case hb2 => (unfold kO2; intro w hSw; (try dsimp only at hSw); go_simp <;> with_reducible rfl)
        try simp only [Act.put, List.setIfInBounds_toArray, List.set_cons_zero, List.set_cons_succ]
        refine tqY 3 kO3 (some 11) ?vb3 rfl rfl (by kernel_rfl) (fun _ _ _ h => h) ?hb3 (by assumption) ?rb3
        case hb3 => (unfold kO3; intro w hSw; (try dsimp only at hSw); go_simp <;> with_reducible rfl)
        try simp only [Act.put, List.setIfInBounds_toArray, List.set_cons_zero, List.set_cons_succ]
        refine tqY 4 kO4 (some 12) ?vb4 rfl rfl (by kernel_rfl) (fun _ _ _ h => h) ?hb4 (by assumption) ?rb4
        case hb4 => (unfold kO4; intro w hSw; (try dsimp only at hSw); go_simp <;> with_reducible rfl)
        try simp only [Act.put, List.setIfInBounds_toArray, List.set_cons_zero, List.set_cons_succ]
        refine tqY 5 kO5 (some 13) ?vb5 rfl rfl (by kernel_rfl) (fun _ _ _ h => h) ?hb5 (by assumption) ?rb5
        case hb5 => (unfold kO5; intro w hSw; (try dsimp only at hSw); go_simp <;> with_reducible rfl)
        try simp only [Act.put, List.setIfInBounds_toArray, List.set_cons_zero, List.set_cons_succ]
        refine tqY 6 kO6 (some 14) ?vb6 rfl rfl (by kernel_rfl) (fun _ _ _ h => h) ?hb6 (by assumption) ?rb6
        case hb6 => (unfold kO6; intro w hSw; (try dsimp only at hSw); go_simp <;> with_reducible rfl)
        try simp only [Act.put, List.setIfInBounds_toArray, List.set_cons_zero, List.set_cons_succ]
        refine tqY 7 kO7 (some 15) ?vb7 rfl rfl (by kernel_rfl) (fun _ _ _ h => h) ?hb7 (by assumption) ?rb7
        case hb7 => (unfold kO7; intro w hSw; (try dsimp only at hSw); go_simp <;> with_reducible rfl)
        try simp only [Act.put, List.setIfInBounds_toArray, List.set_cons_zero, List.set_cons_succ]
        refine tqY 8 kO8 (some 16) ?vb8 rfl rfl (by kernel_rfl) (fun _ _ _ h => h) ?hb8 (by assumption) ?rb8
        case hb8 => (unfold kO8; intro w hSw; (try dsimp only at hSw); go_simp <;> with_reducible rfl)
        try simp only [Act.put, List.setIfInBounds_toArray, List.set_cons_zero, List.set_cons_succ]
        refine tqY 9 kO9 (some 17) ?vb9 rfl rfl (by kernel_rfl) (fun _ _ _ h => h) ?hb9 (by assumption) ?rb9
        case hb9 => (unfold kO9; intro w hSw; (try dsimp only at hSw); go_simp <;> with_reducible rfl)
        try simp only [Act.put, List.setIfInBounds_toArray, List.set_cons_zero, List.set_cons_succ]
        refine tqY 10 kO10 (some 18) ?vb10 rfl rfl (by kernel_rfl) (fun _ _ _ h => h) ?hb10 (by assumption) ?rb10
        case hb10 => (unfold kO10; intro w hSw; (try dsimp only at hSw); go_simp <;> with_reducible rfl)
        try simp only [Act.put, List.setIfInBounds_toArray, List.set_cons_zero, List.set_cons_succ]
        refine tqY 11 kO11 (some 19) ?vb11 rfl rfl (by kernel_rfl) (fun _ _ _ h => h) ?hb11 (by assumption) ?rb11
        case hb11 => (unfold kO11; intro w hSw; (try dsimp only at hSw); go_simp <;> with_reducible rfl)
        try simp only [Act.put, List.setIfInBounds_toArray, List.set_cons_zero, List.set_cons_succ]
        refine tqY 12 kO12 (some 20) ?vb12 rfl rfl (by kernel_rfl) (fun _ _ _ h => h) ?hb12 (by assumption) ?rb12
        case hb12 => (unfold kO12; intro w hSw; (try dsimp only at hSw); go_simp <;> with_reducible rfl)
        try simp only [Act.put, List.setIfInBounds_toArray, List.set_cons_zero, List.set_cons_succ]
        refine tqN 13 kO13 (some 21) rfl rfl (by kernel_rfl) (fun _ _ _ h => h) (by assumption) ?rb13
        try simp only [Act.put, List.setIfInBounds_toArray, List.set_cons_zero, List.set_cons_succ]
        refine tqN 14 kO14 (some 22) rfl rfl (by kernel_rfl) (fun _ _ _ h => h) (by assumption) ?rb14
        try simp only [Act.put, List.setIfInBounds_toArray, List.set_cons_zero, List.set_cons_succ]
        refine tqN 15 kO15 (some 23) rfl rfl (by kernel_rfl) (fun _ _ _ h => h) (by assumption) ?rb15
        try simp only [Act.put, List.setIfInBounds_toArray, List.set_cons_zero, List.set_cons_succ]
        refine tqN 16 kO16 (some 24) rfl rfl (by kernel_rfl) (fun _ _ _ h => h) (by assumption) ?rb16
        try simp only [Act.put, List.setIfInBounds_toArray, List.set_cons_zero, List.set_cons_succ]
        refine tqN 17 kO17 (some 25) rfl rfl (by kernel_rfl) (fun _ _ _ h => h) (by assumption) ?rb17
        try simp only [Act.put, List.setIfInBounds_toArray, List.set_cons_zero, List.set_cons_succ]
        refine tqN 18 kO18 (some 26) rfl rfl (by kernel_rfl) (fun _ _ _ h => h) (by assumption) ?rb18
        try simp only [Act.put, List.setIfInBounds_toArray, List.set_cons_zero, List.set_cons_succ]
        refine tqN 19 kO19 (some 27) rfl rfl (by kernel_rfl) (fun _ _ _ h => h) (by assumption) ?rb19
        try simp only [Act.put, List.setIfInBounds_toArray, List.set_cons_zero, List.set_cons_succ]
        refine tqN 20 kO20 (some 28) rfl rfl (by kernel_rfl) (fun _ _ _ h => h) (by assumption) ?rb20
        try simp only [Act.put, List.setIfInBounds_toArray, List.set_cons_zero, List.set_cons_succ]
        refine tqN 21 kO21 (some 29) rfl rfl (by kernel_rfl) (fun _ _ _ h => h) (by assumption) ?rb21
        try simp only [Act.put, List.setIfInBounds_toArray, List.set_cons_zero, List.set_cons_succ]
        refine tqN 22 kO22 (some 30) rfl rfl (by kernel_rfl) (fun _ _ _ h => h) (by assumption) ?rb22
        try simp only [Act.put, List.setIfInBounds_toArray, List.set_cons_zero, List.set_cons_succ]
        refine tqN 23 kO23 (some 31) rfl rfl (by kernel_rfl) (fun _ _ _ h => h) (by assumption) ?rb23
        try simp only [Act.put, List.setIfInBounds_toArray, List.set_cons_zero, List.set_cons_succ]
        refine tqN 24 kO24 (some 32) rfl rfl (by kernel_rfl) (fun _ _ _ h => h) (by assumption) ?rb24
        try simp only [Act.put, List.setIfInBounds_toArray, List.set_cons_zero, List.set_cons_succ]
        refine tqN 25 kO25 (some 33) rfl rfl (by kernel_rfl) (fun _ _ _ h => h) (by assumption) ?rb25
        try simp only [Act.put, List.setIfInBounds_toArray, List.set_cons_zero, List.set_cons_succ]
        refine tqY 26 kO26 (some 34) ?vb26 rfl rfl (by kernel_rfl) (fun _ _ _ h => h) ?hb26 (by assumption) ?rb26
        case hb26 => (unfold kO26; intro w hSw; (try dsimp only at hSw); go_simp <;> with_reducible rfl)
        try simp only [Act.put, List.setIfInBounds_toArray, List.set_cons_zero, List.set_cons_succ]
        refine tqY 27 kO27 (some 35) ?vb27 rfl rfl (by kernel_rfl) (fun _ _ _ h => h) ?hb27 (by assumption) ?rb27
        case hb27 => (unfold kO27; intro w hSw; (try dsimp only at hSw); go_simp <;> with_reducible rfl)
        try simp only [Act.put, List.setIfInBounds_toArray, List.set_cons_zero, List.set_cons_succ]
        refine tqN 28 kO28 (some 36) rfl rfl (by kernel_rfl) (fun _ _ _ h => h) (by assumption) ?rb28
        try simp only [Act.put, List.setIfInBounds_toArray, List.set_cons_zero, List.set_cons_succ]
        refine tqN 29 kO29 (some 37) rfl rfl (by kernel_rfl) (fun _ _ _ h => h) (by assumption) ?rb29
        try simp only [Act.put, List.setIfInBounds_toArray, List.set_cons_zero, List.set_cons_succ]
        refine tqN 30 kO30 (some 38) rfl rfl (by kernel_rfl) (fun _ _ _ h => h) (by assumption) ?rb30
        try simp only [Act.put, List.setIfInBounds_toArray, List.set_cons_zero, List.set_cons_succ]
        refine tqN 31 kO31 (some 39) rfl rfl (by kernel_rfl) (fun _ _ _ h => h) (by assumption) ?rb31
        try simp only [Act.put, List.setIfInBounds_toArray, List.set_cons_zero, List.set_cons_succ]
        refine tqN 32 kO32 (some 40) rfl rfl (by kernel_rfl) (fun _ _ _ h => h) (by assumption) ?rb32
        try simp only [Act.put, List.setIfInBounds_toArray, List.set_cons_zero, List.set_cons_succ]
        refine tqN 33 kO33 (some 41) rfl rfl (by kernel_rfl) (fun _ _ _ h => h) (by assumption) ?rb33
        try simp only [Act.put, List.setIfInBounds_toArray, List.set_cons_zero, List.set_cons_succ]
        refine tqN 34 kO34 (some 42) rfl rfl (by kernel_rfl) (fun _ _ _ h => h) (by assumption) ?rb34
        try simp only [Act.put, List.setIfInBounds_toArray, List.set_cons_zero, List.set_cons_succ]
        refine tqN 35 kO35 (some 43) rfl rfl (by kernel_rfl) (fun _ _ _ h => h) (by assumption) ?rb35
        try simp only [Act.put, List.setIfInBounds_toArray, List.set_cons_zero, List.set_cons_succ]
        refine tqN 36 kO36 (some 44) rfl rfl (by kernel_rfl) (fun _ _ _ h => h) (by assumption) ?rb36
        try simp only [Act.put, List.setIfInBounds_toArray, List.set_cons_zero, List.set_cons_succ]
        refine tqN 37 kO37 (some 45) rfl rfl (by kernel_rfl) (fun _ _ _ h => h) (by assumption) ?rb37
        try simp only [Act.put, List.setIfInBounds_toArray, List.set_cons_zero, List.set_cons_succ]
        refine tqN 38 kO38 (some 46) rfl rfl (by kernel_rfl) (fun _ _ _ h => h) (by assumption) ?rb38
        try simp only [Act.put, List.setIfInBounds_toArray, List.set_cons_zero, List.set_cons_succ]
        refine tqN 39 kO39 (some 47) rfl rfl (by kernel_rfl) (fun _ _ _ h => h) (by assumption) ?rb39
        try simp only [Act.put, List.setIfInBounds_toArray, List.set_cons_zero, List.set_cons_succ]
        refine tqN 40 kO40 (some 48) rfl rfl (by kernel_rfl) (fun _ _ _ h => h) (by assumption) ?rb40
        try simp only [Act.put, List.setIfInBounds_toArray, List.set_cons_zero, List.set_cons_succ]
        refine tqN 41 kO41 (some 49) rfl rfl (by kernel_rfl) (fun _ _ _ h => h) (by assumption) ?rb41
        try simp only [Act.put, List.setIfInBounds_toArray, List.set_cons_zero, List.set_cons_succ]
        refine tqN 42 kO42 (some 50) rfl rfl (by kernel_rfl) (fun _ _ _ h => h) (by assumption) ?rb42
        try simp only [Act.put, List.setIfInBounds_toArray, List.set_cons_zero, List.set_cons_succ]
        refine tqN 43 kO43 (some 51) rfl rfl (by kernel_rfl) (fun _ _ _ h => h) (by assumption) ?rb43
        try simp only [Act.put, List.setIfInBounds_toArray, List.set_cons_zero, List.set_cons_succ]
        refine tqN 44 kO44 (some 52) rfl rfl (by kernel_rfl) (fun _ _ _ h => h) (by assumption) ?rb44
        try simp only [Act.put, List.setIfInBounds_toArray, List.set_cons_zero, List.set_cons_succ]
        refine tqN 45 kO45 (some 53) rfl rfl (by kernel_rfl) (fun _ _ _ h => h) (by assumption) ?rb45
        try simp only [Act.put, List.setIfInBounds_toArray, List.set_cons_zero, List.set_cons_succ]
        refine tqY 46 kO46 (some 54) ?vb46 rfl rfl (by kernel_rfl) (fun _ _ _ h => h) ?hb46 (by assumption) ?rb46
        case hb46 => (unfold kO46; intro w hSw; (try dsimp only at hSw); go_simp <;> with_reducible rfl)
        try simp only [Act.put, List.setIfInBounds_toArray, List.set_cons_zero, List.set_cons_succ]
        refine tqY 47 kO47 (some 55) ?vb47 rfl rfl (by kernel_rfl) (fun _ _ _ h => h) ?hb47 (by assumption) ?rb47
        case hb47 => (unfold kO47; intro w hSw; (try dsimp only at hSw); go_simp <;> with_reducible rfl)
        try simp only [Act.put, List.setIfInBounds_toArray, List.set_cons_zero, List.set_cons_succ]
        refine tqN 48 kO48 (some 56) rfl rfl (by kernel_rfl) (fun _ _ _ h => h) (by assumption) ?rb48
        try simp only [Act.put, List.setIfInBounds_toArray, List.set_cons_zero, List.set_cons_succ]
        refine tqN 49 kO49 (some 57) rfl rfl (by kernel_rfl) (fun _ _ _ h => h) (by assumption) ?rb49
        try simp only [Act.put, List.setIfInBounds_toArray, List.set_cons_zero, List.set_cons_succ]
        refine tqN 50 kO50 (some 58) rfl rfl (by kernel_rfl) (fun _ _ _ h => h) (by assumption) ?rb50
        try simp only [Act.put, List.setIfInBounds_toArray, List.set_cons_zero, List.set_cons_succ]
        refine tqN 51 kO51 (some 59) rfl rfl (by kernel_rfl) (fun _ _ _ h => h) (by assumption) ?rb51
        try simp only [Act.put, List.setIfInBounds_toArray, List.set_cons_zero, List.set_cons_succ]
        refine tqN 52 kO52 (some 60) rfl rfl (by kernel_rfl) (fun _ _ _ h => h) (by assumption) ?rb52
        try simp only [Act.put, List.setIfInBounds_toArray, List.set_cons_zero, List.set_cons_succ]
        refine tqN 53 kO53 (some 61) rfl rfl (by kernel_rfl) (fun _ _ _ h => h) (by assumption) ?rb53
        try simp only [Act.put, List.setIfInBounds_toArray, List.set_cons_zero, List.set_cons_succ]
        refine tqN 54 kO54 (some 62) rfl rfl (by kernel_rfl) (fun _ _ _ h => h) (by assumption) ?rb54
        try simp only [Act.put, List.setIfInBounds_toArray, List.set_cons_zero, List.set_cons_succ]
        refine tqN 55 kO55 (some 63) rfl rfl (by kernel_rfl) (fun _ _ _ h => h) (by assumption) ?rb55
        try simp only [Act.put, List.setIfInBounds_toArray, List.set_cons_zero, List.set_cons_succ]
        refine tqN 56 kO56 (some 64) rfl rfl (by kernel_rfl) (fun _ _ _ h => h) (by assumption) ?rb56
        try simp only [Act.put, List.setIfInBounds_toArray, List.set_cons_zero, List.set_cons_succ]
        refine tqN 57 kO57 (some 65) rfl rfl (by kernel_rfl) (fun _ _ _ h => h) (by assumption) ?rb57
        try simp only [Act.put, List.setIfInBounds_toArray, List.set_cons_zero, List.set_cons_succ]
        refine tqN 58 kO58 (some 66) rfl rfl (by kernel_rfl) (fun _ _ _ h => h) (by assumption) ?rb58
        try simp only [Act.put, List.setIfInBounds_toArray, List.set_cons_zero, List.set_cons_succ]
        refine tqN 59 kO59 (some 67) rfl rfl (by kernel_rfl) (fun _ _ _ h => h) (by assumption) ?rb59
        try simp only [Act.put, List.setIfInBounds_toArray, List.set_cons_zero, List.set_cons_succ]
        refine tqY 60 kO60 (some 68) ?vb60 rfl rfl (by kernel_rfl) (fun _ _ _ h => h) ?hb60 (by assumption) ?rb60
        case hb60 => (unfold kO60; intro w hSw; (try dsimp only at hSw); go_simp <;> with_reducible rfl)
        try simp only [Act.put, List.setIfInBounds_toArray, List.set_cons_zero, List.set_cons_succ]
        refine wpAnyH_done (by kernel_rfl) ?_ _
        obtain ⟨⟨r1, r2⟩, r3⟩ := HEnd.out _ hHeld.1.out (fun hf => absurd (HFa.out hf) (by intro hh; have h9 := hh.1; unfold prt at h9; rw [if_pos (Or.inr hk26)] at h9; simp [slen] at h9))
        have HR3 : Hid _ := r3
        clear r3
        gi_wp2_with fail
        exact HR3.out
      · have d26 : decide (26 < kx) = false := decide_eq_false hk26
        have ytb : Wb.cell? ⟨1, kx.toNat * 3 + 1, none⟩ = some (.int .i64 (prt kx)) := by have h9 := HTb.out.1 kx.toNat (by omega) (by omega); rw [Int.toNat_of_nonneg (by omega)] at h9; exact h9
        have q0 : (0 : Int) ≤ kx := by omega
        have q27 : kx < 27 := by omega
        by_cases hpl : (nS : Int) = prt kx
        · by_cases hk2 : kx = 2
          · subst hk2
            have ytb : Wb.cell? ⟨1, 7, none⟩ = some (.int .i64 (prt (2 : Int))) := ytb
            have t6 : ((nS : Int) != prt (2 : Int)) = false := by simp [hpl]
            replace hpl : Hid ((nS : Int) = prt (2 : Int)) := hpl
            generalize hPP : prt (2 : Int) = PP at *
            replace hPP : Hid (prt (2 : Int) = PP) := hPP
            cases hnm : nameB s with
            | false =>
              have HKp : Hid (∀ Wc, Below Wb.heap.size Wb Wc → Aside (Below Wb.heap.size Wb Wc) ∧ Wc.cell? ⟨b, o, none⟩ = some (.int .i64 2) ∧ Wc.cell? ⟨b, o + 1, none⟩ = some (.int .u64 x) ∧ Wc.cell? ⟨b, o + 2, none⟩ = some (.string s) ∧ Wc.cell? ⟨b, o + 3, none⟩ = some (.slice aS nS cS) ∧ Wc.cell? ⟨1, 7, none⟩ = some (.int .i64 PP)) := fun Wc hc => ⟨hc, (hc.cell (p := ⟨b, o, none⟩) (Nat.lt_of_lt_of_le HB.out.1 HB.out.2.size)).trans y0, (hc.cell (p := ⟨b, o + 1, none⟩) (Nat.lt_of_lt_of_le HB.out.1 HB.out.2.size)).trans y1, (hc.cell (p := ⟨b, o + 2, none⟩) (Nat.lt_of_lt_of_le HB.out.1 HB.out.2.size)).trans y2, (hc.cell (p := ⟨b, o + 3, none⟩) (Nat.lt_of_lt_of_le HB.out.1 HB.out.2.size)).trans y3, (hc.cell (p := ⟨1, _, none⟩) HTb.out.2).trans ytb⟩
              have hk0 := HKp.out Wb.drew ⟨rfl, rfl, rfl, Nat.le_refl _, fun _ _ => rfl⟩
              gi_wp2_with fail
              refine region_round (S := (fun Wc => Aside (Below Wb.heap.size Wb Wc) ∧ Wc.cell? ⟨b, o, none⟩ = some (.int .i64 2) ∧ Wc.cell? ⟨b, o + 1, none⟩ = some (.int .u64 x) ∧ Wc.cell? ⟨b, o + 2, none⟩ = some (.string s) ∧ Wc.cell? ⟨b, o + 3, none⟩ = some (.slice aS nS cS) ∧ Wc.cell? ⟨1, 7, none⟩ = some (.int .i64 PP))) (by kernel_rfl) (by kernel_rfl) (by rintro ⟨_, _, h⟩; exact h) hk0 (fun hHeld => ?_)
              clear hk0
              refine tqY 0 kO0 (some 8) ?vn2f0 rfl rfl (by kernel_rfl) (fun _ _ _ h => h) ?hn2f0 (by assumption) ?rn2f0
              case hn2f0 => (unfold kO0; intro w hSw; (try dsimp only at hSw); go_simp <;> with_reducible rfl)
              try simp only [Act.put, List.setIfInBounds_toArray, List.set_cons_zero, List.set_cons_succ]
              refine tqY 1 kO1 (some 9) ?vn2f1 rfl rfl (by kernel_rfl) (fun _ _ _ h => h) ?hn2f1 (by assumption) ?rn2f1
              case hn2f1 => (unfold kO1; intro w hSw; (try dsimp only at hSw); go_simp <;> with_reducible rfl)
              try simp only [Act.put, List.setIfInBounds_toArray, List.set_cons_zero, List.set_cons_succ]
              refine tqY 2 kO2 (some 10) ?vn2f2 rfl rfl (by kernel_rfl) (fun _ _ _ h => h) ?hn2f2 (by assumption) ?rn2f2
              case hn2f2 => (unfold kO2; intro w hSw; (try dsimp only at hSw); go_simp <;> with_reducible rfl)
              try simp only [Act.put, List.setIfInBounds_toArray, List.set_cons_zero, List.set_cons_succ]
              refine tqY 3 kO3 (some 11) ?vn2f3 rfl rfl (by kernel_rfl) (fun _ _ _ h => h) ?hn2f3 (by assumption) ?rn2f3
              case hn2f3 => (unfold kO3; intro w hSw; (try dsimp only at hSw); go_simp <;> with_reducible rfl)
              try simp only [Act.put, List.setIfInBounds_toArray, List.set_cons_zero, List.set_cons_succ]
              refine tqY 4 kO4 (some 12) ?vn2f4 rfl rfl (by kernel_rfl) (fun _ _ _ h => h) ?hn2f4 (by assumption) ?rn2f4
              case hn2f4 => (unfold kO4; intro w hSw; (try dsimp only at hSw); go_simp <;> with_reducible rfl)
              try simp only [Act.put, List.setIfInBounds_toArray, List.set_cons_zero, List.set_cons_succ]
              refine tqY 5 kO5 (some 13) ?vn2f5 rfl rfl (by kernel_rfl) (fun _ _ _ h => h) ?hn2f5 (by assumption) ?rn2f5
              case hn2f5 => (unfold kO5; intro w hSw; (try dsimp only at hSw); go_simp <;> with_reducible rfl)
              try simp only [Act.put, List.setIfInBounds_toArray, List.set_cons_zero, List.set_cons_succ]
              refine tqY 6 kO6 (some 14) ?vn2f6 rfl rfl (by kernel_rfl) (fun _ _ _ h => h) ?hn2f6 (by assumption) ?rn2f6
              case hn2f6 => (unfold kO6; intro w hSw; (try dsimp only at hSw); go_simp <;> with_reducible rfl)
              try simp only [Act.put, List.setIfInBounds_toArray, List.set_cons_zero, List.set_cons_succ]
              refine tqY 7 kO7 (some 15) ?vn2f7 rfl rfl (by kernel_rfl) (fun _ _ _ h => h) ?hn2f7 (by assumption) ?rn2f7
              case hn2f7 => (unfold kO7; intro w hSw; (try dsimp only at hSw); go_simp <;> with_reducible rfl)
              try simp only [Act.put, List.setIfInBounds_toArray, List.set_cons_zero, List.set_cons_succ]
              refine tqY 8 kO8 (some 16) ?vn2f8 rfl rfl (by kernel_rfl) (fun _ _ _ h => h) ?hn2f8 (by assumption) ?rn2f8
              case hn2f8 => (unfold kO8; intro w hSw; (try dsimp only at hSw); go_simp <;> with_reducible rfl)
              try simp only [Act.put, List.setIfInBounds_toArray, List.set_cons_zero, List.set_cons_succ]
              refine tqY 9 kO9 (some 17) ?vn2f9 rfl rfl (by kernel_rfl) (fun _ _ _ h => h) ?hn2f9 (by assumption) ?rn2f9
              case hn2f9 => (unfold kO9; intro w hSw; (try dsimp only at hSw); go_simp <;> with_reducible rfl)
              try simp only [Act.put, List.setIfInBounds_toArray, List.set_cons_zero, List.set_cons_succ]
              refine tqY 10 kO10 (some 18) ?vn2f10 rfl rfl (by kernel_rfl) (fun _ _ _ h => h) ?hn2f10 (by assumption) ?rn2f10
              case hn2f10 => (unfold kO10; intro w hSw; (try dsimp only at hSw); go_simp <;> with_reducible rfl)
              try simp only [Act.put, List.setIfInBounds_toArray, List.set_cons_zero, List.set_cons_succ]
              refine tqY 11 kO11 (some 19) ?vn2f11 rfl rfl (by kernel_rfl) (fun _ _ _ h => h) ?hn2f11 (by assumption) ?rn2f11
              case hn2f11 => (unfold kO11; intro w hSw; (try dsimp only at hSw); go_simp <;> with_reducible rfl)
              try simp only [Act.put, List.setIfInBounds_toArray, List.set_cons_zero, List.set_cons_succ]
              refine tqY 12 kO12 (some 20) ?vn2f12 rfl rfl (by kernel_rfl) (fun _ _ _ h => h) ?hn2f12 (by assumption) ?rn2f12
              case hn2f12 => (unfold kO12; intro w hSw; (try dsimp only at hSw); go_simp <;> with_reducible rfl)
              try simp only [Act.put, List.setIfInBounds_toArray, List.set_cons_zero, List.set_cons_succ]
              refine tqY 13 kO13 (some 21) ?vn2f13 rfl rfl (by kernel_rfl) (fun _ _ _ h => h) ?hn2f13 (by assumption) ?rn2f13
              case hn2f13 => (unfold kO13; intro w hSw; (try dsimp only at hSw); go_simp <;> with_reducible rfl)
              try simp only [Act.put, List.setIfInBounds_toArray, List.set_cons_zero, List.set_cons_succ]
              refine tqY 14 kO14 (some 22) ?vn2f14 rfl rfl (by kernel_rfl) (fun _ _ _ h => h) ?hn2f14 (by assumption) ?rn2f14
              case hn2f14 => (unfold kO14; intro w hSw; (try dsimp only at hSw); go_simp <;> with_reducible rfl)
              try simp only [Act.put, List.setIfInBounds_toArray, List.set_cons_zero, List.set_cons_succ]
              refine tqY 15 kO15 (some 23) ?vn2f15 rfl rfl (by kernel_rfl) (fun _ _ _ h => h) ?hn2f15 (by assumption) ?rn2f15
              case hn2f15 => (unfold kO15; intro w hSw; (try dsimp only at hSw); go_simp <;> with_reducible rfl)
              try simp only [Act.put, List.setIfInBounds_toArray, List.set_cons_zero, List.set_cons_succ]
              refine tqY 16 kO16 (some 24) ?vn2f16 rfl rfl (by kernel_rfl) (fun _ _ _ h => h) ?hn2f16 (by assumption) ?rn2f16
              case hn2f16 => (unfold kO16; intro w hSw; (try dsimp only at hSw); go_simp <;> with_reducible rfl)
              try simp only [Act.put, List.setIfInBounds_toArray, List.set_cons_zero, List.set_cons_succ]
              refine tqY 17 kO17 (some 25) ?vn2f17 rfl rfl (by kernel_rfl) (fun _ _ _ h => h) ?hn2f17 (by assumption) ?rn2f17
              case hn2f17 => (unfold kO17; intro w hSw; (try dsimp only at hSw); go_simp <;> with_reducible rfl)
              try simp only [Act.put, List.setIfInBounds_toArray, List.set_cons_zero, List.set_cons_succ]
              refine tqY 18 kO18 (some 26) ?vn2f18 rfl rfl (by kernel_rfl) (fun _ _ _ h => h) ?hn2f18 (by assumption) ?rn2f18
              case hn2f18 => (unfold kO18; intro w hSw; (try dsimp only at hSw); go_simp <;> with_reducible rfl)
              try simp only [Act.put, List.setIfInBounds_toArray, List.set_cons_zero, List.set_cons_succ]
              refine tqY 19 kO19 (some 27) ?vn2f19 rfl rfl (by kernel_rfl) (fun _ _ _ h => h) ?hn2f19 (by assumption) ?rn2f19
              case hn2f19 => (unfold kO19; intro w hSw; (try dsimp only at hSw); go_simp <;> with_reducible rfl)
              try simp only [Act.put, List.setIfInBounds_toArray, List.set_cons_zero, List.set_cons_succ]
              refine tqY 20 kO20 (some 28) ?vn2f20 rfl rfl (by kernel_rfl) (fun _ _ _ h => h) ?hn2f20 (by assumption) ?rn2f20
              case hn2f20 => (unfold kO20; intro w hSw; (try dsimp only at hSw); go_simp <;> with_reducible rfl)
              try simp only [Act.put, List.setIfInBounds_toArray, List.set_cons_zero, List.set_cons_succ]
              refine tqY 21 kO21 (some 29) ?vn2f21 rfl rfl (by kernel_rfl) (fun _ _ _ h => h) ?hn2f21 (by assumption) ?rn2f21
              case hn2f21 => (unfold kO21; intro w hSw; (try dsimp only at hSw); go_simp <;> with_reducible rfl)
              try simp only [Act.put, List.setIfInBounds_toArray, List.set_cons_zero, List.set_cons_succ]
              refine tqY 22 kO22 (some 30) ?vn2f22 rfl rfl (by kernel_rfl) (fun _ _ _ h => h) ?hn2f22 (by assumption) ?rn2f22
              case hn2f22 => (unfold kO22; intro w hSw; (try dsimp only at hSw); go_simp <;> with_reducible rfl)
              try simp only [Act.put, List.setIfInBounds_toArray, List.set_cons_zero, List.set_cons_succ]
              refine tqY 23 kO23 (some 31) ?vn2f23 rfl rfl (by kernel_rfl) (fun _ _ _ h => h) ?hn2f23 (by assumption) ?rn2f23
              case hn2f23 => (unfold kO23; intro w hSw; (try dsimp only at hSw); go_simp <;> with_reducible rfl)
              try simp only [Act.put, List.setIfInBounds_toArray, List.set_cons_zero, List.set_cons_succ]
              refine tqY 24 kO24 (some 32) ?vn2f24 rfl rfl (by kernel_rfl) (fun _ _ _ h => h) ?hn2f24 (by assumption) ?rn2f24
              case hn2f24 => (unfold kO24; intro w hSw; (try dsimp only at hSw); go_simp <;> with_reducible rfl)
              try simp only [Act.put, List.setIfInBounds_toArray, List.set_cons_zero, List.set_cons_succ]
              refine tqY 25 kO25 (some 33) ?vn2f25 rfl rfl (by kernel_rfl) (fun _ _ _ h => h) ?hn2f25 (by assumption) ?rn2f25
              case hn2f25 => (unfold kO25; intro w hSw; (try dsimp only at hSw); go_simp <;> with_reducible rfl)
              try simp only [Act.put, List.setIfInBounds_toArray, List.set_cons_zero, List.set_cons_succ]
              refine tqY 26 kO26 (some 34) ?vn2f26 rfl rfl (by kernel_rfl) (fun _ _ _ h => h) ?hn2f26 (by assumption) ?rn2f26
              case hn2f26 => (unfold kO26; intro w hSw; (try dsimp only at hSw); go_simp <;> with_reducible rfl)
              try simp only [Act.put, List.setIfInBounds_toArray, List.set_cons_zero, List.set_cons_succ]
              refine tqY 27 kO27 (some 35) ?vn2f27 rfl rfl (by kernel_rfl) (fun _ _ _ h => h) ?hn2f27 (by assumption) ?rn2f27
              case hn2f27 => (unfold kO27; intro w hSw; (try dsimp only at hSw); go_simp <;> with_reducible rfl)
              try simp only [Act.put, List.setIfInBounds_toArray, List.set_cons_zero, List.set_cons_succ]
              refine tqY 28 kO28 (some 36) ?vn2f28 rfl rfl (by kernel_rfl) (fun _ _ _ h => h) ?hn2f28 (by assumption) ?rn2f28
              case hn2f28 => (unfold kO28; intro w hSw; (try dsimp only at hSw); go_simp <;> with_reducible rfl)
              try simp only [Act.put, List.setIfInBounds_toArray, List.set_cons_zero, List.set_cons_succ]
              refine tqY 29 kO29 (some 37) ?vn2f29 rfl rfl (by kernel_rfl) (fun _ _ _ h => h) ?hn2f29 (by assumption) ?rn2f29
              case hn2f29 => (unfold kO29; intro w hSw; (try dsimp only at hSw); go_simp <;> with_reducible rfl)
              try simp only [Act.put, List.setIfInBounds_toArray, List.set_cons_zero, List.set_cons_succ]
              refine tqY 30 kO30 (some 38) ?vn2f30 rfl rfl (by kernel_rfl) (fun _ _ _ h => h) ?hn2f30 (by assumption) ?rn2f30
              case hn2f30 => (unfold kO30; intro w hSw; (try dsimp only at hSw); go_simp <;> with_reducible rfl)
              try simp only [Act.put, List.setIfInBounds_toArray, List.set_cons_zero, List.set_cons_succ]
              refine tqY 31 kO31 (some 39) ?vn2f31 rfl rfl (by kernel_rfl) (fun _ _ _ h => h) ?hn2f31 (by assumption) ?rn2f31
              case hn2f31 => (unfold kO31; intro w hSw; (try dsimp only at hSw); go_simp <;> with_reducible rfl)
              try simp only [Act.put, List.setIfInBounds_toArray, List.set_cons_zero, List.set_cons_succ]
              refine tqY 32 kO32 (some 40) ?vn2f32 rfl rfl (by kernel_rfl) (fun _ _ _ h => h) ?hn2f32 (by assumption) ?rn2f32
              case hn2f32 => (unfold kO32; intro w hSw; (try dsimp only at hSw); go_simp <;> with_reducible rfl)
              try simp only [Act.put, List.setIfInBounds_toArray, List.set_cons_zero, List.set_cons_succ]
              refine tqY 33 kO33 (some 41) ?vn2f33 rfl rfl (by kernel_rfl) (fun _ _ _ h => h) ?hn2f33 (by assumption) ?rn2f33
              case hn2f33 => (unfold kO33; intro w hSw; (try dsimp only at hSw); go_simp <;> with_reducible rfl)
              try simp only [Act.put, List.setIfInBounds_toArray, List.set_cons_zero, List.set_cons_succ]
              refine tqY 34 kO34 (some 42) ?vn2f34 rfl rfl (by kernel_rfl) (fun _ _ _ h => h) ?hn2f34 (by assumption) ?rn2f34
              case hn2f34 => (unfold kO34; intro w hSw; (try dsimp only at hSw); go_simp <;> with_reducible rfl)
              try simp only [Act.put, List.setIfInBounds_toArray, List.set_cons_zero, List.set_cons_succ]
              refine tqY 35 kO35 (some 43) ?vn2f35 rfl rfl (by kernel_rfl) (fun _ _ _ h => h) ?hn2f35 (by assumption) ?rn2f35
              case hn2f35 => (unfold kO35; intro w hSw; (try dsimp only at hSw); go_simp <;> with_reducible rfl)
              try simp only [Act.put, List.setIfInBounds_toArray, List.set_cons_zero, List.set_cons_succ]
              refine tqY 36 kO36 (some 44) ?vn2f36 rfl rfl (by kernel_rfl) (fun _ _ _ h => h) ?hn2f36 (by assumption) ?rn2f36
              case hn2f36 => (unfold kO36; intro w hSw; (try dsimp only at hSw); go_simp <;> with_reducible rfl)
              try simp only [Act.put, List.setIfInBounds_toArray, List.set_cons_zero, List.set_cons_succ]
              refine tqY 37 kO37 (some 45) ?vn2f37 rfl rfl (by kernel_rfl) (fun _ _ _ h => h) ?hn2f37 (by assumption) ?rn2f37
              case hn2f37 => (unfold kO37; intro w hSw; (try dsimp only at hSw); go_simp <;> with_reducible rfl)
              try simp only [Act.put, List.setIfInBounds_toArray, List.set_cons_zero, List.set_cons_succ]
              refine tqN 38 kO38 (some 46) rfl rfl (by kernel_rfl) (fun _ _ _ h => h) (by assumption) ?rn2f38
              try simp only [Act.put, List.setIfInBounds_toArray, List.set_cons_zero, List.set_cons_succ]
              refine tqN 39 kO39 (some 47) rfl rfl (by kernel_rfl) (fun _ _ _ h => h) (by assumption) ?rn2f39
              try simp only [Act.put, List.setIfInBounds_toArray, List.set_cons_zero, List.set_cons_succ]
              refine tqN 40 kO40 (some 48) rfl rfl (by kernel_rfl) (fun _ _ _ h => h) (by assumption) ?rn2f40
              try simp only [Act.put, List.setIfInBounds_toArray, List.set_cons_zero, List.set_cons_succ]
              refine tqN 41 kO41 (some 49) rfl rfl (by kernel_rfl) (fun _ _ _ h => h) (by assumption) ?rn2f41
              try simp only [Act.put, List.setIfInBounds_toArray, List.set_cons_zero, List.set_cons_succ]
              refine tqN 42 kO42 (some 50) rfl rfl (by kernel_rfl) (fun _ _ _ h => h) (by assumption) ?rn2f42
              try simp only [Act.put, List.setIfInBounds_toArray, List.set_cons_zero, List.set_cons_succ]
              refine tqY 43 kO43 (some 51) ?vn2f43 rfl rfl (by kernel_rfl) (fun _ _ _ h => h) ?hn2f43 (by assumption) ?rn2f43
              case hn2f43 => (unfold kO43; intro w hSw; (try dsimp only at hSw); go_simp <;> with_reducible rfl)
              try simp only [Act.put, List.setIfInBounds_toArray, List.set_cons_zero, List.set_cons_succ]
              refine wpAnyH_ready (rs := [44]) (by kernel_rfl) (by simp) ?_
              refine AllReadyH.cons (o := { dst := some 52, op := Op.call { callee := Callee.value (Operand.func 24), args := #[Operand.tmp 39, Operand.tmp 51], argTypes := #[9, 4] }, type := 4, pos := "form.go:64", after := #[{ on := 31, ground := Ground.data }, { on := 43, ground := Ground.data }, { on := 37, ground := Ground.chain }, { on := 27, ground := Ground.guard }], guard := some (27, false) }) rfl (fun K hK => ?_) AllReadyH.nil
              go_simp
              go_at_call 24; refine (formName_yes s _ HS.out).mono ?_; rintro e w9 ⟨he, hb9⟩
              rw [hnm] at he
              subst he
              have hx9 := HKp.out w9 (bnext hHeld.1.out hb9)
              clear hb9 hHeld
              refine hK.out _ _ hx9 (fun hHeld => ?_)
              clear hK K hx9
              try simp only [Act.put, List.setIfInBounds_toArray, List.set_cons_zero, List.set_cons_succ]
              refine tqY 45 kO45 (some 53) ?vn2f45 rfl rfl (by kernel_rfl) (fun _ _ _ h => h) ?hn2f45 (by assumption) ?rn2f45
              case hn2f45 => (unfold kO45; intro w hSw; (try dsimp only at hSw); go_simp <;> with_reducible rfl)
              try simp only [Act.put, List.setIfInBounds_toArray, List.set_cons_zero, List.set_cons_succ]
              refine tqY 46 kO46 (some 54) ?vn2f46 rfl rfl (by kernel_rfl) (fun _ _ _ h => h) ?hn2f46 (by assumption) ?rn2f46
              case hn2f46 => (unfold kO46; intro w hSw; (try dsimp only at hSw); go_simp <;> with_reducible rfl)
              try simp only [Act.put, List.setIfInBounds_toArray, List.set_cons_zero, List.set_cons_succ]
              refine tqY 47 kO47 (some 55) ?vn2f47 rfl rfl (by kernel_rfl) (fun _ _ _ h => h) ?hn2f47 (by assumption) ?rn2f47
              case hn2f47 => (unfold kO47; intro w hSw; (try dsimp only at hSw); go_simp <;> with_reducible rfl)
              try simp only [Act.put, List.setIfInBounds_toArray, List.set_cons_zero, List.set_cons_succ]
              refine tqN 48 kO48 (some 56) rfl rfl (by kernel_rfl) (fun _ _ _ h => h) (by assumption) ?rn2f48
              try simp only [Act.put, List.setIfInBounds_toArray, List.set_cons_zero, List.set_cons_succ]
              refine tqN 49 kO49 (some 57) rfl rfl (by kernel_rfl) (fun _ _ _ h => h) (by assumption) ?rn2f49
              try simp only [Act.put, List.setIfInBounds_toArray, List.set_cons_zero, List.set_cons_succ]
              refine tqN 50 kO50 (some 58) rfl rfl (by kernel_rfl) (fun _ _ _ h => h) (by assumption) ?rn2f50
              try simp only [Act.put, List.setIfInBounds_toArray, List.set_cons_zero, List.set_cons_succ]
              refine tqN 51 kO51 (some 59) rfl rfl (by kernel_rfl) (fun _ _ _ h => h) (by assumption) ?rn2f51
              try simp only [Act.put, List.setIfInBounds_toArray, List.set_cons_zero, List.set_cons_succ]
              refine tqN 52 kO52 (some 60) rfl rfl (by kernel_rfl) (fun _ _ _ h => h) (by assumption) ?rn2f52
              try simp only [Act.put, List.setIfInBounds_toArray, List.set_cons_zero, List.set_cons_succ]
              refine tqN 53 kO53 (some 61) rfl rfl (by kernel_rfl) (fun _ _ _ h => h) (by assumption) ?rn2f53
              try simp only [Act.put, List.setIfInBounds_toArray, List.set_cons_zero, List.set_cons_succ]
              refine tqN 54 kO54 (some 62) rfl rfl (by kernel_rfl) (fun _ _ _ h => h) (by assumption) ?rn2f54
              try simp only [Act.put, List.setIfInBounds_toArray, List.set_cons_zero, List.set_cons_succ]
              refine tqN 55 kO55 (some 63) rfl rfl (by kernel_rfl) (fun _ _ _ h => h) (by assumption) ?rn2f55
              try simp only [Act.put, List.setIfInBounds_toArray, List.set_cons_zero, List.set_cons_succ]
              refine tqN 56 kO56 (some 64) rfl rfl (by kernel_rfl) (fun _ _ _ h => h) (by assumption) ?rn2f56
              try simp only [Act.put, List.setIfInBounds_toArray, List.set_cons_zero, List.set_cons_succ]
              refine tqN 57 kO57 (some 65) rfl rfl (by kernel_rfl) (fun _ _ _ h => h) (by assumption) ?rn2f57
              try simp only [Act.put, List.setIfInBounds_toArray, List.set_cons_zero, List.set_cons_succ]
              refine tqN 58 kO58 (some 66) rfl rfl (by kernel_rfl) (fun _ _ _ h => h) (by assumption) ?rn2f58
              try simp only [Act.put, List.setIfInBounds_toArray, List.set_cons_zero, List.set_cons_succ]
              refine tqN 59 kO59 (some 67) rfl rfl (by kernel_rfl) (fun _ _ _ h => h) (by assumption) ?rn2f59
              try simp only [Act.put, List.setIfInBounds_toArray, List.set_cons_zero, List.set_cons_succ]
              refine tqY 60 kO60 (some 68) ?vn2f60 rfl rfl (by kernel_rfl) (fun _ _ _ h => h) ?hn2f60 (by assumption) ?rn2f60
              case hn2f60 => (unfold kO60; intro w hSw; (try dsimp only at hSw); go_simp <;> with_reducible rfl)
              try simp only [Act.put, List.setIfInBounds_toArray, List.set_cons_zero, List.set_cons_succ]
              refine wpAnyH_done (by kernel_rfl) ?_ _
              obtain ⟨⟨r1, r2⟩, r3⟩ := HEnd.out _ hHeld.1.out (fun hf => absurd (HFa.out hf) (by intro hh; have h9 := hh.2.1; rw [if_pos (by decide), hnm] at h9; exact absurd h9 (by decide)))
              have HR3 : Hid _ := r3
              clear r3
              gi_wp2_with fail
              exact HR3.out
            | true =>
              by_cases hx0 : x = 0
              · have tx : (x != 0) = false := by simp [hx0]
                replace hx0 : Hid (x = 0) := hx0
                have HKp : Hid (∀ Wc, Below Wb.heap.size Wb Wc → Aside (Below Wb.heap.size Wb Wc) ∧ Wc.cell? ⟨b, o, none⟩ = some (.int .i64 2) ∧ Wc.cell? ⟨b, o + 1, none⟩ = some (.int .u64 x) ∧ Wc.cell? ⟨b, o + 2, none⟩ = some (.string s) ∧ Wc.cell? ⟨b, o + 3, none⟩ = some (.slice aS nS cS) ∧ Wc.cell? ⟨1, 7, none⟩ = some (.int .i64 PP)) := fun Wc hc => ⟨hc, (hc.cell (p := ⟨b, o, none⟩) (Nat.lt_of_lt_of_le HB.out.1 HB.out.2.size)).trans y0, (hc.cell (p := ⟨b, o + 1, none⟩) (Nat.lt_of_lt_of_le HB.out.1 HB.out.2.size)).trans y1, (hc.cell (p := ⟨b, o + 2, none⟩) (Nat.lt_of_lt_of_le HB.out.1 HB.out.2.size)).trans y2, (hc.cell (p := ⟨b, o + 3, none⟩) (Nat.lt_of_lt_of_le HB.out.1 HB.out.2.size)).trans y3, (hc.cell (p := ⟨1, _, none⟩) HTb.out.2).trans ytb⟩
                have hk0 := HKp.out Wb.drew ⟨rfl, rfl, rfl, Nat.le_refl _, fun _ _ => rfl⟩
                gi_wp2_with fail
                refine region_round (S := (fun Wc => Aside (Below Wb.heap.size Wb Wc) ∧ Wc.cell? ⟨b, o, none⟩ = some (.int .i64 2) ∧ Wc.cell? ⟨b, o + 1, none⟩ = some (.int .u64 x) ∧ Wc.cell? ⟨b, o + 2, none⟩ = some (.string s) ∧ Wc.cell? ⟨b, o + 3, none⟩ = some (.slice aS nS cS) ∧ Wc.cell? ⟨1, 7, none⟩ = some (.int .i64 PP))) (by kernel_rfl) (by kernel_rfl) (by rintro ⟨_, _, h⟩; exact h) hk0 (fun hHeld => ?_)
                clear hk0
                refine tqY 0 kO0 (some 8) ?vn2g0 rfl rfl (by kernel_rfl) (fun _ _ _ h => h) ?hn2g0 (by assumption) ?rn2g0
                case hn2g0 => (unfold kO0; intro w hSw; (try dsimp only at hSw); go_simp <;> with_reducible rfl)
                try simp only [Act.put, List.setIfInBounds_toArray, List.set_cons_zero, List.set_cons_succ]
                refine tqY 1 kO1 (some 9) ?vn2g1 rfl rfl (by kernel_rfl) (fun _ _ _ h => h) ?hn2g1 (by assumption) ?rn2g1
                case hn2g1 => (unfold kO1; intro w hSw; (try dsimp only at hSw); go_simp <;> with_reducible rfl)
                try simp only [Act.put, List.setIfInBounds_toArray, List.set_cons_zero, List.set_cons_succ]
                refine tqY 2 kO2 (some 10) ?vn2g2 rfl rfl (by kernel_rfl) (fun _ _ _ h => h) ?hn2g2 (by assumption) ?rn2g2
                case hn2g2 => (unfold kO2; intro w hSw; (try dsimp only at hSw); go_simp <;> with_reducible rfl)
                try simp only [Act.put, List.setIfInBounds_toArray, List.set_cons_zero, List.set_cons_succ]
                refine tqY 3 kO3 (some 11) ?vn2g3 rfl rfl (by kernel_rfl) (fun _ _ _ h => h) ?hn2g3 (by assumption) ?rn2g3
                case hn2g3 => (unfold kO3; intro w hSw; (try dsimp only at hSw); go_simp <;> with_reducible rfl)
                try simp only [Act.put, List.setIfInBounds_toArray, List.set_cons_zero, List.set_cons_succ]
                refine tqY 4 kO4 (some 12) ?vn2g4 rfl rfl (by kernel_rfl) (fun _ _ _ h => h) ?hn2g4 (by assumption) ?rn2g4
                case hn2g4 => (unfold kO4; intro w hSw; (try dsimp only at hSw); go_simp <;> with_reducible rfl)
                try simp only [Act.put, List.setIfInBounds_toArray, List.set_cons_zero, List.set_cons_succ]
                refine tqY 5 kO5 (some 13) ?vn2g5 rfl rfl (by kernel_rfl) (fun _ _ _ h => h) ?hn2g5 (by assumption) ?rn2g5
                case hn2g5 => (unfold kO5; intro w hSw; (try dsimp only at hSw); go_simp <;> with_reducible rfl)
                try simp only [Act.put, List.setIfInBounds_toArray, List.set_cons_zero, List.set_cons_succ]
                refine tqY 6 kO6 (some 14) ?vn2g6 rfl rfl (by kernel_rfl) (fun _ _ _ h => h) ?hn2g6 (by assumption) ?rn2g6
                case hn2g6 => (unfold kO6; intro w hSw; (try dsimp only at hSw); go_simp <;> with_reducible rfl)
                try simp only [Act.put, List.setIfInBounds_toArray, List.set_cons_zero, List.set_cons_succ]
                refine tqY 7 kO7 (some 15) ?vn2g7 rfl rfl (by kernel_rfl) (fun _ _ _ h => h) ?hn2g7 (by assumption) ?rn2g7
                case hn2g7 => (unfold kO7; intro w hSw; (try dsimp only at hSw); go_simp <;> with_reducible rfl)
                try simp only [Act.put, List.setIfInBounds_toArray, List.set_cons_zero, List.set_cons_succ]
                refine tqY 8 kO8 (some 16) ?vn2g8 rfl rfl (by kernel_rfl) (fun _ _ _ h => h) ?hn2g8 (by assumption) ?rn2g8
                case hn2g8 => (unfold kO8; intro w hSw; (try dsimp only at hSw); go_simp <;> with_reducible rfl)
                try simp only [Act.put, List.setIfInBounds_toArray, List.set_cons_zero, List.set_cons_succ]
                refine tqY 9 kO9 (some 17) ?vn2g9 rfl rfl (by kernel_rfl) (fun _ _ _ h => h) ?hn2g9 (by assumption) ?rn2g9
                case hn2g9 => (unfold kO9; intro w hSw; (try dsimp only at hSw); go_simp <;> with_reducible rfl)
                try simp only [Act.put, List.setIfInBounds_toArray, List.set_cons_zero, List.set_cons_succ]
                refine tqY 10 kO10 (some 18) ?vn2g10 rfl rfl (by kernel_rfl) (fun _ _ _ h => h) ?hn2g10 (by assumption) ?rn2g10
                case hn2g10 => (unfold kO10; intro w hSw; (try dsimp only at hSw); go_simp <;> with_reducible rfl)
                try simp only [Act.put, List.setIfInBounds_toArray, List.set_cons_zero, List.set_cons_succ]
                refine tqY 11 kO11 (some 19) ?vn2g11 rfl rfl (by kernel_rfl) (fun _ _ _ h => h) ?hn2g11 (by assumption) ?rn2g11
                case hn2g11 => (unfold kO11; intro w hSw; (try dsimp only at hSw); go_simp <;> with_reducible rfl)
                try simp only [Act.put, List.setIfInBounds_toArray, List.set_cons_zero, List.set_cons_succ]
                refine tqY 12 kO12 (some 20) ?vn2g12 rfl rfl (by kernel_rfl) (fun _ _ _ h => h) ?hn2g12 (by assumption) ?rn2g12
                case hn2g12 => (unfold kO12; intro w hSw; (try dsimp only at hSw); go_simp <;> with_reducible rfl)
                try simp only [Act.put, List.setIfInBounds_toArray, List.set_cons_zero, List.set_cons_succ]
                refine tqY 13 kO13 (some 21) ?vn2g13 rfl rfl (by kernel_rfl) (fun _ _ _ h => h) ?hn2g13 (by assumption) ?rn2g13
                case hn2g13 => (unfold kO13; intro w hSw; (try dsimp only at hSw); go_simp <;> with_reducible rfl)
                try simp only [Act.put, List.setIfInBounds_toArray, List.set_cons_zero, List.set_cons_succ]
                refine tqY 14 kO14 (some 22) ?vn2g14 rfl rfl (by kernel_rfl) (fun _ _ _ h => h) ?hn2g14 (by assumption) ?rn2g14
                case hn2g14 => (unfold kO14; intro w hSw; (try dsimp only at hSw); go_simp <;> with_reducible rfl)
                try simp only [Act.put, List.setIfInBounds_toArray, List.set_cons_zero, List.set_cons_succ]
                refine tqY 15 kO15 (some 23) ?vn2g15 rfl rfl (by kernel_rfl) (fun _ _ _ h => h) ?hn2g15 (by assumption) ?rn2g15
                case hn2g15 => (unfold kO15; intro w hSw; (try dsimp only at hSw); go_simp <;> with_reducible rfl)
                try simp only [Act.put, List.setIfInBounds_toArray, List.set_cons_zero, List.set_cons_succ]
                refine tqY 16 kO16 (some 24) ?vn2g16 rfl rfl (by kernel_rfl) (fun _ _ _ h => h) ?hn2g16 (by assumption) ?rn2g16
                case hn2g16 => (unfold kO16; intro w hSw; (try dsimp only at hSw); go_simp <;> with_reducible rfl)
                try simp only [Act.put, List.setIfInBounds_toArray, List.set_cons_zero, List.set_cons_succ]
                refine tqY 17 kO17 (some 25) ?vn2g17 rfl rfl (by kernel_rfl) (fun _ _ _ h => h) ?hn2g17 (by assumption) ?rn2g17
                case hn2g17 => (unfold kO17; intro w hSw; (try dsimp only at hSw); go_simp <;> with_reducible rfl)
                try simp only [Act.put, List.setIfInBounds_toArray, List.set_cons_zero, List.set_cons_succ]
                refine tqY 18 kO18 (some 26) ?vn2g18 rfl rfl (by kernel_rfl) (fun _ _ _ h => h) ?hn2g18 (by assumption) ?rn2g18
                case hn2g18 => (unfold kO18; intro w hSw; (try dsimp only at hSw); go_simp <;> with_reducible rfl)
                try simp only [Act.put, List.setIfInBounds_toArray, List.set_cons_zero, List.set_cons_succ]
                refine tqY 19 kO19 (some 27) ?vn2g19 rfl rfl (by kernel_rfl) (fun _ _ _ h => h) ?hn2g19 (by assumption) ?rn2g19
                case hn2g19 => (unfold kO19; intro w hSw; (try dsimp only at hSw); go_simp <;> with_reducible rfl)
                try simp only [Act.put, List.setIfInBounds_toArray, List.set_cons_zero, List.set_cons_succ]
                refine tqY 20 kO20 (some 28) ?vn2g20 rfl rfl (by kernel_rfl) (fun _ _ _ h => h) ?hn2g20 (by assumption) ?rn2g20
                case hn2g20 => (unfold kO20; intro w hSw; (try dsimp only at hSw); go_simp <;> with_reducible rfl)
                try simp only [Act.put, List.setIfInBounds_toArray, List.set_cons_zero, List.set_cons_succ]
                refine tqY 21 kO21 (some 29) ?vn2g21 rfl rfl (by kernel_rfl) (fun _ _ _ h => h) ?hn2g21 (by assumption) ?rn2g21
                case hn2g21 => (unfold kO21; intro w hSw; (try dsimp only at hSw); go_simp <;> with_reducible rfl)
                try simp only [Act.put, List.setIfInBounds_toArray, List.set_cons_zero, List.set_cons_succ]
                refine tqY 22 kO22 (some 30) ?vn2g22 rfl rfl (by kernel_rfl) (fun _ _ _ h => h) ?hn2g22 (by assumption) ?rn2g22
                case hn2g22 => (unfold kO22; intro w hSw; (try dsimp only at hSw); go_simp <;> with_reducible rfl)
                try simp only [Act.put, List.setIfInBounds_toArray, List.set_cons_zero, List.set_cons_succ]
                refine tqY 23 kO23 (some 31) ?vn2g23 rfl rfl (by kernel_rfl) (fun _ _ _ h => h) ?hn2g23 (by assumption) ?rn2g23
                case hn2g23 => (unfold kO23; intro w hSw; (try dsimp only at hSw); go_simp <;> with_reducible rfl)
                try simp only [Act.put, List.setIfInBounds_toArray, List.set_cons_zero, List.set_cons_succ]
                refine tqY 24 kO24 (some 32) ?vn2g24 rfl rfl (by kernel_rfl) (fun _ _ _ h => h) ?hn2g24 (by assumption) ?rn2g24
                case hn2g24 => (unfold kO24; intro w hSw; (try dsimp only at hSw); go_simp <;> with_reducible rfl)
                try simp only [Act.put, List.setIfInBounds_toArray, List.set_cons_zero, List.set_cons_succ]
                refine tqY 25 kO25 (some 33) ?vn2g25 rfl rfl (by kernel_rfl) (fun _ _ _ h => h) ?hn2g25 (by assumption) ?rn2g25
                case hn2g25 => (unfold kO25; intro w hSw; (try dsimp only at hSw); go_simp <;> with_reducible rfl)
                try simp only [Act.put, List.setIfInBounds_toArray, List.set_cons_zero, List.set_cons_succ]
                refine tqY 26 kO26 (some 34) ?vn2g26 rfl rfl (by kernel_rfl) (fun _ _ _ h => h) ?hn2g26 (by assumption) ?rn2g26
                case hn2g26 => (unfold kO26; intro w hSw; (try dsimp only at hSw); go_simp <;> with_reducible rfl)
                try simp only [Act.put, List.setIfInBounds_toArray, List.set_cons_zero, List.set_cons_succ]
                refine tqY 27 kO27 (some 35) ?vn2g27 rfl rfl (by kernel_rfl) (fun _ _ _ h => h) ?hn2g27 (by assumption) ?rn2g27
                case hn2g27 => (unfold kO27; intro w hSw; (try dsimp only at hSw); go_simp <;> with_reducible rfl)
                try simp only [Act.put, List.setIfInBounds_toArray, List.set_cons_zero, List.set_cons_succ]
                refine tqY 28 kO28 (some 36) ?vn2g28 rfl rfl (by kernel_rfl) (fun _ _ _ h => h) ?hn2g28 (by assumption) ?rn2g28
                case hn2g28 => (unfold kO28; intro w hSw; (try dsimp only at hSw); go_simp <;> with_reducible rfl)
                try simp only [Act.put, List.setIfInBounds_toArray, List.set_cons_zero, List.set_cons_succ]
                refine tqY 29 kO29 (some 37) ?vn2g29 rfl rfl (by kernel_rfl) (fun _ _ _ h => h) ?hn2g29 (by assumption) ?rn2g29
                case hn2g29 => (unfold kO29; intro w hSw; (try dsimp only at hSw); go_simp <;> with_reducible rfl)
                try simp only [Act.put, List.setIfInBounds_toArray, List.set_cons_zero, List.set_cons_succ]
                refine tqY 30 kO30 (some 38) ?vn2g30 rfl rfl (by kernel_rfl) (fun _ _ _ h => h) ?hn2g30 (by assumption) ?rn2g30
                case hn2g30 => (unfold kO30; intro w hSw; (try dsimp only at hSw); go_simp <;> with_reducible rfl)
                try simp only [Act.put, List.setIfInBounds_toArray, List.set_cons_zero, List.set_cons_succ]
                refine tqY 31 kO31 (some 39) ?vn2g31 rfl rfl (by kernel_rfl) (fun _ _ _ h => h) ?hn2g31 (by assumption) ?rn2g31
                case hn2g31 => (unfold kO31; intro w hSw; (try dsimp only at hSw); go_simp <;> with_reducible rfl)
                try simp only [Act.put, List.setIfInBounds_toArray, List.set_cons_zero, List.set_cons_succ]
                refine tqY 32 kO32 (some 40) ?vn2g32 rfl rfl (by kernel_rfl) (fun _ _ _ h => h) ?hn2g32 (by assumption) ?rn2g32
                case hn2g32 => (unfold kO32; intro w hSw; (try dsimp only at hSw); go_simp <;> with_reducible rfl)
                try simp only [Act.put, List.setIfInBounds_toArray, List.set_cons_zero, List.set_cons_succ]
                refine tqY 33 kO33 (some 41) ?vn2g33 rfl rfl (by kernel_rfl) (fun _ _ _ h => h) ?hn2g33 (by assumption) ?rn2g33
                case hn2g33 => (unfold kO33; intro w hSw; (try dsimp only at hSw); go_simp <;> with_reducible rfl)
                try simp only [Act.put, List.setIfInBounds_toArray, List.set_cons_zero, List.set_cons_succ]
                refine tqY 34 kO34 (some 42) ?vn2g34 rfl rfl (by kernel_rfl) (fun _ _ _ h => h) ?hn2g34 (by assumption) ?rn2g34
                case hn2g34 => (unfold kO34; intro w hSw; (try dsimp only at hSw); go_simp <;> with_reducible rfl)
                try simp only [Act.put, List.setIfInBounds_toArray, List.set_cons_zero, List.set_cons_succ]
                refine tqY 35 kO35 (some 43) ?vn2g35 rfl rfl (by kernel_rfl) (fun _ _ _ h => h) ?hn2g35 (by assumption) ?rn2g35
                case hn2g35 => (unfold kO35; intro w hSw; (try dsimp only at hSw); go_simp <;> with_reducible rfl)
                try simp only [Act.put, List.setIfInBounds_toArray, List.set_cons_zero, List.set_cons_succ]
                refine tqY 36 kO36 (some 44) ?vn2g36 rfl rfl (by kernel_rfl) (fun _ _ _ h => h) ?hn2g36 (by assumption) ?rn2g36
                case hn2g36 => (unfold kO36; intro w hSw; (try dsimp only at hSw); go_simp <;> with_reducible rfl)
                try simp only [Act.put, List.setIfInBounds_toArray, List.set_cons_zero, List.set_cons_succ]
                refine tqY 37 kO37 (some 45) ?vn2g37 rfl rfl (by kernel_rfl) (fun _ _ _ h => h) ?hn2g37 (by assumption) ?rn2g37
                case hn2g37 => (unfold kO37; intro w hSw; (try dsimp only at hSw); go_simp <;> with_reducible rfl)
                try simp only [Act.put, List.setIfInBounds_toArray, List.set_cons_zero, List.set_cons_succ]
                refine tqN 38 kO38 (some 46) rfl rfl (by kernel_rfl) (fun _ _ _ h => h) (by assumption) ?rn2g38
                try simp only [Act.put, List.setIfInBounds_toArray, List.set_cons_zero, List.set_cons_succ]
                refine tqN 39 kO39 (some 47) rfl rfl (by kernel_rfl) (fun _ _ _ h => h) (by assumption) ?rn2g39
                try simp only [Act.put, List.setIfInBounds_toArray, List.set_cons_zero, List.set_cons_succ]
                refine tqN 40 kO40 (some 48) rfl rfl (by kernel_rfl) (fun _ _ _ h => h) (by assumption) ?rn2g40
                try simp only [Act.put, List.setIfInBounds_toArray, List.set_cons_zero, List.set_cons_succ]
                refine tqN 41 kO41 (some 49) rfl rfl (by kernel_rfl) (fun _ _ _ h => h) (by assumption) ?rn2g41
                try simp only [Act.put, List.setIfInBounds_toArray, List.set_cons_zero, List.set_cons_succ]
                refine tqN 42 kO42 (some 50) rfl rfl (by kernel_rfl) (fun _ _ _ h => h) (by assumption) ?rn2g42
                try simp only [Act.put, List.setIfInBounds_toArray, List.set_cons_zero, List.set_cons_succ]
                refine tqY 43 kO43 (some 51) ?vn2g43 rfl rfl (by kernel_rfl) (fun _ _ _ h => h) ?hn2g43 (by assumption) ?rn2g43
                case hn2g43 => (unfold kO43; intro w hSw; (try dsimp only at hSw); go_simp <;> with_reducible rfl)
                try simp only [Act.put, List.setIfInBounds_toArray, List.set_cons_zero, List.set_cons_succ]
                refine wpAnyH_ready (rs := [44]) (by kernel_rfl) (by simp) ?_
                refine AllReadyH.cons (o := { dst := some 52, op := Op.call { callee := Callee.value (Operand.func 24), args := #[Operand.tmp 39, Operand.tmp 51], argTypes := #[9, 4] }, type := 4, pos := "form.go:64", after := #[{ on := 31, ground := Ground.data }, { on := 43, ground := Ground.data }, { on := 37, ground := Ground.chain }, { on := 27, ground := Ground.guard }], guard := some (27, false) }) rfl (fun K hK => ?_) AllReadyH.nil
                go_simp
                go_at_call 24; refine (formName_yes s _ HS.out).mono ?_; rintro e w9 ⟨he, hb9⟩
                rw [hnm] at he
                subst he
                have hx9 := HKp.out w9 (bnext hHeld.1.out hb9)
                clear hb9 hHeld
                refine hK.out _ _ hx9 (fun hHeld => ?_)
                clear hK K hx9
                try simp only [Act.put, List.setIfInBounds_toArray, List.set_cons_zero, List.set_cons_succ]
                refine tqY 45 kO45 (some 53) ?vn2g45 rfl rfl (by kernel_rfl) (fun _ _ _ h => h) ?hn2g45 (by assumption) ?rn2g45
                case hn2g45 => (unfold kO45; intro w hSw; (try dsimp only at hSw); go_simp <;> with_reducible rfl)
                try simp only [Act.put, List.setIfInBounds_toArray, List.set_cons_zero, List.set_cons_succ]
                refine tqY 46 kO46 (some 54) ?vn2g46 rfl rfl (by kernel_rfl) (fun _ _ _ h => h) ?hn2g46 (by assumption) ?rn2g46
                case hn2g46 => (unfold kO46; intro w hSw; (try dsimp only at hSw); go_simp <;> with_reducible rfl)
                try simp only [Act.put, List.setIfInBounds_toArray, List.set_cons_zero, List.set_cons_succ]
                refine tqY 47 kO47 (some 55) ?vn2g47 rfl rfl (by kernel_rfl) (fun _ _ _ h => h) ?hn2g47 (by assumption) ?rn2g47
                case hn2g47 => (unfold kO47; intro w hSw; (try dsimp only at hSw); go_simp <;> with_reducible rfl)
                try simp only [Act.put, List.setIfInBounds_toArray, List.set_cons_zero, List.set_cons_succ]
                refine tqY 48 kO48 (some 56) ?vn2g48 rfl rfl (by kernel_rfl) (fun _ _ _ h => h) ?hn2g48 (by assumption) ?rn2g48
                case hn2g48 => (unfold kO48; intro w hSw; (try dsimp only at hSw); go_simp <;> with_reducible rfl)
                try simp only [Act.put, List.setIfInBounds_toArray, List.set_cons_zero, List.set_cons_succ]
                refine tqY 49 kO49 (some 57) ?vn2g49 rfl rfl (by kernel_rfl) (fun _ _ _ h => h) ?hn2g49 (by assumption) ?rn2g49
                case hn2g49 => (unfold kO49; intro w hSw; (try dsimp only at hSw); go_simp <;> with_reducible rfl)
                try simp only [Act.put, List.setIfInBounds_toArray, List.set_cons_zero, List.set_cons_succ]
                refine tqY 50 kO50 (some 58) ?vn2g50 rfl rfl (by kernel_rfl) (fun _ _ _ h => h) ?hn2g50 (by assumption) ?rn2g50
                case hn2g50 => (unfold kO50; intro w hSw; (try dsimp only at hSw); go_simp <;> with_reducible rfl)
                try simp only [Act.put, List.setIfInBounds_toArray, List.set_cons_zero, List.set_cons_succ]
                refine tqY 51 kO51 (some 59) ?vn2g51 rfl rfl (by kernel_rfl) (fun _ _ _ h => h) ?hn2g51 (by assumption) ?rn2g51
                case hn2g51 => (unfold kO51; intro w hSw; (try dsimp only at hSw); go_simp <;> with_reducible rfl)
                try simp only [Act.put, List.setIfInBounds_toArray, List.set_cons_zero, List.set_cons_succ]
                refine tqY 52 kO52 (some 60) ?vn2g52 rfl rfl (by kernel_rfl) (fun _ _ _ h => h) ?hn2g52 (by assumption) ?rn2g52
                case hn2g52 => (unfold kO52; intro w hSw; (try dsimp only at hSw); go_simp <;> with_reducible rfl)
                try simp only [Act.put, List.setIfInBounds_toArray, List.set_cons_zero, List.set_cons_succ]
                refine tqY 53 kO53 (some 61) ?vn2g53 rfl rfl (by kernel_rfl) (fun _ _ _ h => h) ?hn2g53 (by assumption) ?rn2g53
                case hn2g53 => (unfold kO53; intro w hSw; (try dsimp only at hSw); go_simp <;> with_reducible rfl)
                try simp only [Act.put, List.setIfInBounds_toArray, List.set_cons_zero, List.set_cons_succ]
                refine tqY 54 kO54 (some 62) ?vn2g54 rfl rfl (by kernel_rfl) (fun _ _ _ h => h) ?hn2g54 (by assumption) ?rn2g54
                case hn2g54 => (unfold kO54; intro w hSw; (try dsimp only at hSw); go_simp <;> with_reducible rfl)
                try simp only [Act.put, List.setIfInBounds_toArray, List.set_cons_zero, List.set_cons_succ]
                refine tqY 55 kO55 (some 63) ?vn2g55 rfl rfl (by kernel_rfl) (fun _ _ _ h => h) ?hn2g55 (by assumption) ?rn2g55
                case hn2g55 => (unfold kO55; intro w hSw; (try dsimp only at hSw); go_simp <;> with_reducible rfl)
                try simp only [Act.put, List.setIfInBounds_toArray, List.set_cons_zero, List.set_cons_succ]
                refine tqY 56 kO56 (some 64) ?vn2g56 rfl rfl (by kernel_rfl) (fun _ _ _ h => h) ?hn2g56 (by assumption) ?rn2g56
                case hn2g56 => (unfold kO56; intro w hSw; (try dsimp only at hSw); go_simp <;> with_reducible rfl)
                try simp only [Act.put, List.setIfInBounds_toArray, List.set_cons_zero, List.set_cons_succ]
                refine tqY 57 kO57 (some 65) ?vn2g57 rfl rfl (by kernel_rfl) (fun _ _ _ h => h) ?hn2g57 (by assumption) ?rn2g57
                case hn2g57 => (unfold kO57; intro w hSw; (try dsimp only at hSw); go_simp <;> with_reducible rfl)
                try simp only [Act.put, List.setIfInBounds_toArray, List.set_cons_zero, List.set_cons_succ]
                refine tqY 58 kO58 (some 66) ?vn2g58 rfl rfl (by kernel_rfl) (fun _ _ _ h => h) ?hn2g58 (by assumption) ?rn2g58
                case hn2g58 => (unfold kO58; intro w hSw; (try dsimp only at hSw); go_simp <;> with_reducible rfl)
                try simp only [Act.put, List.setIfInBounds_toArray, List.set_cons_zero, List.set_cons_succ]
                refine tqY 59 kO59 (some 67) ?vn2g59 rfl rfl (by kernel_rfl) (fun _ _ _ h => h) ?hn2g59 (by assumption) ?rn2g59
                case hn2g59 => (unfold kO59; intro w hSw; (try dsimp only at hSw); go_simp <;> with_reducible rfl)
                try simp only [Act.put, List.setIfInBounds_toArray, List.set_cons_zero, List.set_cons_succ]
                refine tqY 60 kO60 (some 68) ?vn2g60 rfl rfl (by kernel_rfl) (fun _ _ _ h => h) ?hn2g60 (by assumption) ?rn2g60
                case hn2g60 => (unfold kO60; intro w hSw; (try dsimp only at hSw); go_simp <;> with_reducible rfl)
                try simp only [Act.put, List.setIfInBounds_toArray, List.set_cons_zero, List.set_cons_succ]
                refine wpAnyH_done (by kernel_rfl) ?_ _
                have HBl := hHeld.1
                gi_wp2_with fail
                exact ⟨HBl.out, ⟨by rw [hPP.out]; exact hpl.out, by rw [if_pos (by decide)]; exact hnm, Or.inr hx0.out⟩⟩
              · have tx : (x != 0) = true := by simpa using hx0
                have HKp : Hid (∀ Wc, Below Wb.heap.size Wb Wc → Aside (Below Wb.heap.size Wb Wc) ∧ Wc.cell? ⟨b, o, none⟩ = some (.int .i64 2) ∧ Wc.cell? ⟨b, o + 1, none⟩ = some (.int .u64 x) ∧ Wc.cell? ⟨b, o + 2, none⟩ = some (.string s) ∧ Wc.cell? ⟨b, o + 3, none⟩ = some (.slice aS nS cS) ∧ Wc.cell? ⟨1, 7, none⟩ = some (.int .i64 PP)) := fun Wc hc => ⟨hc, (hc.cell (p := ⟨b, o, none⟩) (Nat.lt_of_lt_of_le HB.out.1 HB.out.2.size)).trans y0, (hc.cell (p := ⟨b, o + 1, none⟩) (Nat.lt_of_lt_of_le HB.out.1 HB.out.2.size)).trans y1, (hc.cell (p := ⟨b, o + 2, none⟩) (Nat.lt_of_lt_of_le HB.out.1 HB.out.2.size)).trans y2, (hc.cell (p := ⟨b, o + 3, none⟩) (Nat.lt_of_lt_of_le HB.out.1 HB.out.2.size)).trans y3, (hc.cell (p := ⟨1, _, none⟩) HTb.out.2).trans ytb⟩
                have hk0 := HKp.out Wb.drew ⟨rfl, rfl, rfl, Nat.le_refl _, fun _ _ => rfl⟩
                gi_wp2_with fail
                refine region_round (S := (fun Wc => Aside (Below Wb.heap.size Wb Wc) ∧ Wc.cell? ⟨b, o, none⟩ = some (.int .i64 2) ∧ Wc.cell? ⟨b, o + 1, none⟩ = some (.int .u64 x) ∧ Wc.cell? ⟨b, o + 2, none⟩ = some (.string s) ∧ Wc.cell? ⟨b, o + 3, none⟩ = some (.slice aS nS cS) ∧ Wc.cell? ⟨1, 7, none⟩ = some (.int .i64 PP))) (by kernel_rfl) (by kernel_rfl) (by rintro ⟨_, _, h⟩; exact h) hk0 (fun hHeld => ?_)
                clear hk0
                refine tqY 0 kO0 (some 8) ?vn2h0 rfl rfl (by kernel_rfl) (fun _ _ _ h => h) ?hn2h0 (by assumption) ?rn2h0
                case hn2h0 => (unfold kO0; intro w hSw; (try dsimp only at hSw); go_simp <;> with_reducible rfl)
                try simp only [Act.put, List.setIfInBounds_toArray, List.set_cons_zero, List.set_cons_succ]
                refine tqY 1 kO1 (some 9) ?vn2h1 rfl rfl (by kernel_rfl) (fun _ _ _ h => h) ?hn2h1 (by assumption) ?rn2h1
                case hn2h1 => (unfold kO1; intro w hSw; (try dsimp only at hSw); go_simp <;> with_reducible rfl)
                try simp only [Act.put, List.setIfInBounds_toArray, List.set_cons_zero, List.set_cons_succ]
                refine tqY 2 kO2 (some 10) ?vn2h2 rfl rfl (by kernel_rfl) (fun _ _ _ h => h) ?hn2h2 (by assumption) ?rn2h2
                case hn2h2 => (unfold kO2; intro w hSw; (try dsimp only at hSw); go_simp <;> with_reducible rfl)
                try simp only [Act.put, List.setIfInBounds_toArray, List.set_cons_zero, List.set_cons_succ]
                refine tqY 3 kO3 (some 11) ?vn2h3 rfl rfl (by kernel_rfl) (fun _ _ _ h => h) ?hn2h3 (by assumption) ?rn2h3
                case hn2h3 => (unfold kO3; intro w hSw; (try dsimp only at hSw); go_simp <;> with_reducible rfl)
                try simp only [Act.put, List.setIfInBounds_toArray, List.set_cons_zero, List.set_cons_succ]
                refine tqY 4 kO4 (some 12) ?vn2h4 rfl rfl (by kernel_rfl) (fun _ _ _ h => h) ?hn2h4 (by assumption) ?rn2h4
                case hn2h4 => (unfold kO4; intro w hSw; (try dsimp only at hSw); go_simp <;> with_reducible rfl)
                try simp only [Act.put, List.setIfInBounds_toArray, List.set_cons_zero, List.set_cons_succ]
                refine tqY 5 kO5 (some 13) ?vn2h5 rfl rfl (by kernel_rfl) (fun _ _ _ h => h) ?hn2h5 (by assumption) ?rn2h5
                case hn2h5 => (unfold kO5; intro w hSw; (try dsimp only at hSw); go_simp <;> with_reducible rfl)
                try simp only [Act.put, List.setIfInBounds_toArray, List.set_cons_zero, List.set_cons_succ]
                refine tqY 6 kO6 (some 14) ?vn2h6 rfl rfl (by kernel_rfl) (fun _ _ _ h => h) ?hn2h6 (by assumption) ?rn2h6
                case hn2h6 => (unfold kO6; intro w hSw; (try dsimp only at hSw); go_simp <;> with_reducible rfl)
                try simp only [Act.put, List.setIfInBounds_toArray, List.set_cons_zero, List.set_cons_succ]
                refine tqY 7 kO7 (some 15) ?vn2h7 rfl rfl (by kernel_rfl) (fun _ _ _ h => h) ?hn2h7 (by assumption) ?rn2h7
                case hn2h7 => (unfold kO7; intro w hSw; (try dsimp only at hSw); go_simp <;> with_reducible rfl)
                try simp only [Act.put, List.setIfInBounds_toArray, List.set_cons_zero, List.set_cons_succ]
                refine tqY 8 kO8 (some 16) ?vn2h8 rfl rfl (by kernel_rfl) (fun _ _ _ h => h) ?hn2h8 (by assumption) ?rn2h8
                case hn2h8 => (unfold kO8; intro w hSw; (try dsimp only at hSw); go_simp <;> with_reducible rfl)
                try simp only [Act.put, List.setIfInBounds_toArray, List.set_cons_zero, List.set_cons_succ]
                refine tqY 9 kO9 (some 17) ?vn2h9 rfl rfl (by kernel_rfl) (fun _ _ _ h => h) ?hn2h9 (by assumption) ?rn2h9
                case hn2h9 => (unfold kO9; intro w hSw; (try dsimp only at hSw); go_simp <;> with_reducible rfl)
                try simp only [Act.put, List.setIfInBounds_toArray, List.set_cons_zero, List.set_cons_succ]
                refine tqY 10 kO10 (some 18) ?vn2h10 rfl rfl (by kernel_rfl) (fun _ _ _ h => h) ?hn2h10 (by assumption) ?rn2h10
                case hn2h10 => (unfold kO10; intro w hSw; (try dsimp only at hSw); go_simp <;> with_reducible rfl)
                try simp only [Act.put, List.setIfInBounds_toArray, List.set_cons_zero, List.set_cons_succ]
                refine tqY 11 kO11 (some 19) ?vn2h11 rfl rfl (by kernel_rfl) (fun _ _ _ h => h) ?hn2h11 (by assumption) ?rn2h11
                case hn2h11 => (unfold kO11; intro w hSw; (try dsimp only at hSw); go_simp <;> with_reducible rfl)
                try simp only [Act.put, List.setIfInBounds_toArray, List.set_cons_zero, List.set_cons_succ]
                refine tqY 12 kO12 (some 20) ?vn2h12 rfl rfl (by kernel_rfl) (fun _ _ _ h => h) ?hn2h12 (by assumption) ?rn2h12
                case hn2h12 => (unfold kO12; intro w hSw; (try dsimp only at hSw); go_simp <;> with_reducible rfl)
                try simp only [Act.put, List.setIfInBounds_toArray, List.set_cons_zero, List.set_cons_succ]
                refine tqY 13 kO13 (some 21) ?vn2h13 rfl rfl (by kernel_rfl) (fun _ _ _ h => h) ?hn2h13 (by assumption) ?rn2h13
                case hn2h13 => (unfold kO13; intro w hSw; (try dsimp only at hSw); go_simp <;> with_reducible rfl)
                try simp only [Act.put, List.setIfInBounds_toArray, List.set_cons_zero, List.set_cons_succ]
                refine tqY 14 kO14 (some 22) ?vn2h14 rfl rfl (by kernel_rfl) (fun _ _ _ h => h) ?hn2h14 (by assumption) ?rn2h14
                case hn2h14 => (unfold kO14; intro w hSw; (try dsimp only at hSw); go_simp <;> with_reducible rfl)
                try simp only [Act.put, List.setIfInBounds_toArray, List.set_cons_zero, List.set_cons_succ]
                refine tqY 15 kO15 (some 23) ?vn2h15 rfl rfl (by kernel_rfl) (fun _ _ _ h => h) ?hn2h15 (by assumption) ?rn2h15
                case hn2h15 => (unfold kO15; intro w hSw; (try dsimp only at hSw); go_simp <;> with_reducible rfl)
                try simp only [Act.put, List.setIfInBounds_toArray, List.set_cons_zero, List.set_cons_succ]
                refine tqY 16 kO16 (some 24) ?vn2h16 rfl rfl (by kernel_rfl) (fun _ _ _ h => h) ?hn2h16 (by assumption) ?rn2h16
                case hn2h16 => (unfold kO16; intro w hSw; (try dsimp only at hSw); go_simp <;> with_reducible rfl)
                try simp only [Act.put, List.setIfInBounds_toArray, List.set_cons_zero, List.set_cons_succ]
                refine tqY 17 kO17 (some 25) ?vn2h17 rfl rfl (by kernel_rfl) (fun _ _ _ h => h) ?hn2h17 (by assumption) ?rn2h17
                case hn2h17 => (unfold kO17; intro w hSw; (try dsimp only at hSw); go_simp <;> with_reducible rfl)
                try simp only [Act.put, List.setIfInBounds_toArray, List.set_cons_zero, List.set_cons_succ]
                refine tqY 18 kO18 (some 26) ?vn2h18 rfl rfl (by kernel_rfl) (fun _ _ _ h => h) ?hn2h18 (by assumption) ?rn2h18
                case hn2h18 => (unfold kO18; intro w hSw; (try dsimp only at hSw); go_simp <;> with_reducible rfl)
                try simp only [Act.put, List.setIfInBounds_toArray, List.set_cons_zero, List.set_cons_succ]
                refine tqY 19 kO19 (some 27) ?vn2h19 rfl rfl (by kernel_rfl) (fun _ _ _ h => h) ?hn2h19 (by assumption) ?rn2h19
                case hn2h19 => (unfold kO19; intro w hSw; (try dsimp only at hSw); go_simp <;> with_reducible rfl)
                try simp only [Act.put, List.setIfInBounds_toArray, List.set_cons_zero, List.set_cons_succ]
                refine tqY 20 kO20 (some 28) ?vn2h20 rfl rfl (by kernel_rfl) (fun _ _ _ h => h) ?hn2h20 (by assumption) ?rn2h20
                case hn2h20 => (unfold kO20; intro w hSw; (try dsimp only at hSw); go_simp <;> with_reducible rfl)
                try simp only [Act.put, List.setIfInBounds_toArray, List.set_cons_zero, List.set_cons_succ]
                refine tqY 21 kO21 (some 29) ?vn2h21 rfl rfl (by kernel_rfl) (fun _ _ _ h => h) ?hn2h21 (by assumption) ?rn2h21
                case hn2h21 => (unfold kO21; intro w hSw; (try dsimp only at hSw); go_simp <;> with_reducible rfl)
                try simp only [Act.put, List.setIfInBounds_toArray, List.set_cons_zero, List.set_cons_succ]
                refine tqY 22 kO22 (some 30) ?vn2h22 rfl rfl (by kernel_rfl) (fun _ _ _ h => h) ?hn2h22 (by assumption) ?rn2h22
                case hn2h22 => (unfold kO22; intro w hSw; (try dsimp only at hSw); go_simp <;> with_reducible rfl)
                try simp only [Act.put, List.setIfInBounds_toArray, List.set_cons_zero, List.set_cons_succ]
                refine tqY 23 kO23 (some 31) ?vn2h23 rfl rfl (by kernel_rfl) (fun _ _ _ h => h) ?hn2h23 (by assumption) ?rn2h23
                case hn2h23 => (unfold kO23; intro w hSw; (try dsimp only at hSw); go_simp <;> with_reducible rfl)
                try simp only [Act.put, List.setIfInBounds_toArray, List.set_cons_zero, List.set_cons_succ]
                refine tqY 24 kO24 (some 32) ?vn2h24 rfl rfl (by kernel_rfl) (fun _ _ _ h => h) ?hn2h24 (by assumption) ?rn2h24
                case hn2h24 => (unfold kO24; intro w hSw; (try dsimp only at hSw); go_simp <;> with_reducible rfl)
                try simp only [Act.put, List.setIfInBounds_toArray, List.set_cons_zero, List.set_cons_succ]
                refine tqY 25 kO25 (some 33) ?vn2h25 rfl rfl (by kernel_rfl) (fun _ _ _ h => h) ?hn2h25 (by assumption) ?rn2h25
                case hn2h25 => (unfold kO25; intro w hSw; (try dsimp only at hSw); go_simp <;> with_reducible rfl)
                try simp only [Act.put, List.setIfInBounds_toArray, List.set_cons_zero, List.set_cons_succ]
                refine tqY 26 kO26 (some 34) ?vn2h26 rfl rfl (by kernel_rfl) (fun _ _ _ h => h) ?hn2h26 (by assumption) ?rn2h26
                case hn2h26 => (unfold kO26; intro w hSw; (try dsimp only at hSw); go_simp <;> with_reducible rfl)
                try simp only [Act.put, List.setIfInBounds_toArray, List.set_cons_zero, List.set_cons_succ]
                refine tqY 27 kO27 (some 35) ?vn2h27 rfl rfl (by kernel_rfl) (fun _ _ _ h => h) ?hn2h27 (by assumption) ?rn2h27
                case hn2h27 => (unfold kO27; intro w hSw; (try dsimp only at hSw); go_simp <;> with_reducible rfl)
                try simp only [Act.put, List.setIfInBounds_toArray, List.set_cons_zero, List.set_cons_succ]
                refine tqY 28 kO28 (some 36) ?vn2h28 rfl rfl (by kernel_rfl) (fun _ _ _ h => h) ?hn2h28 (by assumption) ?rn2h28
                case hn2h28 => (unfold kO28; intro w hSw; (try dsimp only at hSw); go_simp <;> with_reducible rfl)
                try simp only [Act.put, List.setIfInBounds_toArray, List.set_cons_zero, List.set_cons_succ]
                refine tqY 29 kO29 (some 37) ?vn2h29 rfl rfl (by kernel_rfl) (fun _ _ _ h => h) ?hn2h29 (by assumption) ?rn2h29
                case hn2h29 => (unfold kO29; intro w hSw; (try dsimp only at hSw); go_simp <;> with_reducible rfl)
                try simp only [Act.put, List.setIfInBounds_toArray, List.set_cons_zero, List.set_cons_succ]
                refine tqY 30 kO30 (some 38) ?vn2h30 rfl rfl (by kernel_rfl) (fun _ _ _ h => h) ?hn2h30 (by assumption) ?rn2h30
                case hn2h30 => (unfold kO30; intro w hSw; (try dsimp only at hSw); go_simp <;> with_reducible rfl)
                try simp only [Act.put, List.setIfInBounds_toArray, List.set_cons_zero, List.set_cons_succ]
                refine tqY 31 kO31 (some 39) ?vn2h31 rfl rfl (by kernel_rfl) (fun _ _ _ h => h) ?hn2h31 (by assumption) ?rn2h31
                case hn2h31 => (unfold kO31; intro w hSw; (try dsimp only at hSw); go_simp <;> with_reducible rfl)
                try simp only [Act.put, List.setIfInBounds_toArray, List.set_cons_zero, List.set_cons_succ]
                refine tqY 32 kO32 (some 40) ?vn2h32 rfl rfl (by kernel_rfl) (fun _ _ _ h => h) ?hn2h32 (by assumption) ?rn2h32
                case hn2h32 => (unfold kO32; intro w hSw; (try dsimp only at hSw); go_simp <;> with_reducible rfl)
                try simp only [Act.put, List.setIfInBounds_toArray, List.set_cons_zero, List.set_cons_succ]
                refine tqY 33 kO33 (some 41) ?vn2h33 rfl rfl (by kernel_rfl) (fun _ _ _ h => h) ?hn2h33 (by assumption) ?rn2h33
                case hn2h33 => (unfold kO33; intro w hSw; (try dsimp only at hSw); go_simp <;> with_reducible rfl)
                try simp only [Act.put, List.setIfInBounds_toArray, List.set_cons_zero, List.set_cons_succ]
                refine tqY 34 kO34 (some 42) ?vn2h34 rfl rfl (by kernel_rfl) (fun _ _ _ h => h) ?hn2h34 (by assumption) ?rn2h34
                case hn2h34 => (unfold kO34; intro w hSw; (try dsimp only at hSw); go_simp <;> with_reducible rfl)
                try simp only [Act.put, List.setIfInBounds_toArray, List.set_cons_zero, List.set_cons_succ]
                refine tqY 35 kO35 (some 43) ?vn2h35 rfl rfl (by kernel_rfl) (fun _ _ _ h => h) ?hn2h35 (by assumption) ?rn2h35
                case hn2h35 => (unfold kO35; intro w hSw; (try dsimp only at hSw); go_simp <;> with_reducible rfl)
                try simp only [Act.put, List.setIfInBounds_toArray, List.set_cons_zero, List.set_cons_succ]
                refine tqY 36 kO36 (some 44) ?vn2h36 rfl rfl (by kernel_rfl) (fun _ _ _ h => h) ?hn2h36 (by assumption) ?rn2h36
                case hn2h36 => (unfold kO36; intro w hSw; (try dsimp only at hSw); go_simp <;> with_reducible rfl)
                try simp only [Act.put, List.setIfInBounds_toArray, List.set_cons_zero, List.set_cons_succ]
                refine tqY 37 kO37 (some 45) ?vn2h37 rfl rfl (by kernel_rfl) (fun _ _ _ h => h) ?hn2h37 (by assumption) ?rn2h37
                case hn2h37 => (unfold kO37; intro w hSw; (try dsimp only at hSw); go_simp <;> with_reducible rfl)
                try simp only [Act.put, List.setIfInBounds_toArray, List.set_cons_zero, List.set_cons_succ]
                refine tqN 38 kO38 (some 46) rfl rfl (by kernel_rfl) (fun _ _ _ h => h) (by assumption) ?rn2h38
                try simp only [Act.put, List.setIfInBounds_toArray, List.set_cons_zero, List.set_cons_succ]
                refine tqN 39 kO39 (some 47) rfl rfl (by kernel_rfl) (fun _ _ _ h => h) (by assumption) ?rn2h39
                try simp only [Act.put, List.setIfInBounds_toArray, List.set_cons_zero, List.set_cons_succ]
                refine tqN 40 kO40 (some 48) rfl rfl (by kernel_rfl) (fun _ _ _ h => h) (by assumption) ?rn2h40
                try simp only [Act.put, List.setIfInBounds_toArray, List.set_cons_zero, List.set_cons_succ]
                refine tqN 41 kO41 (some 49) rfl rfl (by kernel_rfl) (fun _ _ _ h => h) (by assumption) ?rn2h41
                try simp only [Act.put, List.setIfInBounds_toArray, List.set_cons_zero, List.set_cons_succ]
                refine tqN 42 kO42 (some 50) rfl rfl (by kernel_rfl) (fun _ _ _ h => h) (by assumption) ?rn2h42
                try simp only [Act.put, List.setIfInBounds_toArray, List.set_cons_zero, List.set_cons_succ]
                refine tqY 43 kO43 (some 51) ?vn2h43 rfl rfl (by kernel_rfl) (fun _ _ _ h => h) ?hn2h43 (by assumption) ?rn2h43
                case hn2h43 => (unfold kO43; intro w hSw; (try dsimp only at hSw); go_simp <;> with_reducible rfl)
                try simp only [Act.put, List.setIfInBounds_toArray, List.set_cons_zero, List.set_cons_succ]
                refine wpAnyH_ready (rs := [44]) (by kernel_rfl) (by simp) ?_
                refine AllReadyH.cons (o := { dst := some 52, op := Op.call { callee := Callee.value (Operand.func 24), args := #[Operand.tmp 39, Operand.tmp 51], argTypes := #[9, 4] }, type := 4, pos := "form.go:64", after := #[{ on := 31, ground := Ground.data }, { on := 43, ground := Ground.data }, { on := 37, ground := Ground.chain }, { on := 27, ground := Ground.guard }], guard := some (27, false) }) rfl (fun K hK => ?_) AllReadyH.nil
                go_simp
                go_at_call 24; refine (formName_yes s _ HS.out).mono ?_; rintro e w9 ⟨he, hb9⟩
                rw [hnm] at he
                subst he
                have hx9 := HKp.out w9 (bnext hHeld.1.out hb9)
                clear hb9 hHeld
                refine hK.out _ _ hx9 (fun hHeld => ?_)
                clear hK K hx9
                try simp only [Act.put, List.setIfInBounds_toArray, List.set_cons_zero, List.set_cons_succ]
                refine tqY 45 kO45 (some 53) ?vn2h45 rfl rfl (by kernel_rfl) (fun _ _ _ h => h) ?hn2h45 (by assumption) ?rn2h45
                case hn2h45 => (unfold kO45; intro w hSw; (try dsimp only at hSw); go_simp <;> with_reducible rfl)
                try simp only [Act.put, List.setIfInBounds_toArray, List.set_cons_zero, List.set_cons_succ]
                refine tqY 46 kO46 (some 54) ?vn2h46 rfl rfl (by kernel_rfl) (fun _ _ _ h => h) ?hn2h46 (by assumption) ?rn2h46
                case hn2h46 => (unfold kO46; intro w hSw; (try dsimp only at hSw); go_simp <;> with_reducible rfl)
                try simp only [Act.put, List.setIfInBounds_toArray, List.set_cons_zero, List.set_cons_succ]
                refine tqY 47 kO47 (some 55) ?vn2h47 rfl rfl (by kernel_rfl) (fun _ _ _ h => h) ?hn2h47 (by assumption) ?rn2h47
                case hn2h47 => (unfold kO47; intro w hSw; (try dsimp only at hSw); go_simp <;> with_reducible rfl)
                try simp only [Act.put, List.setIfInBounds_toArray, List.set_cons_zero, List.set_cons_succ]
                refine tqY 48 kO48 (some 56) ?vn2h48 rfl rfl (by kernel_rfl) (fun _ _ _ h => h) ?hn2h48 (by assumption) ?rn2h48
                case hn2h48 => (unfold kO48; intro w hSw; (try dsimp only at hSw); go_simp <;> with_reducible rfl)
                try simp only [Act.put, List.setIfInBounds_toArray, List.set_cons_zero, List.set_cons_succ]
                refine tqY 49 kO49 (some 57) ?vn2h49 rfl rfl (by kernel_rfl) (fun _ _ _ h => h) ?hn2h49 (by assumption) ?rn2h49
                case hn2h49 => (unfold kO49; intro w hSw; (try dsimp only at hSw); go_simp <;> with_reducible rfl)
                try simp only [Act.put, List.setIfInBounds_toArray, List.set_cons_zero, List.set_cons_succ]
                refine tqY 50 kO50 (some 58) ?vn2h50 rfl rfl (by kernel_rfl) (fun _ _ _ h => h) ?hn2h50 (by assumption) ?rn2h50
                case hn2h50 => (unfold kO50; intro w hSw; (try dsimp only at hSw); go_simp <;> with_reducible rfl)
                try simp only [Act.put, List.setIfInBounds_toArray, List.set_cons_zero, List.set_cons_succ]
                refine tqY 51 kO51 (some 59) ?vn2h51 rfl rfl (by kernel_rfl) (fun _ _ _ h => h) ?hn2h51 (by assumption) ?rn2h51
                case hn2h51 => (unfold kO51; intro w hSw; (try dsimp only at hSw); go_simp <;> with_reducible rfl)
                try simp only [Act.put, List.setIfInBounds_toArray, List.set_cons_zero, List.set_cons_succ]
                refine tqY 52 kO52 (some 60) ?vn2h52 rfl rfl (by kernel_rfl) (fun _ _ _ h => h) ?hn2h52 (by assumption) ?rn2h52
                case hn2h52 => (unfold kO52; intro w hSw; (try dsimp only at hSw); go_simp <;> with_reducible rfl)
                try simp only [Act.put, List.setIfInBounds_toArray, List.set_cons_zero, List.set_cons_succ]
                refine tqY 53 kO53 (some 61) ?vn2h53 rfl rfl (by kernel_rfl) (fun _ _ _ h => h) ?hn2h53 (by assumption) ?rn2h53
                case hn2h53 => (unfold kO53; intro w hSw; (try dsimp only at hSw); go_simp <;> with_reducible rfl)
                try simp only [Act.put, List.setIfInBounds_toArray, List.set_cons_zero, List.set_cons_succ]
                refine tqY 54 kO54 (some 62) ?vn2h54 rfl rfl (by kernel_rfl) (fun _ _ _ h => h) ?hn2h54 (by assumption) ?rn2h54
                case hn2h54 => (unfold kO54; intro w hSw; (try dsimp only at hSw); go_simp <;> with_reducible rfl)
                try simp only [Act.put, List.setIfInBounds_toArray, List.set_cons_zero, List.set_cons_succ]
                refine tqY 55 kO55 (some 63) ?vn2h55 rfl rfl (by kernel_rfl) (fun _ _ _ h => h) ?hn2h55 (by assumption) ?rn2h55
                case hn2h55 => (unfold kO55; intro w hSw; (try dsimp only at hSw); go_simp <;> with_reducible rfl)
                try simp only [Act.put, List.setIfInBounds_toArray, List.set_cons_zero, List.set_cons_succ]
                refine tqY 56 kO56 (some 64) ?vn2h56 rfl rfl (by kernel_rfl) (fun _ _ _ h => h) ?hn2h56 (by assumption) ?rn2h56
                case hn2h56 => (unfold kO56; intro w hSw; (try dsimp only at hSw); go_simp <;> with_reducible rfl)
                try simp only [Act.put, List.setIfInBounds_toArray, List.set_cons_zero, List.set_cons_succ]
                refine tqY 57 kO57 (some 65) ?vn2h57 rfl rfl (by kernel_rfl) (fun _ _ _ h => h) ?hn2h57 (by assumption) ?rn2h57
                case hn2h57 => (unfold kO57; intro w hSw; (try dsimp only at hSw); go_simp <;> with_reducible rfl)
                try simp only [Act.put, List.setIfInBounds_toArray, List.set_cons_zero, List.set_cons_succ]
                refine tqY 58 kO58 (some 66) ?vn2h58 rfl rfl (by kernel_rfl) (fun _ _ _ h => h) ?hn2h58 (by assumption) ?rn2h58
                case hn2h58 => (unfold kO58; intro w hSw; (try dsimp only at hSw); go_simp <;> with_reducible rfl)
                try simp only [Act.put, List.setIfInBounds_toArray, List.set_cons_zero, List.set_cons_succ]
                refine tqY 59 kO59 (some 67) ?vn2h59 rfl rfl (by kernel_rfl) (fun _ _ _ h => h) ?hn2h59 (by assumption) ?rn2h59
                case hn2h59 => (unfold kO59; intro w hSw; (try dsimp only at hSw); go_simp <;> with_reducible rfl)
                try simp only [Act.put, List.setIfInBounds_toArray, List.set_cons_zero, List.set_cons_succ]
                refine tqY 60 kO60 (some 68) ?vn2h60 rfl rfl (by kernel_rfl) (fun _ _ _ h => h) ?hn2h60 (by assumption) ?rn2h60
                case hn2h60 => (unfold kO60; intro w hSw; (try dsimp only at hSw); go_simp <;> with_reducible rfl)
                try simp only [Act.put, List.setIfInBounds_toArray, List.set_cons_zero, List.set_cons_succ]
                refine wpAnyH_done (by kernel_rfl) ?_ _
                obtain ⟨⟨r1, r2⟩, r3⟩ := HEnd.out _ hHeld.1.out (fun hf => absurd (HFa.out hf) (by intro hh; rcases hh.2.2 with h | h; exact absurd h (by decide); exact hx0 h))
                have HR3 : Hid _ := r3
                clear r3
                gi_wp2_with fail
                exact HR3.out
          · by_cases hk3 : kx = 3
            · subst hk3
              have ytb : Wb.cell? ⟨1, 10, none⟩ = some (.int .i64 (prt (3 : Int))) := ytb
              have t6 : ((nS : Int) != prt (3 : Int)) = false := by simp [hpl]
              replace hpl : Hid ((nS : Int) = prt (3 : Int)) := hpl
              generalize hPP : prt (3 : Int) = PP at *
              replace hPP : Hid (prt (3 : Int) = PP) := hPP
              cases hnm : nameB s with
              | false =>
                have HKp : Hid (∀ Wc, Below Wb.heap.size Wb Wc → Aside (Below Wb.heap.size Wb Wc) ∧ Wc.cell? ⟨b, o, none⟩ = some (.int .i64 3) ∧ Wc.cell? ⟨b, o + 1, none⟩ = some (.int .u64 x) ∧ Wc.cell? ⟨b, o + 2, none⟩ = some (.string s) ∧ Wc.cell? ⟨b, o + 3, none⟩ = some (.slice aS nS cS) ∧ Wc.cell? ⟨1, 10, none⟩ = some (.int .i64 PP)) := fun Wc hc => ⟨hc, (hc.cell (p := ⟨b, o, none⟩) (Nat.lt_of_lt_of_le HB.out.1 HB.out.2.size)).trans y0, (hc.cell (p := ⟨b, o + 1, none⟩) (Nat.lt_of_lt_of_le HB.out.1 HB.out.2.size)).trans y1, (hc.cell (p := ⟨b, o + 2, none⟩) (Nat.lt_of_lt_of_le HB.out.1 HB.out.2.size)).trans y2, (hc.cell (p := ⟨b, o + 3, none⟩) (Nat.lt_of_lt_of_le HB.out.1 HB.out.2.size)).trans y3, (hc.cell (p := ⟨1, _, none⟩) HTb.out.2).trans ytb⟩
                have hk0 := HKp.out Wb.drew ⟨rfl, rfl, rfl, Nat.le_refl _, fun _ _ => rfl⟩
                gi_wp2_with fail
                refine region_round (S := (fun Wc => Aside (Below Wb.heap.size Wb Wc) ∧ Wc.cell? ⟨b, o, none⟩ = some (.int .i64 3) ∧ Wc.cell? ⟨b, o + 1, none⟩ = some (.int .u64 x) ∧ Wc.cell? ⟨b, o + 2, none⟩ = some (.string s) ∧ Wc.cell? ⟨b, o + 3, none⟩ = some (.slice aS nS cS) ∧ Wc.cell? ⟨1, 10, none⟩ = some (.int .i64 PP))) (by kernel_rfl) (by kernel_rfl) (by rintro ⟨_, _, h⟩; exact h) hk0 (fun hHeld => ?_)
                clear hk0
                refine tqY 0 kO0 (some 8) ?vn3f0 rfl rfl (by kernel_rfl) (fun _ _ _ h => h) ?hn3f0 (by assumption) ?rn3f0
                case hn3f0 => (unfold kO0; intro w hSw; (try dsimp only at hSw); go_simp <;> with_reducible rfl)
                try simp only [Act.put, List.setIfInBounds_toArray, List.set_cons_zero, List.set_cons_succ]
                refine tqY 1 kO1 (some 9) ?vn3f1 rfl rfl (by kernel_rfl) (fun _ _ _ h => h) ?hn3f1 (by assumption) ?rn3f1
                case hn3f1 => (unfold kO1; intro w hSw; (try dsimp only at hSw); go_simp <;> with_reducible rfl)
                try simp only [Act.put, List.setIfInBounds_toArray, List.set_cons_zero, List.set_cons_succ]
                refine tqY 2 kO2 (some 10) ?vn3f2 rfl rfl (by kernel_rfl) (fun _ _ _ h => h) ?hn3f2 (by assumption) ?rn3f2
                case hn3f2 => (unfold kO2; intro w hSw; (try dsimp only at hSw); go_simp <;> with_reducible rfl)
                try simp only [Act.put, List.setIfInBounds_toArray, List.set_cons_zero, List.set_cons_succ]
                refine tqY 3 kO3 (some 11) ?vn3f3 rfl rfl (by kernel_rfl) (fun _ _ _ h => h) ?hn3f3 (by assumption) ?rn3f3
                case hn3f3 => (unfold kO3; intro w hSw; (try dsimp only at hSw); go_simp <;> with_reducible rfl)
                try simp only [Act.put, List.setIfInBounds_toArray, List.set_cons_zero, List.set_cons_succ]
                refine tqY 4 kO4 (some 12) ?vn3f4 rfl rfl (by kernel_rfl) (fun _ _ _ h => h) ?hn3f4 (by assumption) ?rn3f4
                case hn3f4 => (unfold kO4; intro w hSw; (try dsimp only at hSw); go_simp <;> with_reducible rfl)
                try simp only [Act.put, List.setIfInBounds_toArray, List.set_cons_zero, List.set_cons_succ]
                refine tqY 5 kO5 (some 13) ?vn3f5 rfl rfl (by kernel_rfl) (fun _ _ _ h => h) ?hn3f5 (by assumption) ?rn3f5
                case hn3f5 => (unfold kO5; intro w hSw; (try dsimp only at hSw); go_simp <;> with_reducible rfl)
                try simp only [Act.put, List.setIfInBounds_toArray, List.set_cons_zero, List.set_cons_succ]
                refine tqY 6 kO6 (some 14) ?vn3f6 rfl rfl (by kernel_rfl) (fun _ _ _ h => h) ?hn3f6 (by assumption) ?rn3f6
                case hn3f6 => (unfold kO6; intro w hSw; (try dsimp only at hSw); go_simp <;> with_reducible rfl)
                try simp only [Act.put, List.setIfInBounds_toArray, List.set_cons_zero, List.set_cons_succ]
                refine tqY 7 kO7 (some 15) ?vn3f7 rfl rfl (by kernel_rfl) (fun _ _ _ h => h) ?hn3f7 (by assumption) ?rn3f7
                case hn3f7 => (unfold kO7; intro w hSw; (try dsimp only at hSw); go_simp <;> with_reducible rfl)
                try simp only [Act.put, List.setIfInBounds_toArray, List.set_cons_zero, List.set_cons_succ]
                refine tqY 8 kO8 (some 16) ?vn3f8 rfl rfl (by kernel_rfl) (fun _ _ _ h => h) ?hn3f8 (by assumption) ?rn3f8
                case hn3f8 => (unfold kO8; intro w hSw; (try dsimp only at hSw); go_simp <;> with_reducible rfl)
                try simp only [Act.put, List.setIfInBounds_toArray, List.set_cons_zero, List.set_cons_succ]
                refine tqY 9 kO9 (some 17) ?vn3f9 rfl rfl (by kernel_rfl) (fun _ _ _ h => h) ?hn3f9 (by assumption) ?rn3f9
                case hn3f9 => (unfold kO9; intro w hSw; (try dsimp only at hSw); go_simp <;> with_reducible rfl)
                try simp only [Act.put, List.setIfInBounds_toArray, List.set_cons_zero, List.set_cons_succ]
                refine tqY 10 kO10 (some 18) ?vn3f10 rfl rfl (by kernel_rfl) (fun _ _ _ h => h) ?hn3f10 (by assumption) ?rn3f10
                case hn3f10 => (unfold kO10; intro w hSw; (try dsimp only at hSw); go_simp <;> with_reducible rfl)
                try simp only [Act.put, List.setIfInBounds_toArray, List.set_cons_zero, List.set_cons_succ]
                refine tqY 11 kO11 (some 19) ?vn3f11 rfl rfl (by kernel_rfl) (fun _ _ _ h => h) ?hn3f11 (by assumption) ?rn3f11
                case hn3f11 => (unfold kO11; intro w hSw; (try dsimp only at hSw); go_simp <;> with_reducible rfl)
                try simp only [Act.put, List.setIfInBounds_toArray, List.set_cons_zero, List.set_cons_succ]
                refine tqY 12 kO12 (some 20) ?vn3f12 rfl rfl (by kernel_rfl) (fun _ _ _ h => h) ?hn3f12 (by assumption) ?rn3f12
                case hn3f12 => (unfold kO12; intro w hSw; (try dsimp only at hSw); go_simp <;> with_reducible rfl)
                try simp only [Act.put, List.setIfInBounds_toArray, List.set_cons_zero, List.set_cons_succ]
                refine tqY 13 kO13 (some 21) ?vn3f13 rfl rfl (by kernel_rfl) (fun _ _ _ h => h) ?hn3f13 (by assumption) ?rn3f13
                case hn3f13 => (unfold kO13; intro w hSw; (try dsimp only at hSw); go_simp <;> with_reducible rfl)
                try simp only [Act.put, List.setIfInBounds_toArray, List.set_cons_zero, List.set_cons_succ]
                refine tqY 14 kO14 (some 22) ?vn3f14 rfl rfl (by kernel_rfl) (fun _ _ _ h => h) ?hn3f14 (by assumption) ?rn3f14
                case hn3f14 => (unfold kO14; intro w hSw; (try dsimp only at hSw); go_simp <;> with_reducible rfl)
                try simp only [Act.put, List.setIfInBounds_toArray, List.set_cons_zero, List.set_cons_succ]
                refine tqY 15 kO15 (some 23) ?vn3f15 rfl rfl (by kernel_rfl) (fun _ _ _ h => h) ?hn3f15 (by assumption) ?rn3f15
                case hn3f15 => (unfold kO15; intro w hSw; (try dsimp only at hSw); go_simp <;> with_reducible rfl)
                try simp only [Act.put, List.setIfInBounds_toArray, List.set_cons_zero, List.set_cons_succ]
                refine tqY 16 kO16 (some 24) ?vn3f16 rfl rfl (by kernel_rfl) (fun _ _ _ h => h) ?hn3f16 (by assumption) ?rn3f16
                case hn3f16 => (unfold kO16; intro w hSw; (try dsimp only at hSw); go_simp <;> with_reducible rfl)
                try simp only [Act.put, List.setIfInBounds_toArray, List.set_cons_zero, List.set_cons_succ]
                refine tqY 17 kO17 (some 25) ?vn3f17 rfl rfl (by kernel_rfl) (fun _ _ _ h => h) ?hn3f17 (by assumption) ?rn3f17
                case hn3f17 => (unfold kO17; intro w hSw; (try dsimp only at hSw); go_simp <;> with_reducible rfl)
                try simp only [Act.put, List.setIfInBounds_toArray, List.set_cons_zero, List.set_cons_succ]
                refine tqY 18 kO18 (some 26) ?vn3f18 rfl rfl (by kernel_rfl) (fun _ _ _ h => h) ?hn3f18 (by assumption) ?rn3f18
                case hn3f18 => (unfold kO18; intro w hSw; (try dsimp only at hSw); go_simp <;> with_reducible rfl)
                try simp only [Act.put, List.setIfInBounds_toArray, List.set_cons_zero, List.set_cons_succ]
                refine tqY 19 kO19 (some 27) ?vn3f19 rfl rfl (by kernel_rfl) (fun _ _ _ h => h) ?hn3f19 (by assumption) ?rn3f19
                case hn3f19 => (unfold kO19; intro w hSw; (try dsimp only at hSw); go_simp <;> with_reducible rfl)
                try simp only [Act.put, List.setIfInBounds_toArray, List.set_cons_zero, List.set_cons_succ]
                refine tqY 20 kO20 (some 28) ?vn3f20 rfl rfl (by kernel_rfl) (fun _ _ _ h => h) ?hn3f20 (by assumption) ?rn3f20
                case hn3f20 => (unfold kO20; intro w hSw; (try dsimp only at hSw); go_simp <;> with_reducible rfl)
                try simp only [Act.put, List.setIfInBounds_toArray, List.set_cons_zero, List.set_cons_succ]
                refine tqY 21 kO21 (some 29) ?vn3f21 rfl rfl (by kernel_rfl) (fun _ _ _ h => h) ?hn3f21 (by assumption) ?rn3f21
                case hn3f21 => (unfold kO21; intro w hSw; (try dsimp only at hSw); go_simp <;> with_reducible rfl)
                try simp only [Act.put, List.setIfInBounds_toArray, List.set_cons_zero, List.set_cons_succ]
                refine tqY 22 kO22 (some 30) ?vn3f22 rfl rfl (by kernel_rfl) (fun _ _ _ h => h) ?hn3f22 (by assumption) ?rn3f22
                case hn3f22 => (unfold kO22; intro w hSw; (try dsimp only at hSw); go_simp <;> with_reducible rfl)
                try simp only [Act.put, List.setIfInBounds_toArray, List.set_cons_zero, List.set_cons_succ]
                refine tqY 23 kO23 (some 31) ?vn3f23 rfl rfl (by kernel_rfl) (fun _ _ _ h => h) ?hn3f23 (by assumption) ?rn3f23
                case hn3f23 => (unfold kO23; intro w hSw; (try dsimp only at hSw); go_simp <;> with_reducible rfl)
                try simp only [Act.put, List.setIfInBounds_toArray, List.set_cons_zero, List.set_cons_succ]
                refine tqY 24 kO24 (some 32) ?vn3f24 rfl rfl (by kernel_rfl) (fun _ _ _ h => h) ?hn3f24 (by assumption) ?rn3f24
                case hn3f24 => (unfold kO24; intro w hSw; (try dsimp only at hSw); go_simp <;> with_reducible rfl)
                try simp only [Act.put, List.setIfInBounds_toArray, List.set_cons_zero, List.set_cons_succ]
                refine tqY 25 kO25 (some 33) ?vn3f25 rfl rfl (by kernel_rfl) (fun _ _ _ h => h) ?hn3f25 (by assumption) ?rn3f25
                case hn3f25 => (unfold kO25; intro w hSw; (try dsimp only at hSw); go_simp <;> with_reducible rfl)
                try simp only [Act.put, List.setIfInBounds_toArray, List.set_cons_zero, List.set_cons_succ]
                refine tqY 26 kO26 (some 34) ?vn3f26 rfl rfl (by kernel_rfl) (fun _ _ _ h => h) ?hn3f26 (by assumption) ?rn3f26
                case hn3f26 => (unfold kO26; intro w hSw; (try dsimp only at hSw); go_simp <;> with_reducible rfl)
                try simp only [Act.put, List.setIfInBounds_toArray, List.set_cons_zero, List.set_cons_succ]
                refine tqY 27 kO27 (some 35) ?vn3f27 rfl rfl (by kernel_rfl) (fun _ _ _ h => h) ?hn3f27 (by assumption) ?rn3f27
                case hn3f27 => (unfold kO27; intro w hSw; (try dsimp only at hSw); go_simp <;> with_reducible rfl)
                try simp only [Act.put, List.setIfInBounds_toArray, List.set_cons_zero, List.set_cons_succ]
                refine tqY 28 kO28 (some 36) ?vn3f28 rfl rfl (by kernel_rfl) (fun _ _ _ h => h) ?hn3f28 (by assumption) ?rn3f28
                case hn3f28 => (unfold kO28; intro w hSw; (try dsimp only at hSw); go_simp <;> with_reducible rfl)
                try simp only [Act.put, List.setIfInBounds_toArray, List.set_cons_zero, List.set_cons_succ]
                refine tqY 29 kO29 (some 37) ?vn3f29 rfl rfl (by kernel_rfl) (fun _ _ _ h => h) ?hn3f29 (by assumption) ?rn3f29
                case hn3f29 => (unfold kO29; intro w hSw; (try dsimp only at hSw); go_simp <;> with_reducible rfl)
                try simp only [Act.put, List.setIfInBounds_toArray, List.set_cons_zero, List.set_cons_succ]
                refine tqY 30 kO30 (some 38) ?vn3f30 rfl rfl (by kernel_rfl) (fun _ _ _ h => h) ?hn3f30 (by assumption) ?rn3f30
                case hn3f30 => (unfold kO30; intro w hSw; (try dsimp only at hSw); go_simp <;> with_reducible rfl)
                try simp only [Act.put, List.setIfInBounds_toArray, List.set_cons_zero, List.set_cons_succ]
                refine tqY 31 kO31 (some 39) ?vn3f31 rfl rfl (by kernel_rfl) (fun _ _ _ h => h) ?hn3f31 (by assumption) ?rn3f31
                case hn3f31 => (unfold kO31; intro w hSw; (try dsimp only at hSw); go_simp <;> with_reducible rfl)
                try simp only [Act.put, List.setIfInBounds_toArray, List.set_cons_zero, List.set_cons_succ]
                refine tqY 32 kO32 (some 40) ?vn3f32 rfl rfl (by kernel_rfl) (fun _ _ _ h => h) ?hn3f32 (by assumption) ?rn3f32
                case hn3f32 => (unfold kO32; intro w hSw; (try dsimp only at hSw); go_simp <;> with_reducible rfl)
                try simp only [Act.put, List.setIfInBounds_toArray, List.set_cons_zero, List.set_cons_succ]
                refine tqY 33 kO33 (some 41) ?vn3f33 rfl rfl (by kernel_rfl) (fun _ _ _ h => h) ?hn3f33 (by assumption) ?rn3f33
                case hn3f33 => (unfold kO33; intro w hSw; (try dsimp only at hSw); go_simp <;> with_reducible rfl)
                try simp only [Act.put, List.setIfInBounds_toArray, List.set_cons_zero, List.set_cons_succ]
                refine tqY 34 kO34 (some 42) ?vn3f34 rfl rfl (by kernel_rfl) (fun _ _ _ h => h) ?hn3f34 (by assumption) ?rn3f34
                case hn3f34 => (unfold kO34; intro w hSw; (try dsimp only at hSw); go_simp <;> with_reducible rfl)
                try simp only [Act.put, List.setIfInBounds_toArray, List.set_cons_zero, List.set_cons_succ]
                refine tqY 35 kO35 (some 43) ?vn3f35 rfl rfl (by kernel_rfl) (fun _ _ _ h => h) ?hn3f35 (by assumption) ?rn3f35
                case hn3f35 => (unfold kO35; intro w hSw; (try dsimp only at hSw); go_simp <;> with_reducible rfl)
                try simp only [Act.put, List.setIfInBounds_toArray, List.set_cons_zero, List.set_cons_succ]
                refine tqY 36 kO36 (some 44) ?vn3f36 rfl rfl (by kernel_rfl) (fun _ _ _ h => h) ?hn3f36 (by assumption) ?rn3f36
                case hn3f36 => (unfold kO36; intro w hSw; (try dsimp only at hSw); go_simp <;> with_reducible rfl)
                try simp only [Act.put, List.setIfInBounds_toArray, List.set_cons_zero, List.set_cons_succ]
                refine tqY 37 kO37 (some 45) ?vn3f37 rfl rfl (by kernel_rfl) (fun _ _ _ h => h) ?hn3f37 (by assumption) ?rn3f37
                case hn3f37 => (unfold kO37; intro w hSw; (try dsimp only at hSw); go_simp <;> with_reducible rfl)
                try simp only [Act.put, List.setIfInBounds_toArray, List.set_cons_zero, List.set_cons_succ]
                refine tqY 38 kO38 (some 46) ?vn3f38 rfl rfl (by kernel_rfl) (fun _ _ _ h => h) ?hn3f38 (by assumption) ?rn3f38
                case hn3f38 => (unfold kO38; intro w hSw; (try dsimp only at hSw); go_simp <;> with_reducible rfl)
                try simp only [Act.put, List.setIfInBounds_toArray, List.set_cons_zero, List.set_cons_succ]
                refine tqY 39 kO39 (some 47) ?vn3f39 rfl rfl (by kernel_rfl) (fun _ _ _ h => h) ?hn3f39 (by assumption) ?rn3f39
                case hn3f39 => (unfold kO39; intro w hSw; (try dsimp only at hSw); go_simp <;> with_reducible rfl)
                try simp only [Act.put, List.setIfInBounds_toArray, List.set_cons_zero, List.set_cons_succ]
                refine tqY 40 kO40 (some 48) ?vn3f40 rfl rfl (by kernel_rfl) (fun _ _ _ h => h) ?hn3f40 (by assumption) ?rn3f40
                case hn3f40 => (unfold kO40; intro w hSw; (try dsimp only at hSw); go_simp <;> with_reducible rfl)
                try simp only [Act.put, List.setIfInBounds_toArray, List.set_cons_zero, List.set_cons_succ]
                refine tqY 41 kO41 (some 49) ?vn3f41 rfl rfl (by kernel_rfl) (fun _ _ _ h => h) ?hn3f41 (by assumption) ?rn3f41
                case hn3f41 => (unfold kO41; intro w hSw; (try dsimp only at hSw); go_simp <;> with_reducible rfl)
                try simp only [Act.put, List.setIfInBounds_toArray, List.set_cons_zero, List.set_cons_succ]
                refine tqY 42 kO42 (some 50) ?vn3f42 rfl rfl (by kernel_rfl) (fun _ _ _ h => h) ?hn3f42 (by assumption) ?rn3f42
                case hn3f42 => (unfold kO42; intro w hSw; (try dsimp only at hSw); go_simp <;> with_reducible rfl)
                try simp only [Act.put, List.setIfInBounds_toArray, List.set_cons_zero, List.set_cons_succ]
                refine tqY 43 kO43 (some 51) ?vn3f43 rfl rfl (by kernel_rfl) (fun _ _ _ h => h) ?hn3f43 (by assumption) ?rn3f43
                case hn3f43 => (unfold kO43; intro w hSw; (try dsimp only at hSw); go_simp <;> with_reducible rfl)
                try simp only [Act.put, List.setIfInBounds_toArray, List.set_cons_zero, List.set_cons_succ]
                refine wpAnyH_ready (rs := [44]) (by kernel_rfl) (by simp) ?_
                refine AllReadyH.cons (o := { dst := some 52, op := Op.call { callee := Callee.value (Operand.func 24), args := #[Operand.tmp 39, Operand.tmp 51], argTypes := #[9, 4] }, type := 4, pos := "form.go:64", after := #[{ on := 31, ground := Ground.data }, { on := 43, ground := Ground.data }, { on := 37, ground := Ground.chain }, { on := 27, ground := Ground.guard }], guard := some (27, false) }) rfl (fun K hK => ?_) AllReadyH.nil
                go_simp
                go_at_call 24; refine (formName_yes s _ HS.out).mono ?_; rintro e w9 ⟨he, hb9⟩
                rw [hnm] at he
                subst he
                have hx9 := HKp.out w9 (bnext hHeld.1.out hb9)
                clear hb9 hHeld
                refine hK.out _ _ hx9 (fun hHeld => ?_)
                clear hK K hx9
                try simp only [Act.put, List.setIfInBounds_toArray, List.set_cons_zero, List.set_cons_succ]
                refine tqY 45 kO45 (some 53) ?vn3f45 rfl rfl (by kernel_rfl) (fun _ _ _ h => h) ?hn3f45 (by assumption) ?rn3f45
                case hn3f45 => (unfold kO45; intro w hSw; (try dsimp only at hSw); go_simp <;> with_reducible rfl)
                try simp only [Act.put, List.setIfInBounds_toArray, List.set_cons_zero, List.set_cons_succ]
                refine tqY 46 kO46 (some 54) ?vn3f46 rfl rfl (by kernel_rfl) (fun _ _ _ h => h) ?hn3f46 (by assumption) ?rn3f46
                case hn3f46 => (unfold kO46; intro w hSw; (try dsimp only at hSw); go_simp <;> with_reducible rfl)
                try simp only [Act.put, List.setIfInBounds_toArray, List.set_cons_zero, List.set_cons_succ]
                refine tqY 47 kO47 (some 55) ?vn3f47 rfl rfl (by kernel_rfl) (fun _ _ _ h => h) ?hn3f47 (by assumption) ?rn3f47
                case hn3f47 => (unfold kO47; intro w hSw; (try dsimp only at hSw); go_simp <;> with_reducible rfl)
                try simp only [Act.put, List.setIfInBounds_toArray, List.set_cons_zero, List.set_cons_succ]
                refine tqN 48 kO48 (some 56) rfl rfl (by kernel_rfl) (fun _ _ _ h => h) (by assumption) ?rn3f48
                try simp only [Act.put, List.setIfInBounds_toArray, List.set_cons_zero, List.set_cons_succ]
                refine tqN 49 kO49 (some 57) rfl rfl (by kernel_rfl) (fun _ _ _ h => h) (by assumption) ?rn3f49
                try simp only [Act.put, List.setIfInBounds_toArray, List.set_cons_zero, List.set_cons_succ]
                refine tqN 50 kO50 (some 58) rfl rfl (by kernel_rfl) (fun _ _ _ h => h) (by assumption) ?rn3f50
                try simp only [Act.put, List.setIfInBounds_toArray, List.set_cons_zero, List.set_cons_succ]
                refine tqN 51 kO51 (some 59) rfl rfl (by kernel_rfl) (fun _ _ _ h => h) (by assumption) ?rn3f51
                try simp only [Act.put, List.setIfInBounds_toArray, List.set_cons_zero, List.set_cons_succ]
                refine tqN 52 kO52 (some 60) rfl rfl (by kernel_rfl) (fun _ _ _ h => h) (by assumption) ?rn3f52
                try simp only [Act.put, List.setIfInBounds_toArray, List.set_cons_zero, List.set_cons_succ]
                refine tqN 53 kO53 (some 61) rfl rfl (by kernel_rfl) (fun _ _ _ h => h) (by assumption) ?rn3f53
                try simp only [Act.put, List.setIfInBounds_toArray, List.set_cons_zero, List.set_cons_succ]
                refine tqN 54 kO54 (some 62) rfl rfl (by kernel_rfl) (fun _ _ _ h => h) (by assumption) ?rn3f54
                try simp only [Act.put, List.setIfInBounds_toArray, List.set_cons_zero, List.set_cons_succ]
                refine tqN 55 kO55 (some 63) rfl rfl (by kernel_rfl) (fun _ _ _ h => h) (by assumption) ?rn3f55
                try simp only [Act.put, List.setIfInBounds_toArray, List.set_cons_zero, List.set_cons_succ]
                refine tqN 56 kO56 (some 64) rfl rfl (by kernel_rfl) (fun _ _ _ h => h) (by assumption) ?rn3f56
                try simp only [Act.put, List.setIfInBounds_toArray, List.set_cons_zero, List.set_cons_succ]
                refine tqN 57 kO57 (some 65) rfl rfl (by kernel_rfl) (fun _ _ _ h => h) (by assumption) ?rn3f57
                try simp only [Act.put, List.setIfInBounds_toArray, List.set_cons_zero, List.set_cons_succ]
                refine tqN 58 kO58 (some 66) rfl rfl (by kernel_rfl) (fun _ _ _ h => h) (by assumption) ?rn3f58
                try simp only [Act.put, List.setIfInBounds_toArray, List.set_cons_zero, List.set_cons_succ]
                refine tqN 59 kO59 (some 67) rfl rfl (by kernel_rfl) (fun _ _ _ h => h) (by assumption) ?rn3f59
                try simp only [Act.put, List.setIfInBounds_toArray, List.set_cons_zero, List.set_cons_succ]
                refine tqY 60 kO60 (some 68) ?vn3f60 rfl rfl (by kernel_rfl) (fun _ _ _ h => h) ?hn3f60 (by assumption) ?rn3f60
                case hn3f60 => (unfold kO60; intro w hSw; (try dsimp only at hSw); go_simp <;> with_reducible rfl)
                try simp only [Act.put, List.setIfInBounds_toArray, List.set_cons_zero, List.set_cons_succ]
                refine wpAnyH_done (by kernel_rfl) ?_ _
                obtain ⟨⟨r1, r2⟩, r3⟩ := HEnd.out _ hHeld.1.out (fun hf => absurd (HFa.out hf) (by intro hh; have h9 := hh.2.1; rw [if_pos (by decide), hnm] at h9; exact absurd h9 (by decide)))
                have HR3 : Hid _ := r3
                clear r3
                gi_wp2_with fail
                exact HR3.out
              | true =>
                by_cases hx0 : x = 0
                · have tx : (x != 0) = false := by simp [hx0]
                  replace hx0 : Hid (x = 0) := hx0
                  have HKp : Hid (∀ Wc, Below Wb.heap.size Wb Wc → Aside (Below Wb.heap.size Wb Wc) ∧ Wc.cell? ⟨b, o, none⟩ = some (.int .i64 3) ∧ Wc.cell? ⟨b, o + 1, none⟩ = some (.int .u64 x) ∧ Wc.cell? ⟨b, o + 2, none⟩ = some (.string s) ∧ Wc.cell? ⟨b, o + 3, none⟩ = some (.slice aS nS cS) ∧ Wc.cell? ⟨1, 10, none⟩ = some (.int .i64 PP)) := fun Wc hc => ⟨hc, (hc.cell (p := ⟨b, o, none⟩) (Nat.lt_of_lt_of_le HB.out.1 HB.out.2.size)).trans y0, (hc.cell (p := ⟨b, o + 1, none⟩) (Nat.lt_of_lt_of_le HB.out.1 HB.out.2.size)).trans y1, (hc.cell (p := ⟨b, o + 2, none⟩) (Nat.lt_of_lt_of_le HB.out.1 HB.out.2.size)).trans y2, (hc.cell (p := ⟨b, o + 3, none⟩) (Nat.lt_of_lt_of_le HB.out.1 HB.out.2.size)).trans y3, (hc.cell (p := ⟨1, _, none⟩) HTb.out.2).trans ytb⟩
                  have hk0 := HKp.out Wb.drew ⟨rfl, rfl, rfl, Nat.le_refl _, fun _ _ => rfl⟩
                  gi_wp2_with fail
                  refine region_round (S := (fun Wc => Aside (Below Wb.heap.size Wb Wc) ∧ Wc.cell? ⟨b, o, none⟩ = some (.int .i64 3) ∧ Wc.cell? ⟨b, o + 1, none⟩ = some (.int .u64 x) ∧ Wc.cell? ⟨b, o + 2, none⟩ = some (.string s) ∧ Wc.cell? ⟨b, o + 3, none⟩ = some (.slice aS nS cS) ∧ Wc.cell? ⟨1, 10, none⟩ = some (.int .i64 PP))) (by kernel_rfl) (by kernel_rfl) (by rintro ⟨_, _, h⟩; exact h) hk0 (fun hHeld => ?_)
                  clear hk0
                  refine tqY 0 kO0 (some 8) ?vn3g0 rfl rfl (by kernel_rfl) (fun _ _ _ h => h) ?hn3g0 (by assumption) ?rn3g0
                  case hn3g0 => (unfold kO0; intro w hSw; (try dsimp only at hSw); go_simp <;> with_reducible rfl)
                  try simp only [Act.put, List.setIfInBounds_toArray, List.set_cons_zero, List.set_cons_succ]
                  refine tqY 1 kO1 (some 9) ?vn3g1 rfl rfl (by kernel_rfl) (fun _ _ _ h => h) ?hn3g1 (by assumption) ?rn3g1
                  case hn3g1 => (unfold kO1; intro w hSw; (try dsimp only at hSw); go_simp <;> with_reducible rfl)
                  try simp only [Act.put, List.setIfInBounds_toArray, List.set_cons_zero, List.set_cons_succ]
                  refine tqY 2 kO2 (some 10) ?vn3g2 rfl rfl (by kernel_rfl) (fun _ _ _ h => h) ?hn3g2 (by assumption) ?rn3g2
                  case hn3g2 => (unfold kO2; intro w hSw; (try dsimp only at hSw); go_simp <;> with_reducible rfl)
                  try simp only [Act.put, List.setIfInBounds_toArray, List.set_cons_zero, List.set_cons_succ]
                  refine tqY 3 kO3 (some 11) ?vn3g3 rfl rfl (by kernel_rfl) (fun _ _ _ h => h) ?hn3g3 (by assumption) ?rn3g3
                  case hn3g3 => (unfold kO3; intro w hSw; (try dsimp only at hSw); go_simp <;> with_reducible rfl)
                  try simp only [Act.put, List.setIfInBounds_toArray, List.set_cons_zero, List.set_cons_succ]
                  refine tqY 4 kO4 (some 12) ?vn3g4 rfl rfl (by kernel_rfl) (fun _ _ _ h => h) ?hn3g4 (by assumption) ?rn3g4
                  case hn3g4 => (unfold kO4; intro w hSw; (try dsimp only at hSw); go_simp <;> with_reducible rfl)
                  try simp only [Act.put, List.setIfInBounds_toArray, List.set_cons_zero, List.set_cons_succ]
                  refine tqY 5 kO5 (some 13) ?vn3g5 rfl rfl (by kernel_rfl) (fun _ _ _ h => h) ?hn3g5 (by assumption) ?rn3g5
                  case hn3g5 => (unfold kO5; intro w hSw; (try dsimp only at hSw); go_simp <;> with_reducible rfl)
                  try simp only [Act.put, List.setIfInBounds_toArray, List.set_cons_zero, List.set_cons_succ]
                  refine tqY 6 kO6 (some 14) ?vn3g6 rfl rfl (by kernel_rfl) (fun _ _ _ h => h) ?hn3g6 (by assumption) ?rn3g6
                  case hn3g6 => (unfold kO6; intro w hSw; (try dsimp only at hSw); go_simp <;> with_reducible rfl)
                  try simp only [Act.put, List.setIfInBounds_toArray, List.set_cons_zero, List.set_cons_succ]
                  refine tqY 7 kO7 (some 15) ?vn3g7 rfl rfl (by kernel_rfl) (fun _ _ _ h => h) ?hn3g7 (by assumption) ?rn3g7
                  case hn3g7 => (unfold kO7; intro w hSw; (try dsimp only at hSw); go_simp <;> with_reducible rfl)
                  try simp only [Act.put, List.setIfInBounds_toArray, List.set_cons_zero, List.set_cons_succ]
                  refine tqY 8 kO8 (some 16) ?vn3g8 rfl rfl (by kernel_rfl) (fun _ _ _ h => h) ?hn3g8 (by assumption) ?rn3g8
                  case hn3g8 => (unfold kO8; intro w hSw; (try dsimp only at hSw); go_simp <;> with_reducible rfl)
                  try simp only [Act.put, List.setIfInBounds_toArray, List.set_cons_zero, List.set_cons_succ]
                  refine tqY 9 kO9 (some 17) ?vn3g9 rfl rfl (by kernel_rfl) (fun _ _ _ h => h) ?hn3g9 (by assumption) ?rn3g9
                  case hn3g9 => (unfold kO9; intro w hSw; (try dsimp only at hSw); go_simp <;> with_reducible rfl)
                  try simp only [Act.put, List.setIfInBounds_toArray, List.set_cons_zero, List.set_cons_succ]
                  refine tqY 10 kO10 (some 18) ?vn3g10 rfl rfl (by kernel_rfl) (fun _ _ _ h => h) ?hn3g10 (by assumption) ?rn3g10
                  case hn3g10 => (unfold kO10; intro w hSw; (try dsimp only at hSw); go_simp <;> with_reducible rfl)
                  try simp only [Act.put, List.setIfInBounds_toArray, List.set_cons_zero, List.set_cons_succ]
                  refine tqY 11 kO11 (some 19) ?vn3g11 rfl rfl (by kernel_rfl) (fun _ _ _ h => h) ?hn3g11 (by assumption) ?rn3g11
                  case hn3g11 => (unfold kO11; intro w hSw; (try dsimp only at hSw); go_simp <;> with_reducible rfl)
                  try simp only [Act.put, List.setIfInBounds_toArray, List.set_cons_zero, List.set_cons_succ]
                  refine tqY 12 kO12 (some 20) ?vn3g12 rfl rfl (by kernel_rfl) (fun _ _ _ h => h) ?hn3g12 (by assumption) ?rn3g12
                  case hn3g12 => (unfold kO12; intro w hSw; (try dsimp only at hSw); go_simp <;> with_reducible rfl)
                  try simp only [Act.put, List.setIfInBounds_toArray, List.set_cons_zero, List.set_cons_succ]
                  refine tqY 13 kO13 (some 21) ?vn3g13 rfl rfl (by kernel_rfl) (fun _ _ _ h => h) ?hn3g13 (by assumption) ?rn3g13
                  case hn3g13 => (unfold kO13; intro w hSw; (try dsimp only at hSw); go_simp <;> with_reducible rfl)
                  try simp only [Act.put, List.setIfInBounds_toArray, List.set_cons_zero, List.set_cons_succ]
                  refine tqY 14 kO14 (some 22) ?vn3g14 rfl rfl (by kernel_rfl) (fun _ _ _ h => h) ?hn3g14 (by assumption) ?rn3g14
                  case hn3g14 => (unfold kO14; intro w hSw; (try dsimp only at hSw); go_simp <;> with_reducible rfl)
                  try simp only [Act.put, List.setIfInBounds_toArray, List.set_cons_zero, List.set_cons_succ]
                  refine tqY 15 kO15 (some 23) ?vn3g15 rfl rfl (by kernel_rfl) (fun _ _ _ h => h) ?hn3g15 (by assumption) ?rn3g15
                  case hn3g15 => (unfold kO15; intro w hSw; (try dsimp only at hSw); go_simp <;> with_reducible rfl)
                  try simp only [Act.put, List.setIfInBounds_toArray, List.set_cons_zero, List.set_cons_succ]
                  refine tqY 16 kO16 (some 24) ?vn3g16 rfl rfl (by kernel_rfl) (fun _ _ _ h => h) ?hn3g16 (by assumption) ?rn3g16
                  case hn3g16 => (unfold kO16; intro w hSw; (try dsimp only at hSw); go_simp <;> with_reducible rfl)
                  try simp only [Act.put, List.setIfInBounds_toArray, List.set_cons_zero, List.set_cons_succ]
                  refine tqY 17 kO17 (some 25) ?vn3g17 rfl rfl (by kernel_rfl) (fun _ _ _ h => h) ?hn3g17 (by assumption) ?rn3g17
                  case hn3g17 => (unfold kO17; intro w hSw; (try dsimp only at hSw); go_simp <;> with_reducible rfl)
                  try simp only [Act.put, List.setIfInBounds_toArray, List.set_cons_zero, List.set_cons_succ]
                  refine tqY 18 kO18 (some 26) ?vn3g18 rfl rfl (by kernel_rfl) (fun _ _ _ h => h) ?hn3g18 (by assumption) ?rn3g18
                  case hn3g18 => (unfold kO18; intro w hSw; (try dsimp only at hSw); go_simp <;> with_reducible rfl)
                  try simp only [Act.put, List.setIfInBounds_toArray, List.set_cons_zero, List.set_cons_succ]
                  refine tqY 19 kO19 (some 27) ?vn3g19 rfl rfl (by kernel_rfl) (fun _ _ _ h => h) ?hn3g19 (by assumption) ?rn3g19
                  case hn3g19 => (unfold kO19; intro w hSw; (try dsimp only at hSw); go_simp <;> with_reducible rfl)
                  try simp only [Act.put, List.setIfInBounds_toArray, List.set_cons_zero, List.set_cons_succ]
                  refine tqY 20 kO20 (some 28) ?vn3g20 rfl rfl (by kernel_rfl) (fun _ _ _ h => h) ?hn3g20 (by assumption) ?rn3g20
                  case hn3g20 => (unfold kO20; intro w hSw; (try dsimp only at hSw); go_simp <;> with_reducible rfl)
                  try simp only [Act.put, List.setIfInBounds_toArray, List.set_cons_zero, List.set_cons_succ]
                  refine tqY 21 kO21 (some 29) ?vn3g21 rfl rfl (by kernel_rfl) (fun _ _ _ h => h) ?hn3g21 (by assumption) ?rn3g21
                  case hn3g21 => (unfold kO21; intro w hSw; (try dsimp only at hSw); go_simp <;> with_reducible rfl)
                  try simp only [Act.put, List.setIfInBounds_toArray, List.set_cons_zero, List.set_cons_succ]
                  refine tqY 22 kO22 (some 30) ?vn3g22 rfl rfl (by kernel_rfl) (fun _ _ _ h => h) ?hn3g22 (by assumption) ?rn3g22
                  case hn3g22 => (unfold kO22; intro w hSw; (try dsimp only at hSw); go_simp <;> with_reducible rfl)
                  try simp only [Act.put, List.setIfInBounds_toArray, List.set_cons_zero, List.set_cons_succ]
                  refine tqY 23 kO23 (some 31) ?vn3g23 rfl rfl (by kernel_rfl) (fun _ _ _ h => h) ?hn3g23 (by assumption) ?rn3g23
                  case hn3g23 => (unfold kO23; intro w hSw; (try dsimp only at hSw); go_simp <;> with_reducible rfl)
                  try simp only [Act.put, List.setIfInBounds_toArray, List.set_cons_zero, List.set_cons_succ]
                  refine tqY 24 kO24 (some 32) ?vn3g24 rfl rfl (by kernel_rfl) (fun _ _ _ h => h) ?hn3g24 (by assumption) ?rn3g24
                  case hn3g24 => (unfold kO24; intro w hSw; (try dsimp only at hSw); go_simp <;> with_reducible rfl)
                  try simp only [Act.put, List.setIfInBounds_toArray, List.set_cons_zero, List.set_cons_succ]
                  refine tqY 25 kO25 (some 33) ?vn3g25 rfl rfl (by kernel_rfl) (fun _ _ _ h => h) ?hn3g25 (by assumption) ?rn3g25
                  case hn3g25 => (unfold kO25; intro w hSw; (try dsimp only at hSw); go_simp <;> with_reducible rfl)
                  try simp only [Act.put, List.setIfInBounds_toArray, List.set_cons_zero, List.set_cons_succ]
                  refine tqY 26 kO26 (some 34) ?vn3g26 rfl rfl (by kernel_rfl) (fun _ _ _ h => h) ?hn3g26 (by assumption) ?rn3g26
                  case hn3g26 => (unfold kO26; intro w hSw; (try dsimp only at hSw); go_simp <;> with_reducible rfl)
                  try simp only [Act.put, List.setIfInBounds_toArray, List.set_cons_zero, List.set_cons_succ]
                  refine tqY 27 kO27 (some 35) ?vn3g27 rfl rfl (by kernel_rfl) (fun _ _ _ h => h) ?hn3g27 (by assumption) ?rn3g27
                  case hn3g27 => (unfold kO27; intro w hSw; (try dsimp only at hSw); go_simp <;> with_reducible rfl)
                  try simp only [Act.put, List.setIfInBounds_toArray, List.set_cons_zero, List.set_cons_succ]
                  refine tqY 28 kO28 (some 36) ?vn3g28 rfl rfl (by kernel_rfl) (fun _ _ _ h => h) ?hn3g28 (by assumption) ?rn3g28
                  case hn3g28 => (unfold kO28; intro w hSw; (try dsimp only at hSw); go_simp <;> with_reducible rfl)
                  try simp only [Act.put, List.setIfInBounds_toArray, List.set_cons_zero, List.set_cons_succ]
                  refine tqY 29 kO29 (some 37) ?vn3g29 rfl rfl (by kernel_rfl) (fun _ _ _ h => h) ?hn3g29 (by assumption) ?rn3g29
                  case hn3g29 => (unfold kO29; intro w hSw; (try dsimp only at hSw); go_simp <;> with_reducible rfl)
                  try simp only [Act.put, List.setIfInBounds_toArray, List.set_cons_zero, List.set_cons_succ]
                  refine tqY 30 kO30 (some 38) ?vn3g30 rfl rfl (by kernel_rfl) (fun _ _ _ h => h) ?hn3g30 (by assumption) ?rn3g30
                  case hn3g30 => (unfold kO30; intro w hSw; (try dsimp only at hSw); go_simp <;> with_reducible rfl)
                  try simp only [Act.put, List.setIfInBounds_toArray, List.set_cons_zero, List.set_cons_succ]
                  refine tqY 31 kO31 (some 39) ?vn3g31 rfl rfl (by kernel_rfl) (fun _ _ _ h => h) ?hn3g31 (by assumption) ?rn3g31
                  case hn3g31 => (unfold kO31; intro w hSw; (try dsimp only at hSw); go_simp <;> with_reducible rfl)
                  try simp only [Act.put, List.setIfInBounds_toArray, List.set_cons_zero, List.set_cons_succ]
                  refine tqY 32 kO32 (some 40) ?vn3g32 rfl rfl (by kernel_rfl) (fun _ _ _ h => h) ?hn3g32 (by assumption) ?rn3g32
                  case hn3g32 => (unfold kO32; intro w hSw; (try dsimp only at hSw); go_simp <;> with_reducible rfl)
                  try simp only [Act.put, List.setIfInBounds_toArray, List.set_cons_zero, List.set_cons_succ]
                  refine tqY 33 kO33 (some 41) ?vn3g33 rfl rfl (by kernel_rfl) (fun _ _ _ h => h) ?hn3g33 (by assumption) ?rn3g33
                  case hn3g33 => (unfold kO33; intro w hSw; (try dsimp only at hSw); go_simp <;> with_reducible rfl)
                  try simp only [Act.put, List.setIfInBounds_toArray, List.set_cons_zero, List.set_cons_succ]
                  refine tqY 34 kO34 (some 42) ?vn3g34 rfl rfl (by kernel_rfl) (fun _ _ _ h => h) ?hn3g34 (by assumption) ?rn3g34
                  case hn3g34 => (unfold kO34; intro w hSw; (try dsimp only at hSw); go_simp <;> with_reducible rfl)
                  try simp only [Act.put, List.setIfInBounds_toArray, List.set_cons_zero, List.set_cons_succ]
                  refine tqY 35 kO35 (some 43) ?vn3g35 rfl rfl (by kernel_rfl) (fun _ _ _ h => h) ?hn3g35 (by assumption) ?rn3g35
                  case hn3g35 => (unfold kO35; intro w hSw; (try dsimp only at hSw); go_simp <;> with_reducible rfl)
                  try simp only [Act.put, List.setIfInBounds_toArray, List.set_cons_zero, List.set_cons_succ]
                  refine tqY 36 kO36 (some 44) ?vn3g36 rfl rfl (by kernel_rfl) (fun _ _ _ h => h) ?hn3g36 (by assumption) ?rn3g36
                  case hn3g36 => (unfold kO36; intro w hSw; (try dsimp only at hSw); go_simp <;> with_reducible rfl)
                  try simp only [Act.put, List.setIfInBounds_toArray, List.set_cons_zero, List.set_cons_succ]
                  refine tqY 37 kO37 (some 45) ?vn3g37 rfl rfl (by kernel_rfl) (fun _ _ _ h => h) ?hn3g37 (by assumption) ?rn3g37
                  case hn3g37 => (unfold kO37; intro w hSw; (try dsimp only at hSw); go_simp <;> with_reducible rfl)
                  try simp only [Act.put, List.setIfInBounds_toArray, List.set_cons_zero, List.set_cons_succ]
                  refine tqY 38 kO38 (some 46) ?vn3g38 rfl rfl (by kernel_rfl) (fun _ _ _ h => h) ?hn3g38 (by assumption) ?rn3g38
                  case hn3g38 => (unfold kO38; intro w hSw; (try dsimp only at hSw); go_simp <;> with_reducible rfl)
                  try simp only [Act.put, List.setIfInBounds_toArray, List.set_cons_zero, List.set_cons_succ]
                  refine tqY 39 kO39 (some 47) ?vn3g39 rfl rfl (by kernel_rfl) (fun _ _ _ h => h) ?hn3g39 (by assumption) ?rn3g39
                  case hn3g39 => (unfold kO39; intro w hSw; (try dsimp only at hSw); go_simp <;> with_reducible rfl)
                  try simp only [Act.put, List.setIfInBounds_toArray, List.set_cons_zero, List.set_cons_succ]
                  refine tqY 40 kO40 (some 48) ?vn3g40 rfl rfl (by kernel_rfl) (fun _ _ _ h => h) ?hn3g40 (by assumption) ?rn3g40
                  case hn3g40 => (unfold kO40; intro w hSw; (try dsimp only at hSw); go_simp <;> with_reducible rfl)
                  try simp only [Act.put, List.setIfInBounds_toArray, List.set_cons_zero, List.set_cons_succ]
                  refine tqY 41 kO41 (some 49) ?vn3g41 rfl rfl (by kernel_rfl) (fun _ _ _ h => h) ?hn3g41 (by assumption) ?rn3g41
                  case hn3g41 => (unfold kO41; intro w hSw; (try dsimp only at hSw); go_simp <;> with_reducible rfl)
                  try simp only [Act.put, List.setIfInBounds_toArray, List.set_cons_zero, List.set_cons_succ]
                  refine tqY 42 kO42 (some 50) ?vn3g42 rfl rfl (by kernel_rfl) (fun _ _ _ h => h) ?hn3g42 (by assumption) ?rn3g42
                  case hn3g42 => (unfold kO42; intro w hSw; (try dsimp only at hSw); go_simp <;> with_reducible rfl)
                  try simp only [Act.put, List.setIfInBounds_toArray, List.set_cons_zero, List.set_cons_succ]
                  refine tqY 43 kO43 (some 51) ?vn3g43 rfl rfl (by kernel_rfl) (fun _ _ _ h => h) ?hn3g43 (by assumption) ?rn3g43
                  case hn3g43 => (unfold kO43; intro w hSw; (try dsimp only at hSw); go_simp <;> with_reducible rfl)
                  try simp only [Act.put, List.setIfInBounds_toArray, List.set_cons_zero, List.set_cons_succ]
                  refine wpAnyH_ready (rs := [44]) (by kernel_rfl) (by simp) ?_
                  refine AllReadyH.cons (o := { dst := some 52, op := Op.call { callee := Callee.value (Operand.func 24), args := #[Operand.tmp 39, Operand.tmp 51], argTypes := #[9, 4] }, type := 4, pos := "form.go:64", after := #[{ on := 31, ground := Ground.data }, { on := 43, ground := Ground.data }, { on := 37, ground := Ground.chain }, { on := 27, ground := Ground.guard }], guard := some (27, false) }) rfl (fun K hK => ?_) AllReadyH.nil
                  go_simp
                  go_at_call 24; refine (formName_yes s _ HS.out).mono ?_; rintro e w9 ⟨he, hb9⟩
                  rw [hnm] at he
                  subst he
                  have hx9 := HKp.out w9 (bnext hHeld.1.out hb9)
                  clear hb9 hHeld
                  refine hK.out _ _ hx9 (fun hHeld => ?_)
                  clear hK K hx9
                  try simp only [Act.put, List.setIfInBounds_toArray, List.set_cons_zero, List.set_cons_succ]
                  refine tqY 45 kO45 (some 53) ?vn3g45 rfl rfl (by kernel_rfl) (fun _ _ _ h => h) ?hn3g45 (by assumption) ?rn3g45
                  case hn3g45 => (unfold kO45; intro w hSw; (try dsimp only at hSw); go_simp <;> with_reducible rfl)
                  try simp only [Act.put, List.setIfInBounds_toArray, List.set_cons_zero, List.set_cons_succ]
                  refine tqY 46 kO46 (some 54) ?vn3g46 rfl rfl (by kernel_rfl) (fun _ _ _ h => h) ?hn3g46 (by assumption) ?rn3g46
                  case hn3g46 => (unfold kO46; intro w hSw; (try dsimp only at hSw); go_simp <;> with_reducible rfl)
                  try simp only [Act.put, List.setIfInBounds_toArray, List.set_cons_zero, List.set_cons_succ]
                  refine tqY 47 kO47 (some 55) ?vn3g47 rfl rfl (by kernel_rfl) (fun _ _ _ h => h) ?hn3g47 (by assumption) ?rn3g47
                  case hn3g47 => (unfold kO47; intro w hSw; (try dsimp only at hSw); go_simp <;> with_reducible rfl)
                  try simp only [Act.put, List.setIfInBounds_toArray, List.set_cons_zero, List.set_cons_succ]
                  refine tqY 48 kO48 (some 56) ?vn3g48 rfl rfl (by kernel_rfl) (fun _ _ _ h => h) ?hn3g48 (by assumption) ?rn3g48
                  case hn3g48 => (unfold kO48; intro w hSw; (try dsimp only at hSw); go_simp <;> with_reducible rfl)
                  try simp only [Act.put, List.setIfInBounds_toArray, List.set_cons_zero, List.set_cons_succ]
                  refine tqY 49 kO49 (some 57) ?vn3g49 rfl rfl (by kernel_rfl) (fun _ _ _ h => h) ?hn3g49 (by assumption) ?rn3g49
                  case hn3g49 => (unfold kO49; intro w hSw; (try dsimp only at hSw); go_simp <;> with_reducible rfl)
                  try simp only [Act.put, List.setIfInBounds_toArray, List.set_cons_zero, List.set_cons_succ]
                  refine tqY 50 kO50 (some 58) ?vn3g50 rfl rfl (by kernel_rfl) (fun _ _ _ h => h) ?hn3g50 (by assumption) ?rn3g50
                  case hn3g50 => (unfold kO50; intro w hSw; (try dsimp only at hSw); go_simp <;> with_reducible rfl)
                  try simp only [Act.put, List.setIfInBounds_toArray, List.set_cons_zero, List.set_cons_succ]
                  refine tqY 51 kO51 (some 59) ?vn3g51 rfl rfl (by kernel_rfl) (fun _ _ _ h => h) ?hn3g51 (by assumption) ?rn3g51
                  case hn3g51 => (unfold kO51; intro w hSw; (try dsimp only at hSw); go_simp <;> with_reducible rfl)
                  try simp only [Act.put, List.setIfInBounds_toArray, List.set_cons_zero, List.set_cons_succ]
                  refine tqY 52 kO52 (some 60) ?vn3g52 rfl rfl (by kernel_rfl) (fun _ _ _ h => h) ?hn3g52 (by assumption) ?rn3g52
                  case hn3g52 => (unfold kO52; intro w hSw; (try dsimp only at hSw); go_simp <;> with_reducible rfl)
                  try simp only [Act.put, List.setIfInBounds_toArray, List.set_cons_zero, List.set_cons_succ]
                  refine tqY 53 kO53 (some 61) ?vn3g53 rfl rfl (by kernel_rfl) (fun _ _ _ h => h) ?hn3g53 (by assumption) ?rn3g53
                  case hn3g53 => (unfold kO53; intro w hSw; (try dsimp only at hSw); go_simp <;> with_reducible rfl)
                  try simp only [Act.put, List.setIfInBounds_toArray, List.set_cons_zero, List.set_cons_succ]
                  refine tqY 54 kO54 (some 62) ?vn3g54 rfl rfl (by kernel_rfl) (fun _ _ _ h => h) ?hn3g54 (by assumption) ?rn3g54
                  case hn3g54 => (unfold kO54; intro w hSw; (try dsimp only at hSw); go_simp <;> with_reducible rfl)
                  try simp only [Act.put, List.setIfInBounds_toArray, List.set_cons_zero, List.set_cons_succ]
                  refine tqY 55 kO55 (some 63) ?vn3g55 rfl rfl (by kernel_rfl) (fun _ _ _ h => h) ?hn3g55 (by assumption) ?rn3g55
                  case hn3g55 => (unfold kO55; intro w hSw; (try dsimp only at hSw); go_simp <;> with_reducible rfl)
                  try simp only [Act.put, List.setIfInBounds_toArray, List.set_cons_zero, List.set_cons_succ]
                  refine tqY 56 kO56 (some 64) ?vn3g56 rfl rfl (by kernel_rfl) (fun _ _ _ h => h) ?hn3g56 (by assumption) ?rn3g56
                  case hn3g56 => (unfold kO56; intro w hSw; (try dsimp only at hSw); go_simp <;> with_reducible rfl)
                  try simp only [Act.put, List.setIfInBounds_toArray, List.set_cons_zero, List.set_cons_succ]
                  refine tqY 57 kO57 (some 65) ?vn3g57 rfl rfl (by kernel_rfl) (fun _ _ _ h => h) ?hn3g57 (by assumption) ?rn3g57
                  case hn3g57 => (unfold kO57; intro w hSw; (try dsimp only at hSw); go_simp <;> with_reducible rfl)
                  try simp only [Act.put, List.setIfInBounds_toArray, List.set_cons_zero, List.set_cons_succ]
                  refine tqY 58 kO58 (some 66) ?vn3g58 rfl rfl (by kernel_rfl) (fun _ _ _ h => h) ?hn3g58 (by assumption) ?rn3g58
                  case hn3g58 => (unfold kO58; intro w hSw; (try dsimp only at hSw); go_simp <;> with_reducible rfl)
                  try simp only [Act.put, List.setIfInBounds_toArray, List.set_cons_zero, List.set_cons_succ]
                  refine tqY 59 kO59 (some 67) ?vn3g59 rfl rfl (by kernel_rfl) (fun _ _ _ h => h) ?hn3g59 (by assumption) ?rn3g59
                  case hn3g59 => (unfold kO59; intro w hSw; (try dsimp only at hSw); go_simp <;> with_reducible rfl)
                  try simp only [Act.put, List.setIfInBounds_toArray, List.set_cons_zero, List.set_cons_succ]
                  refine tqY 60 kO60 (some 68) ?vn3g60 rfl rfl (by kernel_rfl) (fun _ _ _ h => h) ?hn3g60 (by assumption) ?rn3g60
                  case hn3g60 => (unfold kO60; intro w hSw; (try dsimp only at hSw); go_simp <;> with_reducible rfl)
                  try simp only [Act.put, List.setIfInBounds_toArray, List.set_cons_zero, List.set_cons_succ]
                  refine wpAnyH_done (by kernel_rfl) ?_ _
                  have HBl := hHeld.1
                  gi_wp2_with fail
                  exact ⟨HBl.out, ⟨by rw [hPP.out]; exact hpl.out, by rw [if_pos (by decide)]; exact hnm, Or.inr hx0.out⟩⟩
                · have tx : (x != 0) = true := by simpa using hx0
                  have HKp : Hid (∀ Wc, Below Wb.heap.size Wb Wc → Aside (Below Wb.heap.size Wb Wc) ∧ Wc.cell? ⟨b, o, none⟩ = some (.int .i64 3) ∧ Wc.cell? ⟨b, o + 1, none⟩ = some (.int .u64 x) ∧ Wc.cell? ⟨b, o + 2, none⟩ = some (.string s) ∧ Wc.cell? ⟨b, o + 3, none⟩ = some (.slice aS nS cS) ∧ Wc.cell? ⟨1, 10, none⟩ = some (.int .i64 PP)) := fun Wc hc => ⟨hc, (hc.cell (p := ⟨b, o, none⟩) (Nat.lt_of_lt_of_le HB.out.1 HB.out.2.size)).trans y0, (hc.cell (p := ⟨b, o + 1, none⟩) (Nat.lt_of_lt_of_le HB.out.1 HB.out.2.size)).trans y1, (hc.cell (p := ⟨b, o + 2, none⟩) (Nat.lt_of_lt_of_le HB.out.1 HB.out.2.size)).trans y2, (hc.cell (p := ⟨b, o + 3, none⟩) (Nat.lt_of_lt_of_le HB.out.1 HB.out.2.size)).trans y3, (hc.cell (p := ⟨1, _, none⟩) HTb.out.2).trans ytb⟩
                  have hk0 := HKp.out Wb.drew ⟨rfl, rfl, rfl, Nat.le_refl _, fun _ _ => rfl⟩
                  gi_wp2_with fail
                  refine region_round (S := (fun Wc => Aside (Below Wb.heap.size Wb Wc) ∧ Wc.cell? ⟨b, o, none⟩ = some (.int .i64 3) ∧ Wc.cell? ⟨b, o + 1, none⟩ = some (.int .u64 x) ∧ Wc.cell? ⟨b, o + 2, none⟩ = some (.string s) ∧ Wc.cell? ⟨b, o + 3, none⟩ = some (.slice aS nS cS) ∧ Wc.cell? ⟨1, 10, none⟩ = some (.int .i64 PP))) (by kernel_rfl) (by kernel_rfl) (by rintro ⟨_, _, h⟩; exact h) hk0 (fun hHeld => ?_)
                  clear hk0
                  refine tqY 0 kO0 (some 8) ?vn3h0 rfl rfl (by kernel_rfl) (fun _ _ _ h => h) ?hn3h0 (by assumption) ?rn3h0
                  case hn3h0 => (unfold kO0; intro w hSw; (try dsimp only at hSw); go_simp <;> with_reducible rfl)
                  try simp only [Act.put, List.setIfInBounds_toArray, List.set_cons_zero, List.set_cons_succ]
                  refine tqY 1 kO1 (some 9) ?vn3h1 rfl rfl (by kernel_rfl) (fun _ _ _ h => h) ?hn3h1 (by assumption) ?rn3h1
                  case hn3h1 => (unfold kO1; intro w hSw; (try dsimp only at hSw); go_simp <;> with_reducible rfl)
                  try simp only [Act.put, List.setIfInBounds_toArray, List.set_cons_zero, List.set_cons_succ]
                  refine tqY 2 kO2 (some 10) ?vn3h2 rfl rfl (by kernel_rfl) (fun _ _ _ h => h) ?hn3h2 (by assumption) ?rn3h2
                  case hn3h2 => (unfold kO2; intro w hSw; (try dsimp only at hSw); go_simp <;> with_reducible rfl)
                  try simp only [Act.put, List.setIfInBounds_toArray, List.set_cons_zero, List.set_cons_succ]
                  refine tqY 3 kO3 (some 11) ?vn3h3 rfl rfl (by kernel_rfl) (fun _ _ _ h => h) ?hn3h3 (by assumption) ?rn3h3
                  case hn3h3 => (unfold kO3; intro w hSw; (try dsimp only at hSw); go_simp <;> with_reducible rfl)
                  try simp only [Act.put, List.setIfInBounds_toArray, List.set_cons_zero, List.set_cons_succ]
                  refine tqY 4 kO4 (some 12) ?vn3h4 rfl rfl (by kernel_rfl) (fun _ _ _ h => h) ?hn3h4 (by assumption) ?rn3h4
                  case hn3h4 => (unfold kO4; intro w hSw; (try dsimp only at hSw); go_simp <;> with_reducible rfl)
                  try simp only [Act.put, List.setIfInBounds_toArray, List.set_cons_zero, List.set_cons_succ]
                  refine tqY 5 kO5 (some 13) ?vn3h5 rfl rfl (by kernel_rfl) (fun _ _ _ h => h) ?hn3h5 (by assumption) ?rn3h5
                  case hn3h5 => (unfold kO5; intro w hSw; (try dsimp only at hSw); go_simp <;> with_reducible rfl)
                  try simp only [Act.put, List.setIfInBounds_toArray, List.set_cons_zero, List.set_cons_succ]
                  refine tqY 6 kO6 (some 14) ?vn3h6 rfl rfl (by kernel_rfl) (fun _ _ _ h => h) ?hn3h6 (by assumption) ?rn3h6
                  case hn3h6 => (unfold kO6; intro w hSw; (try dsimp only at hSw); go_simp <;> with_reducible rfl)
                  try simp only [Act.put, List.setIfInBounds_toArray, List.set_cons_zero, List.set_cons_succ]
                  refine tqY 7 kO7 (some 15) ?vn3h7 rfl rfl (by kernel_rfl) (fun _ _ _ h => h) ?hn3h7 (by assumption) ?rn3h7
                  case hn3h7 => (unfold kO7; intro w hSw; (try dsimp only at hSw); go_simp <;> with_reducible rfl)
                  try simp only [Act.put, List.setIfInBounds_toArray, List.set_cons_zero, List.set_cons_succ]
                  refine tqY 8 kO8 (some 16) ?vn3h8 rfl rfl (by kernel_rfl) (fun _ _ _ h => h) ?hn3h8 (by assumption) ?rn3h8
                  case hn3h8 => (unfold kO8; intro w hSw; (try dsimp only at hSw); go_simp <;> with_reducible rfl)
                  try simp only [Act.put, List.setIfInBounds_toArray, List.set_cons_zero, List.set_cons_succ]
                  refine tqY 9 kO9 (some 17) ?vn3h9 rfl rfl (by kernel_rfl) (fun _ _ _ h => h) ?hn3h9 (by assumption) ?rn3h9
                  case hn3h9 => (unfold kO9; intro w hSw; (try dsimp only at hSw); go_simp <;> with_reducible rfl)
                  try simp only [Act.put, List.setIfInBounds_toArray, List.set_cons_zero, List.set_cons_succ]
                  refine tqY 10 kO10 (some 18) ?vn3h10 rfl rfl (by kernel_rfl) (fun _ _ _ h => h) ?hn3h10 (by assumption) ?rn3h10
                  case hn3h10 => (unfold kO10; intro w hSw; (try dsimp only at hSw); go_simp <;> with_reducible rfl)
                  try simp only [Act.put, List.setIfInBounds_toArray, List.set_cons_zero, List.set_cons_succ]
                  refine tqY 11 kO11 (some 19) ?vn3h11 rfl rfl (by kernel_rfl) (fun _ _ _ h => h) ?hn3h11 (by assumption) ?rn3h11
                  case hn3h11 => (unfold kO11; intro w hSw; (try dsimp only at hSw); go_simp <;> with_reducible rfl)
                  try simp only [Act.put, List.setIfInBounds_toArray, List.set_cons_zero, List.set_cons_succ]
                  refine tqY 12 kO12 (some 20) ?vn3h12 rfl rfl (by kernel_rfl) (fun _ _ _ h => h) ?hn3h12 (by assumption) ?rn3h12
                  case hn3h12 => (unfold kO12; intro w hSw; (try dsimp only at hSw); go_simp <;> with_reducible rfl)
                  try simp only [Act.put, List.setIfInBounds_toArray, List.set_cons_zero, List.set_cons_succ]
                  refine tqY 13 kO13 (some 21) ?vn3h13 rfl rfl (by kernel_rfl) (fun _ _ _ h => h) ?hn3h13 (by assumption) ?rn3h13
                  case hn3h13 => (unfold kO13; intro w hSw; (try dsimp only at hSw); go_simp <;> with_reducible rfl)
                  try simp only [Act.put, List.setIfInBounds_toArray, List.set_cons_zero, List.set_cons_succ]
                  refine tqY 14 kO14 (some 22) ?vn3h14 rfl rfl (by kernel_rfl) (fun _ _ _ h => h) ?hn3h14 (by assumption) ?rn3h14
                  case hn3h14 => (unfold kO14; intro w hSw; (try dsimp only at hSw); go_simp <;> with_reducible rfl)
                  try simp only [Act.put, List.setIfInBounds_toArray, List.set_cons_zero, List.set_cons_succ]
                  refine tqY 15 kO15 (some 23) ?vn3h15 rfl rfl (by kernel_rfl) (fun _ _ _ h => h) ?hn3h15 (by assumption) ?rn3h15
                  case hn3h15 => (unfold kO15; intro w hSw; (try dsimp only at hSw); go_simp <;> with_reducible rfl)
                  try simp only [Act.put, List.setIfInBounds_toArray, List.set_cons_zero, List.set_cons_succ]
                  refine tqY 16 kO16 (some 24) ?vn3h16 rfl rfl (by kernel_rfl) (fun _ _ _ h => h) ?hn3h16 (by assumption) ?rn3h16
                  case hn3h16 => (unfold kO16; intro w hSw; (try dsimp only at hSw); go_simp <;> with_reducible rfl)
                  try simp only [Act.put, List.setIfInBounds_toArray, List.set_cons_zero, List.set_cons_succ]
                  refine tqY 17 kO17 (some 25) ?vn3h17 rfl rfl (by kernel_rfl) (fun _ _ _ h => h) ?hn3h17 (by assumption) ?rn3h17
                  case hn3h17 => (unfold kO17; intro w hSw; (try dsimp only at hSw); go_simp <;> with_reducible rfl)
                  try simp only [Act.put, List.setIfInBounds_toArray, List.set_cons_zero, List.set_cons_succ]
                  refine tqY 18 kO18 (some 26) ?vn3h18 rfl rfl (by kernel_rfl) (fun _ _ _ h => h) ?hn3h18 (by assumption) ?rn3h18
                  case hn3h18 => (unfold kO18; intro w hSw; (try dsimp only at hSw); go_simp <;> with_reducible rfl)
                  try simp only [Act.put, List.setIfInBounds_toArray, List.set_cons_zero, List.set_cons_succ]
                  refine tqY 19 kO19 (some 27) ?vn3h19 rfl rfl (by kernel_rfl) (fun _ _ _ h => h) ?hn3h19 (by assumption) ?rn3h19
                  case hn3h19 => (unfold kO19; intro w hSw; (try dsimp only at hSw); go_simp <;> with_reducible rfl)
                  try simp only [Act.put, List.setIfInBounds_toArray, List.set_cons_zero, List.set_cons_succ]
                  refine tqY 20 kO20 (some 28) ?vn3h20 rfl rfl (by kernel_rfl) (fun _ _ _ h => h) ?hn3h20 (by assumption) ?rn3h20
                  case hn3h20 => (unfold kO20; intro w hSw; (try dsimp only at hSw); go_simp <;> with_reducible rfl)
                  try simp only [Act.put, List.setIfInBounds_toArray, List.set_cons_zero, List.set_cons_succ]
                  refine tqY 21 kO21 (some 29) ?vn3h21 rfl rfl (by kernel_rfl) (fun _ _ _ h => h) ?hn3h21 (by assumption) ?rn3h21
                  case hn3h21 => (unfold kO21; intro w hSw; (try dsimp only at hSw); go_simp <;> with_reducible rfl)
                  try simp only [Act.put, List.setIfInBounds_toArray, List.set_cons_zero, List.set_cons_succ]
                  refine tqY 22 kO22 (some 30) ?vn3h22 rfl rfl (by kernel_rfl) (fun _ _ _ h => h) ?hn3h22 (by assumption) ?rn3h22
                  case hn3h22 => (unfold kO22; intro w hSw; (try dsimp only at hSw); go_simp <;> with_reducible rfl)
                  try simp only [Act.put, List.setIfInBounds_toArray, List.set_cons_zero, List.set_cons_succ]
                  refine tqY 23 kO23 (some 31) ?vn3h23 rfl rfl (by kernel_rfl) (fun _ _ _ h => h) ?hn3h23 (by assumption) ?rn3h23
                  case hn3h23 => (unfold kO23; intro w hSw; (try dsimp only at hSw); go_simp <;> with_reducible rfl)
                  try simp only [Act.put, List.setIfInBounds_toArray, List.set_cons_zero, List.set_cons_succ]
                  refine tqY 24 kO24 (some 32) ?vn3h24 rfl rfl (by kernel_rfl) (fun _ _ _ h => h) ?hn3h24 (by assumption) ?rn3h24
                  case hn3h24 => (unfold kO24; intro w hSw; (try dsimp only at hSw); go_simp <;> with_reducible rfl)
                  try simp only [Act.put, List.setIfInBounds_toArray, List.set_cons_zero, List.set_cons_succ]
                  refine tqY 25 kO25 (some 33) ?vn3h25 rfl rfl (by kernel_rfl) (fun _ _ _ h => h) ?hn3h25 (by assumption) ?rn3h25
                  case hn3h25 => (unfold kO25; intro w hSw; (try dsimp only at hSw); go_simp <;> with_reducible rfl)
                  try simp only [Act.put, List.setIfInBounds_toArray, List.set_cons_zero, List.set_cons_succ]
                  refine tqY 26 kO26 (some 34) ?vn3h26 rfl rfl (by kernel_rfl) (fun _ _ _ h => h) ?hn3h26 (by assumption) ?rn3h26
                  case hn3h26 => (unfold kO26; intro w hSw; (try dsimp only at hSw); go_simp <;> with_reducible rfl)
                  try simp only [Act.put, List.setIfInBounds_toArray, List.set_cons_zero, List.set_cons_succ]
                  refine tqY 27 kO27 (some 35) ?vn3h27 rfl rfl (by kernel_rfl) (fun _ _ _ h => h) ?hn3h27 (by assumption) ?rn3h27
                  case hn3h27 => (unfold kO27; intro w hSw; (try dsimp only at hSw); go_simp <;> with_reducible rfl)
                  try simp only [Act.put, List.setIfInBounds_toArray, List.set_cons_zero, List.set_cons_succ]
                  refine tqY 28 kO28 (some 36) ?vn3h28 rfl rfl (by kernel_rfl) (fun _ _ _ h => h) ?hn3h28 (by assumption) ?rn3h28
                  case hn3h28 => (unfold kO28; intro w hSw; (try dsimp only at hSw); go_simp <;> with_reducible rfl)
                  try simp only [Act.put, List.setIfInBounds_toArray, List.set_cons_zero, List.set_cons_succ]
                  refine tqY 29 kO29 (some 37) ?vn3h29 rfl rfl (by kernel_rfl) (fun _ _ _ h => h) ?hn3h29 (by assumption) ?rn3h29
                  case hn3h29 => (unfold kO29; intro w hSw; (try dsimp only at hSw); go_simp <;> with_reducible rfl)
                  try simp only [Act.put, List.setIfInBounds_toArray, List.set_cons_zero, List.set_cons_succ]
                  refine tqY 30 kO30 (some 38) ?vn3h30 rfl rfl (by kernel_rfl) (fun _ _ _ h => h) ?hn3h30 (by assumption) ?rn3h30
                  case hn3h30 => (unfold kO30; intro w hSw; (try dsimp only at hSw); go_simp <;> with_reducible rfl)
                  try simp only [Act.put, List.setIfInBounds_toArray, List.set_cons_zero, List.set_cons_succ]
                  refine tqY 31 kO31 (some 39) ?vn3h31 rfl rfl (by kernel_rfl) (fun _ _ _ h => h) ?hn3h31 (by assumption) ?rn3h31
                  case hn3h31 => (unfold kO31; intro w hSw; (try dsimp only at hSw); go_simp <;> with_reducible rfl)
                  try simp only [Act.put, List.setIfInBounds_toArray, List.set_cons_zero, List.set_cons_succ]
                  refine tqY 32 kO32 (some 40) ?vn3h32 rfl rfl (by kernel_rfl) (fun _ _ _ h => h) ?hn3h32 (by assumption) ?rn3h32
                  case hn3h32 => (unfold kO32; intro w hSw; (try dsimp only at hSw); go_simp <;> with_reducible rfl)
                  try simp only [Act.put, List.setIfInBounds_toArray, List.set_cons_zero, List.set_cons_succ]
                  refine tqY 33 kO33 (some 41) ?vn3h33 rfl rfl (by kernel_rfl) (fun _ _ _ h => h) ?hn3h33 (by assumption) ?rn3h33
                  case hn3h33 => (unfold kO33; intro w hSw; (try dsimp only at hSw); go_simp <;> with_reducible rfl)
                  try simp only [Act.put, List.setIfInBounds_toArray, List.set_cons_zero, List.set_cons_succ]
                  refine tqY 34 kO34 (some 42) ?vn3h34 rfl rfl (by kernel_rfl) (fun _ _ _ h => h) ?hn3h34 (by assumption) ?rn3h34
                  case hn3h34 => (unfold kO34; intro w hSw; (try dsimp only at hSw); go_simp <;> with_reducible rfl)
                  try simp only [Act.put, List.setIfInBounds_toArray, List.set_cons_zero, List.set_cons_succ]
                  refine tqY 35 kO35 (some 43) ?vn3h35 rfl rfl (by kernel_rfl) (fun _ _ _ h => h) ?hn3h35 (by assumption) ?rn3h35
                  case hn3h35 => (unfold kO35; intro w hSw; (try dsimp only at hSw); go_simp <;> with_reducible rfl)
                  try simp only [Act.put, List.setIfInBounds_toArray, List.set_cons_zero, List.set_cons_succ]
                  refine tqY 36 kO36 (some 44) ?vn3h36 rfl rfl (by kernel_rfl) (fun _ _ _ h => h) ?hn3h36 (by assumption) ?rn3h36
                  case hn3h36 => (unfold kO36; intro w hSw; (try dsimp only at hSw); go_simp <;> with_reducible rfl)
                  try simp only [Act.put, List.setIfInBounds_toArray, List.set_cons_zero, List.set_cons_succ]
                  refine tqY 37 kO37 (some 45) ?vn3h37 rfl rfl (by kernel_rfl) (fun _ _ _ h => h) ?hn3h37 (by assumption) ?rn3h37
                  case hn3h37 => (unfold kO37; intro w hSw; (try dsimp only at hSw); go_simp <;> with_reducible rfl)
                  try simp only [Act.put, List.setIfInBounds_toArray, List.set_cons_zero, List.set_cons_succ]
                  refine tqY 38 kO38 (some 46) ?vn3h38 rfl rfl (by kernel_rfl) (fun _ _ _ h => h) ?hn3h38 (by assumption) ?rn3h38
                  case hn3h38 => (unfold kO38; intro w hSw; (try dsimp only at hSw); go_simp <;> with_reducible rfl)
                  try simp only [Act.put, List.setIfInBounds_toArray, List.set_cons_zero, List.set_cons_succ]
                  refine tqY 39 kO39 (some 47) ?vn3h39 rfl rfl (by kernel_rfl) (fun _ _ _ h => h) ?hn3h39 (by assumption) ?rn3h39
                  case hn3h39 => (unfold kO39; intro w hSw; (try dsimp only at hSw); go_simp <;> with_reducible rfl)
                  try simp only [Act.put, List.setIfInBounds_toArray, List.set_cons_zero, List.set_cons_succ]
                  refine tqY 40 kO40 (some 48) ?vn3h40 rfl rfl (by kernel_rfl) (fun _ _ _ h => h) ?hn3h40 (by assumption) ?rn3h40
                  case hn3h40 => (unfold kO40; intro w hSw; (try dsimp only at hSw); go_simp <;> with_reducible rfl)
                  try simp only [Act.put, List.setIfInBounds_toArray, List.set_cons_zero, List.set_cons_succ]
                  refine tqY 41 kO41 (some 49) ?vn3h41 rfl rfl (by kernel_rfl) (fun _ _ _ h => h) ?hn3h41 (by assumption) ?rn3h41
                  case hn3h41 => (unfold kO41; intro w hSw; (try dsimp only at hSw); go_simp <;> with_reducible rfl)
                  try simp only [Act.put, List.setIfInBounds_toArray, List.set_cons_zero, List.set_cons_succ]
                  refine tqY 42 kO42 (some 50) ?vn3h42 rfl rfl (by kernel_rfl) (fun _ _ _ h => h) ?hn3h42 (by assumption) ?rn3h42
                  case hn3h42 => (unfold kO42; intro w hSw; (try dsimp only at hSw); go_simp <;> with_reducible rfl)
                  try simp only [Act.put, List.setIfInBounds_toArray, List.set_cons_zero, List.set_cons_succ]
                  refine tqY 43 kO43 (some 51) ?vn3h43 rfl rfl (by kernel_rfl) (fun _ _ _ h => h) ?hn3h43 (by assumption) ?rn3h43
                  case hn3h43 => (unfold kO43; intro w hSw; (try dsimp only at hSw); go_simp <;> with_reducible rfl)
                  try simp only [Act.put, List.setIfInBounds_toArray, List.set_cons_zero, List.set_cons_succ]
                  refine wpAnyH_ready (rs := [44]) (by kernel_rfl) (by simp) ?_
                  refine AllReadyH.cons (o := { dst := some 52, op := Op.call { callee := Callee.value (Operand.func 24), args := #[Operand.tmp 39, Operand.tmp 51], argTypes := #[9, 4] }, type := 4, pos := "form.go:64", after := #[{ on := 31, ground := Ground.data }, { on := 43, ground := Ground.data }, { on := 37, ground := Ground.chain }, { on := 27, ground := Ground.guard }], guard := some (27, false) }) rfl (fun K hK => ?_) AllReadyH.nil
                  go_simp
                  go_at_call 24; refine (formName_yes s _ HS.out).mono ?_; rintro e w9 ⟨he, hb9⟩
                  rw [hnm] at he
                  subst he
                  have hx9 := HKp.out w9 (bnext hHeld.1.out hb9)
                  clear hb9 hHeld
                  refine hK.out _ _ hx9 (fun hHeld => ?_)
                  clear hK K hx9
                  try simp only [Act.put, List.setIfInBounds_toArray, List.set_cons_zero, List.set_cons_succ]
                  refine tqY 45 kO45 (some 53) ?vn3h45 rfl rfl (by kernel_rfl) (fun _ _ _ h => h) ?hn3h45 (by assumption) ?rn3h45
                  case hn3h45 => (unfold kO45; intro w hSw; (try dsimp only at hSw); go_simp <;> with_reducible rfl)
                  try simp only [Act.put, List.setIfInBounds_toArray, List.set_cons_zero, List.set_cons_succ]
                  refine tqY 46 kO46 (some 54) ?vn3h46 rfl rfl (by kernel_rfl) (fun _ _ _ h => h) ?hn3h46 (by assumption) ?rn3h46
                  case hn3h46 => (unfold kO46; intro w hSw; (try dsimp only at hSw); go_simp <;> with_reducible rfl)
                  try simp only [Act.put, List.setIfInBounds_toArray, List.set_cons_zero, List.set_cons_succ]
                  refine tqY 47 kO47 (some 55) ?vn3h47 rfl rfl (by kernel_rfl) (fun _ _ _ h => h) ?hn3h47 (by assumption) ?rn3h47
                  case hn3h47 => (unfold kO47; intro w hSw; (try dsimp only at hSw); go_simp <;> with_reducible rfl)
                  try simp only [Act.put, List.setIfInBounds_toArray, List.set_cons_zero, List.set_cons_succ]
                  refine tqY 48 kO48 (some 56) ?vn3h48 rfl rfl (by kernel_rfl) (fun _ _ _ h => h) ?hn3h48 (by assumption) ?rn3h48
                  case hn3h48 => (unfold kO48; intro w hSw; (try dsimp only at hSw); go_simp <;> with_reducible rfl)
                  try simp only [Act.put, List.setIfInBounds_toArray, List.set_cons_zero, List.set_cons_succ]
                  refine tqY 49 kO49 (some 57) ?vn3h49 rfl rfl (by kernel_rfl) (fun _ _ _ h => h) ?hn3h49 (by assumption) ?rn3h49
                  case hn3h49 => (unfold kO49; intro w hSw; (try dsimp only at hSw); go_simp <;> with_reducible rfl)
                  try simp only [Act.put, List.setIfInBounds_toArray, List.set_cons_zero, List.set_cons_succ]
                  refine tqY 50 kO50 (some 58) ?vn3h50 rfl rfl (by kernel_rfl) (fun _ _ _ h => h) ?hn3h50 (by assumption) ?rn3h50
                  case hn3h50 => (unfold kO50; intro w hSw; (try dsimp only at hSw); go_simp <;> with_reducible rfl)
                  try simp only [Act.put, List.setIfInBounds_toArray, List.set_cons_zero, List.set_cons_succ]
                  refine tqY 51 kO51 (some 59) ?vn3h51 rfl rfl (by kernel_rfl) (fun _ _ _ h => h) ?hn3h51 (by assumption) ?rn3h51
                  case hn3h51 => (unfold kO51; intro w hSw; (try dsimp only at hSw); go_simp <;> with_reducible rfl)
                  try simp only [Act.put, List.setIfInBounds_toArray, List.set_cons_zero, List.set_cons_succ]
                  refine tqY 52 kO52 (some 60) ?vn3h52 rfl rfl (by kernel_rfl) (fun _ _ _ h => h) ?hn3h52 (by assumption) ?rn3h52
                  case hn3h52 => (unfold kO52; intro w hSw; (try dsimp only at hSw); go_simp <;> with_reducible rfl)
                  try simp only [Act.put, List.setIfInBounds_toArray, List.set_cons_zero, List.set_cons_succ]
                  refine tqY 53 kO53 (some 61) ?vn3h53 rfl rfl (by kernel_rfl) (fun _ _ _ h => h) ?hn3h53 (by assumption) ?rn3h53
                  case hn3h53 => (unfold kO53; intro w hSw; (try dsimp only at hSw); go_simp <;> with_reducible rfl)
                  try simp only [Act.put, List.setIfInBounds_toArray, List.set_cons_zero, List.set_cons_succ]
                  refine tqY 54 kO54 (some 62) ?vn3h54 rfl rfl (by kernel_rfl) (fun _ _ _ h => h) ?hn3h54 (by assumption) ?rn3h54
                  case hn3h54 => (unfold kO54; intro w hSw; (try dsimp only at hSw); go_simp <;> with_reducible rfl)
                  try simp only [Act.put, List.setIfInBounds_toArray, List.set_cons_zero, List.set_cons_succ]
                  refine tqY 55 kO55 (some 63) ?vn3h55 rfl rfl (by kernel_rfl) (fun _ _ _ h => h) ?hn3h55 (by assumption) ?rn3h55
                  case hn3h55 => (unfold kO55; intro w hSw; (try dsimp only at hSw); go_simp <;> with_reducible rfl)
                  try simp only [Act.put, List.setIfInBounds_toArray, List.set_cons_zero, List.set_cons_succ]
                  refine tqY 56 kO56 (some 64) ?vn3h56 rfl rfl (by kernel_rfl) (fun _ _ _ h => h) ?hn3h56 (by assumption) ?rn3h56
                  case hn3h56 => (unfold kO56; intro w hSw; (try dsimp only at hSw); go_simp <;> with_reducible rfl)
                  try simp only [Act.put, List.setIfInBounds_toArray, List.set_cons_zero, List.set_cons_succ]
                  refine tqY 57 kO57 (some 65) ?vn3h57 rfl rfl (by kernel_rfl) (fun _ _ _ h => h) ?hn3h57 (by assumption) ?rn3h57
                  case hn3h57 => (unfold kO57; intro w hSw; (try dsimp only at hSw); go_simp <;> with_reducible rfl)
                  try simp only [Act.put, List.setIfInBounds_toArray, List.set_cons_zero, List.set_cons_succ]
                  refine tqY 58 kO58 (some 66) ?vn3h58 rfl rfl (by kernel_rfl) (fun _ _ _ h => h) ?hn3h58 (by assumption) ?rn3h58
                  case hn3h58 => (unfold kO58; intro w hSw; (try dsimp only at hSw); go_simp <;> with_reducible rfl)
                  try simp only [Act.put, List.setIfInBounds_toArray, List.set_cons_zero, List.set_cons_succ]
                  refine tqY 59 kO59 (some 67) ?vn3h59 rfl rfl (by kernel_rfl) (fun _ _ _ h => h) ?hn3h59 (by assumption) ?rn3h59
                  case hn3h59 => (unfold kO59; intro w hSw; (try dsimp only at hSw); go_simp <;> with_reducible rfl)
                  try simp only [Act.put, List.setIfInBounds_toArray, List.set_cons_zero, List.set_cons_succ]
                  refine tqY 60 kO60 (some 68) ?vn3h60 rfl rfl (by kernel_rfl) (fun _ _ _ h => h) ?hn3h60 (by assumption) ?rn3h60
                  case hn3h60 => (unfold kO60; intro w hSw; (try dsimp only at hSw); go_simp <;> with_reducible rfl)
                  try simp only [Act.put, List.setIfInBounds_toArray, List.set_cons_zero, List.set_cons_succ]
                  refine wpAnyH_done (by kernel_rfl) ?_ _
                  obtain ⟨⟨r1, r2⟩, r3⟩ := HEnd.out _ hHeld.1.out (fun hf => absurd (HFa.out hf) (by intro hh; rcases hh.2.2 with h | h; exact absurd h (by decide); exact hx0 h))
                  have HR3 : Hid _ := r3
                  clear r3
                  gi_wp2_with fail
                  exact HR3.out
            · have t2 : (kx == 2) = false := by simpa using hk2
              have t3 : (kx == 3) = false := by simpa using hk3
              have t6 : ((nS : Int) != prt kx) = false := by simp [hpl]
              replace hpl : Hid ((nS : Int) = prt kx) := hpl
              have hno : Hid (¬ (kx = 2 ∨ kx = 3)) := by show ¬ _; omega
              generalize hPP : prt kx = PP at *
              replace hPP : Hid (prt kx = PP) := hPP
              by_cases hs0 : s.size = 0
              · have hsz : decide (s.size = 0) = true := decide_eq_true hs0
                by_cases hkn1 : kx = 1
                · have t1 : (kx != 1) = false := by simp [hkn1]
                  replace hkn1 : Hid (kx = 1) := hkn1
                  have HKp : Hid (∀ Wc, Below Wb.heap.size Wb Wc → Aside (Below Wb.heap.size Wb Wc) ∧ Wc.cell? ⟨b, o, none⟩ = some (.int .i64 kx) ∧ Wc.cell? ⟨b, o + 1, none⟩ = some (.int .u64 x) ∧ Wc.cell? ⟨b, o + 2, none⟩ = some (.string s) ∧ Wc.cell? ⟨b, o + 3, none⟩ = some (.slice aS nS cS) ∧ Wc.cell? ⟨1, kx.toNat * 3 + 1, none⟩ = some (.int .i64 PP)) := fun Wc hc => ⟨hc, (hc.cell (p := ⟨b, o, none⟩) (Nat.lt_of_lt_of_le HB.out.1 HB.out.2.size)).trans y0, (hc.cell (p := ⟨b, o + 1, none⟩) (Nat.lt_of_lt_of_le HB.out.1 HB.out.2.size)).trans y1, (hc.cell (p := ⟨b, o + 2, none⟩) (Nat.lt_of_lt_of_le HB.out.1 HB.out.2.size)).trans y2, (hc.cell (p := ⟨b, o + 3, none⟩) (Nat.lt_of_lt_of_le HB.out.1 HB.out.2.size)).trans y3, (hc.cell (p := ⟨1, _, none⟩) HTb.out.2).trans ytb⟩
                  have hk0 := HKp.out Wb.drew ⟨rfl, rfl, rfl, Nat.le_refl _, fun _ _ => rfl⟩
                  gi_wp2_with fail
                  refine region_round (S := (fun Wc => Aside (Below Wb.heap.size Wb Wc) ∧ Wc.cell? ⟨b, o, none⟩ = some (.int .i64 kx) ∧ Wc.cell? ⟨b, o + 1, none⟩ = some (.int .u64 x) ∧ Wc.cell? ⟨b, o + 2, none⟩ = some (.string s) ∧ Wc.cell? ⟨b, o + 3, none⟩ = some (.slice aS nS cS) ∧ Wc.cell? ⟨1, kx.toNat * 3 + 1, none⟩ = some (.int .i64 PP))) (by kernel_rfl) (by kernel_rfl) (by rintro ⟨_, _, h⟩; exact h) hk0 (fun hHeld => ?_)
                  clear hk0
                  refine tqY 0 kO0 (some 8) ?voa0 rfl rfl (by kernel_rfl) (fun _ _ _ h => h) ?hoa0 (by assumption) ?roa0
                  case hoa0 => (unfold kO0; intro w hSw; (try dsimp only at hSw); go_simp <;> with_reducible rfl)
                  try simp only [Act.put, List.setIfInBounds_toArray, List.set_cons_zero, List.set_cons_succ]
                  refine tqY 1 kO1 (some 9) ?voa1 rfl rfl (by kernel_rfl) (fun _ _ _ h => h) ?hoa1 (by assumption) ?roa1
                  case hoa1 => (unfold kO1; intro w hSw; (try dsimp only at hSw); go_simp <;> with_reducible rfl)
                  try simp only [Act.put, List.setIfInBounds_toArray, List.set_cons_zero, List.set_cons_succ]
                  refine tqY 2 kO2 (some 10) ?voa2 rfl rfl (by kernel_rfl) (fun _ _ _ h => h) ?hoa2 (by assumption) ?roa2
                  case hoa2 => (unfold kO2; intro w hSw; (try dsimp only at hSw); go_simp <;> with_reducible rfl)
                  try simp only [Act.put, List.setIfInBounds_toArray, List.set_cons_zero, List.set_cons_succ]
                  refine tqY 3 kO3 (some 11) ?voa3 rfl rfl (by kernel_rfl) (fun _ _ _ h => h) ?hoa3 (by assumption) ?roa3
                  case hoa3 => (unfold kO3; intro w hSw; (try dsimp only at hSw); go_simp <;> with_reducible rfl)
                  try simp only [Act.put, List.setIfInBounds_toArray, List.set_cons_zero, List.set_cons_succ]
                  refine tqY 4 kO4 (some 12) ?voa4 rfl rfl (by kernel_rfl) (fun _ _ _ h => h) ?hoa4 (by assumption) ?roa4
                  case hoa4 => (unfold kO4; intro w hSw; (try dsimp only at hSw); go_simp <;> with_reducible rfl)
                  try simp only [Act.put, List.setIfInBounds_toArray, List.set_cons_zero, List.set_cons_succ]
                  refine tqY 5 kO5 (some 13) ?voa5 rfl rfl (by kernel_rfl) (fun _ _ _ h => h) ?hoa5 (by assumption) ?roa5
                  case hoa5 => (unfold kO5; intro w hSw; (try dsimp only at hSw); go_simp <;> with_reducible rfl)
                  try simp only [Act.put, List.setIfInBounds_toArray, List.set_cons_zero, List.set_cons_succ]
                  refine tqY 6 kO6 (some 14) ?voa6 rfl rfl (by kernel_rfl) (fun _ _ _ h => h) ?hoa6 (by assumption) ?roa6
                  case hoa6 => (unfold kO6; intro w hSw; (try dsimp only at hSw); go_simp <;> with_reducible rfl)
                  try simp only [Act.put, List.setIfInBounds_toArray, List.set_cons_zero, List.set_cons_succ]
                  refine tqY 7 kO7 (some 15) ?voa7 rfl rfl (by kernel_rfl) (fun _ _ _ h => h) ?hoa7 (by assumption) ?roa7
                  case hoa7 => (unfold kO7; intro w hSw; (try dsimp only at hSw); go_simp <;> with_reducible rfl)
                  try simp only [Act.put, List.setIfInBounds_toArray, List.set_cons_zero, List.set_cons_succ]
                  refine tqY 8 kO8 (some 16) ?voa8 rfl rfl (by kernel_rfl) (fun _ _ _ h => h) ?hoa8 (by assumption) ?roa8
                  case hoa8 => (unfold kO8; intro w hSw; (try dsimp only at hSw); go_simp <;> with_reducible rfl)
                  try simp only [Act.put, List.setIfInBounds_toArray, List.set_cons_zero, List.set_cons_succ]
                  refine tqY 9 kO9 (some 17) ?voa9 rfl rfl (by kernel_rfl) (fun _ _ _ h => h) ?hoa9 (by assumption) ?roa9
                  case hoa9 => (unfold kO9; intro w hSw; (try dsimp only at hSw); go_simp <;> with_reducible rfl)
                  try simp only [Act.put, List.setIfInBounds_toArray, List.set_cons_zero, List.set_cons_succ]
                  refine tqY 10 kO10 (some 18) ?voa10 rfl rfl (by kernel_rfl) (fun _ _ _ h => h) ?hoa10 (by assumption) ?roa10
                  case hoa10 => (unfold kO10; intro w hSw; (try dsimp only at hSw); go_simp <;> with_reducible rfl)
                  try simp only [Act.put, List.setIfInBounds_toArray, List.set_cons_zero, List.set_cons_succ]
                  refine tqY 11 kO11 (some 19) ?voa11 rfl rfl (by kernel_rfl) (fun _ _ _ h => h) ?hoa11 (by assumption) ?roa11
                  case hoa11 => (unfold kO11; intro w hSw; (try dsimp only at hSw); go_simp <;> with_reducible rfl)
                  try simp only [Act.put, List.setIfInBounds_toArray, List.set_cons_zero, List.set_cons_succ]
                  refine tqY 12 kO12 (some 20) ?voa12 rfl rfl (by kernel_rfl) (fun _ _ _ h => h) ?hoa12 (by assumption) ?roa12
                  case hoa12 => (unfold kO12; intro w hSw; (try dsimp only at hSw); go_simp <;> with_reducible rfl)
                  try simp only [Act.put, List.setIfInBounds_toArray, List.set_cons_zero, List.set_cons_succ]
                  refine tqY 13 kO13 (some 21) ?voa13 rfl rfl (by kernel_rfl) (fun _ _ _ h => h) ?hoa13 (by assumption) ?roa13
                  case hoa13 => (unfold kO13; intro w hSw; (try dsimp only at hSw); go_simp <;> with_reducible rfl)
                  try simp only [Act.put, List.setIfInBounds_toArray, List.set_cons_zero, List.set_cons_succ]
                  refine tqY 14 kO14 (some 22) ?voa14 rfl rfl (by kernel_rfl) (fun _ _ _ h => h) ?hoa14 (by assumption) ?roa14
                  case hoa14 => (unfold kO14; intro w hSw; (try dsimp only at hSw); go_simp <;> with_reducible rfl)
                  try simp only [Act.put, List.setIfInBounds_toArray, List.set_cons_zero, List.set_cons_succ]
                  refine tqY 15 kO15 (some 23) ?voa15 rfl rfl (by kernel_rfl) (fun _ _ _ h => h) ?hoa15 (by assumption) ?roa15
                  case hoa15 => (unfold kO15; intro w hSw; (try dsimp only at hSw); go_simp <;> with_reducible rfl)
                  try simp only [Act.put, List.setIfInBounds_toArray, List.set_cons_zero, List.set_cons_succ]
                  refine tqY 16 kO16 (some 24) ?voa16 rfl rfl (by kernel_rfl) (fun _ _ _ h => h) ?hoa16 (by assumption) ?roa16
                  case hoa16 => (unfold kO16; intro w hSw; (try dsimp only at hSw); go_simp <;> with_reducible rfl)
                  try simp only [Act.put, List.setIfInBounds_toArray, List.set_cons_zero, List.set_cons_succ]
                  refine tqY 17 kO17 (some 25) ?voa17 rfl rfl (by kernel_rfl) (fun _ _ _ h => h) ?hoa17 (by assumption) ?roa17
                  case hoa17 => (unfold kO17; intro w hSw; (try dsimp only at hSw); go_simp <;> with_reducible rfl)
                  try simp only [Act.put, List.setIfInBounds_toArray, List.set_cons_zero, List.set_cons_succ]
                  refine tqY 18 kO18 (some 26) ?voa18 rfl rfl (by kernel_rfl) (fun _ _ _ h => h) ?hoa18 (by assumption) ?roa18
                  case hoa18 => (unfold kO18; intro w hSw; (try dsimp only at hSw); go_simp <;> with_reducible rfl)
                  try simp only [Act.put, List.setIfInBounds_toArray, List.set_cons_zero, List.set_cons_succ]
                  refine tqY 19 kO19 (some 27) ?voa19 rfl rfl (by kernel_rfl) (fun _ _ _ h => h) ?hoa19 (by assumption) ?roa19
                  case hoa19 => (unfold kO19; intro w hSw; (try dsimp only at hSw); go_simp <;> with_reducible rfl)
                  try simp only [Act.put, List.setIfInBounds_toArray, List.set_cons_zero, List.set_cons_succ]
                  refine tqY 20 kO20 (some 28) ?voa20 rfl rfl (by kernel_rfl) (fun _ _ _ h => h) ?hoa20 (by assumption) ?roa20
                  case hoa20 => (unfold kO20; intro w hSw; (try dsimp only at hSw); go_simp <;> with_reducible rfl)
                  try simp only [Act.put, List.setIfInBounds_toArray, List.set_cons_zero, List.set_cons_succ]
                  refine tqY 21 kO21 (some 29) ?voa21 rfl rfl (by kernel_rfl) (fun _ _ _ h => h) ?hoa21 (by assumption) ?roa21
                  case hoa21 => (unfold kO21; intro w hSw; (try dsimp only at hSw); go_simp <;> with_reducible rfl)
                  try simp only [Act.put, List.setIfInBounds_toArray, List.set_cons_zero, List.set_cons_succ]
                  refine tqY 22 kO22 (some 30) ?voa22 rfl rfl (by kernel_rfl) (fun _ _ _ h => h) ?hoa22 (by assumption) ?roa22
                  case hoa22 => (unfold kO22; intro w hSw; (try dsimp only at hSw); go_simp <;> with_reducible rfl)
                  try simp only [Act.put, List.setIfInBounds_toArray, List.set_cons_zero, List.set_cons_succ]
                  refine tqY 23 kO23 (some 31) ?voa23 rfl rfl (by kernel_rfl) (fun _ _ _ h => h) ?hoa23 (by assumption) ?roa23
                  case hoa23 => (unfold kO23; intro w hSw; (try dsimp only at hSw); go_simp <;> with_reducible rfl)
                  try simp only [Act.put, List.setIfInBounds_toArray, List.set_cons_zero, List.set_cons_succ]
                  refine tqY 24 kO24 (some 32) ?voa24 rfl rfl (by kernel_rfl) (fun _ _ _ h => h) ?hoa24 (by assumption) ?roa24
                  case hoa24 => (unfold kO24; intro w hSw; (try dsimp only at hSw); go_simp <;> with_reducible rfl)
                  try simp only [Act.put, List.setIfInBounds_toArray, List.set_cons_zero, List.set_cons_succ]
                  refine tqY 25 kO25 (some 33) ?voa25 rfl rfl (by kernel_rfl) (fun _ _ _ h => h) ?hoa25 (by assumption) ?roa25
                  case hoa25 => (unfold kO25; intro w hSw; (try dsimp only at hSw); go_simp <;> with_reducible rfl)
                  try simp only [Act.put, List.setIfInBounds_toArray, List.set_cons_zero, List.set_cons_succ]
                  refine tqY 26 kO26 (some 34) ?voa26 rfl rfl (by kernel_rfl) (fun _ _ _ h => h) ?hoa26 (by assumption) ?roa26
                  case hoa26 => (unfold kO26; intro w hSw; (try dsimp only at hSw); go_simp <;> with_reducible rfl)
                  try simp only [Act.put, List.setIfInBounds_toArray, List.set_cons_zero, List.set_cons_succ]
                  refine tqY 27 kO27 (some 35) ?voa27 rfl rfl (by kernel_rfl) (fun _ _ _ h => h) ?hoa27 (by assumption) ?roa27
                  case hoa27 => (unfold kO27; intro w hSw; (try dsimp only at hSw); go_simp <;> with_reducible rfl)
                  try simp only [Act.put, List.setIfInBounds_toArray, List.set_cons_zero, List.set_cons_succ]
                  refine tqY 28 kO28 (some 36) ?voa28 rfl rfl (by kernel_rfl) (fun _ _ _ h => h) ?hoa28 (by assumption) ?roa28
                  case hoa28 => (unfold kO28; intro w hSw; (try dsimp only at hSw); go_simp <;> with_reducible rfl)
                  try simp only [Act.put, List.setIfInBounds_toArray, List.set_cons_zero, List.set_cons_succ]
                  refine tqY 29 kO29 (some 37) ?voa29 rfl rfl (by kernel_rfl) (fun _ _ _ h => h) ?hoa29 (by assumption) ?roa29
                  case hoa29 => (unfold kO29; intro w hSw; (try dsimp only at hSw); go_simp <;> with_reducible rfl)
                  try simp only [Act.put, List.setIfInBounds_toArray, List.set_cons_zero, List.set_cons_succ]
                  refine tqY 30 kO30 (some 38) ?voa30 rfl rfl (by kernel_rfl) (fun _ _ _ h => h) ?hoa30 (by assumption) ?roa30
                  case hoa30 => (unfold kO30; intro w hSw; (try dsimp only at hSw); go_simp <;> with_reducible rfl)
                  try simp only [Act.put, List.setIfInBounds_toArray, List.set_cons_zero, List.set_cons_succ]
                  refine tqY 31 kO31 (some 39) ?voa31 rfl rfl (by kernel_rfl) (fun _ _ _ h => h) ?hoa31 (by assumption) ?roa31
                  case hoa31 => (unfold kO31; intro w hSw; (try dsimp only at hSw); go_simp <;> with_reducible rfl)
                  try simp only [Act.put, List.setIfInBounds_toArray, List.set_cons_zero, List.set_cons_succ]
                  refine tqY 32 kO32 (some 40) ?voa32 rfl rfl (by kernel_rfl) (fun _ _ _ h => h) ?hoa32 (by assumption) ?roa32
                  case hoa32 => (unfold kO32; intro w hSw; (try dsimp only at hSw); go_simp <;> with_reducible rfl)
                  try simp only [Act.put, List.setIfInBounds_toArray, List.set_cons_zero, List.set_cons_succ]
                  refine tqY 33 kO33 (some 41) ?voa33 rfl rfl (by kernel_rfl) (fun _ _ _ h => h) ?hoa33 (by assumption) ?roa33
                  case hoa33 => (unfold kO33; intro w hSw; (try dsimp only at hSw); go_simp <;> with_reducible rfl)
                  try simp only [Act.put, List.setIfInBounds_toArray, List.set_cons_zero, List.set_cons_succ]
                  refine tqY 34 kO34 (some 42) ?voa34 rfl rfl (by kernel_rfl) (fun _ _ _ h => h) ?hoa34 (by assumption) ?roa34
                  case hoa34 => (unfold kO34; intro w hSw; (try dsimp only at hSw); go_simp <;> with_reducible rfl)
                  try simp only [Act.put, List.setIfInBounds_toArray, List.set_cons_zero, List.set_cons_succ]
                  refine tqY 35 kO35 (some 43) ?voa35 rfl rfl (by kernel_rfl) (fun _ _ _ h => h) ?hoa35 (by assumption) ?roa35
                  case hoa35 => (unfold kO35; intro w hSw; (try dsimp only at hSw); go_simp <;> with_reducible rfl)
                  try simp only [Act.put, List.setIfInBounds_toArray, List.set_cons_zero, List.set_cons_succ]
                  refine tqY 36 kO36 (some 44) ?voa36 rfl rfl (by kernel_rfl) (fun _ _ _ h => h) ?hoa36 (by assumption) ?roa36
                  case hoa36 => (unfold kO36; intro w hSw; (try dsimp only at hSw); go_simp <;> with_reducible rfl)
                  try simp only [Act.put, List.setIfInBounds_toArray, List.set_cons_zero, List.set_cons_succ]
                  refine tqY 37 kO37 (some 45) ?voa37 rfl rfl (by kernel_rfl) (fun _ _ _ h => h) ?hoa37 (by assumption) ?roa37
                  case hoa37 => (unfold kO37; intro w hSw; (try dsimp only at hSw); go_simp <;> with_reducible rfl)
                  try simp only [Act.put, List.setIfInBounds_toArray, List.set_cons_zero, List.set_cons_succ]
                  refine tqY 38 kO38 (some 46) ?voa38 rfl rfl (by kernel_rfl) (fun _ _ _ h => h) ?hoa38 (by assumption) ?roa38
                  case hoa38 => (unfold kO38; intro w hSw; (try dsimp only at hSw); go_simp <;> with_reducible rfl)
                  try simp only [Act.put, List.setIfInBounds_toArray, List.set_cons_zero, List.set_cons_succ]
                  refine tqY 39 kO39 (some 47) ?voa39 rfl rfl (by kernel_rfl) (fun _ _ _ h => h) ?hoa39 (by assumption) ?roa39
                  case hoa39 => (unfold kO39; intro w hSw; (try dsimp only at hSw); go_simp <;> with_reducible rfl)
                  try simp only [Act.put, List.setIfInBounds_toArray, List.set_cons_zero, List.set_cons_succ]
                  refine tqY 40 kO40 (some 48) ?voa40 rfl rfl (by kernel_rfl) (fun _ _ _ h => h) ?hoa40 (by assumption) ?roa40
                  case hoa40 => (unfold kO40; intro w hSw; (try dsimp only at hSw); go_simp <;> with_reducible rfl)
                  try simp only [Act.put, List.setIfInBounds_toArray, List.set_cons_zero, List.set_cons_succ]
                  refine tqY 41 kO41 (some 49) ?voa41 rfl rfl (by kernel_rfl) (fun _ _ _ h => h) ?hoa41 (by assumption) ?roa41
                  case hoa41 => (unfold kO41; intro w hSw; (try dsimp only at hSw); go_simp <;> with_reducible rfl)
                  try simp only [Act.put, List.setIfInBounds_toArray, List.set_cons_zero, List.set_cons_succ]
                  refine tqY 42 kO42 (some 50) ?voa42 rfl rfl (by kernel_rfl) (fun _ _ _ h => h) ?hoa42 (by assumption) ?roa42
                  case hoa42 => (unfold kO42; intro w hSw; (try dsimp only at hSw); go_simp <;> with_reducible rfl)
                  try simp only [Act.put, List.setIfInBounds_toArray, List.set_cons_zero, List.set_cons_succ]
                  refine tqY 43 kO43 (some 51) ?voa43 rfl rfl (by kernel_rfl) (fun _ _ _ h => h) ?hoa43 (by assumption) ?roa43
                  case hoa43 => (unfold kO43; intro w hSw; (try dsimp only at hSw); go_simp <;> with_reducible rfl)
                  try simp only [Act.put, List.setIfInBounds_toArray, List.set_cons_zero, List.set_cons_succ]
                  refine wpAnyH_ready (rs := [44]) (by kernel_rfl) (by simp) ?_
                  refine AllReadyH.cons (o := { dst := some 52, op := Op.call { callee := Callee.value (Operand.func 24), args := #[Operand.tmp 39, Operand.tmp 51], argTypes := #[9, 4] }, type := 4, pos := "form.go:64", after := #[{ on := 31, ground := Ground.data }, { on := 43, ground := Ground.data }, { on := 37, ground := Ground.chain }, { on := 27, ground := Ground.guard }], guard := some (27, false) }) rfl (fun K hK => ?_) AllReadyH.nil
                  go_simp
                  go_at_call 24; refine (formName_no s _).mono ?_; rintro e w9 ⟨he, hw9⟩
                  rw [hsz] at he
                  subst he
                  obtain rfl := hw9.symm
                  refine hK.out _ _ hHeld (fun _ => ?_)
                  clear hK K
                  try simp only [Act.put, List.setIfInBounds_toArray, List.set_cons_zero, List.set_cons_succ]
                  refine tqY 45 kO45 (some 53) ?voa45 rfl rfl (by kernel_rfl) (fun _ _ _ h => h) ?hoa45 (by assumption) ?roa45
                  case hoa45 => (unfold kO45; intro w hSw; (try dsimp only at hSw); go_simp <;> with_reducible rfl)
                  try simp only [Act.put, List.setIfInBounds_toArray, List.set_cons_zero, List.set_cons_succ]
                  refine tqY 46 kO46 (some 54) ?voa46 rfl rfl (by kernel_rfl) (fun _ _ _ h => h) ?hoa46 (by assumption) ?roa46
                  case hoa46 => (unfold kO46; intro w hSw; (try dsimp only at hSw); go_simp <;> with_reducible rfl)
                  try simp only [Act.put, List.setIfInBounds_toArray, List.set_cons_zero, List.set_cons_succ]
                  refine tqY 47 kO47 (some 55) ?voa47 rfl rfl (by kernel_rfl) (fun _ _ _ h => h) ?hoa47 (by assumption) ?roa47
                  case hoa47 => (unfold kO47; intro w hSw; (try dsimp only at hSw); go_simp <;> with_reducible rfl)
                  try simp only [Act.put, List.setIfInBounds_toArray, List.set_cons_zero, List.set_cons_succ]
                  refine tqY 48 kO48 (some 56) ?voa48 rfl rfl (by kernel_rfl) (fun _ _ _ h => h) ?hoa48 (by assumption) ?roa48
                  case hoa48 => (unfold kO48; intro w hSw; (try dsimp only at hSw); go_simp <;> with_reducible rfl)
                  try simp only [Act.put, List.setIfInBounds_toArray, List.set_cons_zero, List.set_cons_succ]
                  refine tqY 49 kO49 (some 57) ?voa49 rfl rfl (by kernel_rfl) (fun _ _ _ h => h) ?hoa49 (by assumption) ?roa49
                  case hoa49 => (unfold kO49; intro w hSw; (try dsimp only at hSw); go_simp <;> with_reducible rfl)
                  try simp only [Act.put, List.setIfInBounds_toArray, List.set_cons_zero, List.set_cons_succ]
                  refine tqY 50 kO50 (some 58) ?voa50 rfl rfl (by kernel_rfl) (fun _ _ _ h => h) ?hoa50 (by assumption) ?roa50
                  case hoa50 => (unfold kO50; intro w hSw; (try dsimp only at hSw); go_simp <;> with_reducible rfl)
                  try simp only [Act.put, List.setIfInBounds_toArray, List.set_cons_zero, List.set_cons_succ]
                  refine tqY 51 kO51 (some 59) ?voa51 rfl rfl (by kernel_rfl) (fun _ _ _ h => h) ?hoa51 (by assumption) ?roa51
                  case hoa51 => (unfold kO51; intro w hSw; (try dsimp only at hSw); go_simp <;> with_reducible rfl)
                  try simp only [Act.put, List.setIfInBounds_toArray, List.set_cons_zero, List.set_cons_succ]
                  refine tqY 52 kO52 (some 60) ?voa52 rfl rfl (by kernel_rfl) (fun _ _ _ h => h) ?hoa52 (by assumption) ?roa52
                  case hoa52 => (unfold kO52; intro w hSw; (try dsimp only at hSw); go_simp <;> with_reducible rfl)
                  try simp only [Act.put, List.setIfInBounds_toArray, List.set_cons_zero, List.set_cons_succ]
                  refine tqY 53 kO53 (some 61) ?voa53 rfl rfl (by kernel_rfl) (fun _ _ _ h => h) ?hoa53 (by assumption) ?roa53
                  case hoa53 => (unfold kO53; intro w hSw; (try dsimp only at hSw); go_simp <;> with_reducible rfl)
                  try simp only [Act.put, List.setIfInBounds_toArray, List.set_cons_zero, List.set_cons_succ]
                  refine tqN 54 kO54 (some 62) rfl rfl (by kernel_rfl) (fun _ _ _ h => h) (by assumption) ?roa54
                  try simp only [Act.put, List.setIfInBounds_toArray, List.set_cons_zero, List.set_cons_succ]
                  refine tqN 55 kO55 (some 63) rfl rfl (by kernel_rfl) (fun _ _ _ h => h) (by assumption) ?roa55
                  try simp only [Act.put, List.setIfInBounds_toArray, List.set_cons_zero, List.set_cons_succ]
                  refine tqN 56 kO56 (some 64) rfl rfl (by kernel_rfl) (fun _ _ _ h => h) (by assumption) ?roa56
                  try simp only [Act.put, List.setIfInBounds_toArray, List.set_cons_zero, List.set_cons_succ]
                  refine tqN 57 kO57 (some 65) rfl rfl (by kernel_rfl) (fun _ _ _ h => h) (by assumption) ?roa57
                  try simp only [Act.put, List.setIfInBounds_toArray, List.set_cons_zero, List.set_cons_succ]
                  refine tqN 58 kO58 (some 66) rfl rfl (by kernel_rfl) (fun _ _ _ h => h) (by assumption) ?roa58
                  try simp only [Act.put, List.setIfInBounds_toArray, List.set_cons_zero, List.set_cons_succ]
                  refine tqY 59 kO59 (some 67) ?voa59 rfl rfl (by kernel_rfl) (fun _ _ _ h => h) ?hoa59 (by assumption) ?roa59
                  case hoa59 => (unfold kO59; intro w hSw; (try dsimp only at hSw); go_simp <;> with_reducible rfl)
                  try simp only [Act.put, List.setIfInBounds_toArray, List.set_cons_zero, List.set_cons_succ]
                  refine tqY 60 kO60 (some 68) ?voa60 rfl rfl (by kernel_rfl) (fun _ _ _ h => h) ?hoa60 (by assumption) ?roa60
                  case hoa60 => (unfold kO60; intro w hSw; (try dsimp only at hSw); go_simp <;> with_reducible rfl)
                  try simp only [Act.put, List.setIfInBounds_toArray, List.set_cons_zero, List.set_cons_succ]
                  refine wpAnyH_done (by kernel_rfl) ?_ _
                  have HBl := hHeld.1
                  gi_wp2_with fail
                  exact ⟨HBl.out, ⟨by rw [hPP.out]; exact hpl.out, by rw [if_neg hno.out]; exact hs0, Or.inl hkn1.out⟩⟩
                · have t1 : (kx != 1) = true := by simpa using hkn1
                  by_cases hx0 : x = 0
                  · have tx : (x != 0) = false := by simp [hx0]
                    replace hx0 : Hid (x = 0) := hx0
                    have HKp : Hid (∀ Wc, Below Wb.heap.size Wb Wc → Aside (Below Wb.heap.size Wb Wc) ∧ Wc.cell? ⟨b, o, none⟩ = some (.int .i64 kx) ∧ Wc.cell? ⟨b, o + 1, none⟩ = some (.int .u64 x) ∧ Wc.cell? ⟨b, o + 2, none⟩ = some (.string s) ∧ Wc.cell? ⟨b, o + 3, none⟩ = some (.slice aS nS cS) ∧ Wc.cell? ⟨1, kx.toNat * 3 + 1, none⟩ = some (.int .i64 PP)) := fun Wc hc => ⟨hc, (hc.cell (p := ⟨b, o, none⟩) (Nat.lt_of_lt_of_le HB.out.1 HB.out.2.size)).trans y0, (hc.cell (p := ⟨b, o + 1, none⟩) (Nat.lt_of_lt_of_le HB.out.1 HB.out.2.size)).trans y1, (hc.cell (p := ⟨b, o + 2, none⟩) (Nat.lt_of_lt_of_le HB.out.1 HB.out.2.size)).trans y2, (hc.cell (p := ⟨b, o + 3, none⟩) (Nat.lt_of_lt_of_le HB.out.1 HB.out.2.size)).trans y3, (hc.cell (p := ⟨1, _, none⟩) HTb.out.2).trans ytb⟩
                    have hk0 := HKp.out Wb.drew ⟨rfl, rfl, rfl, Nat.le_refl _, fun _ _ => rfl⟩
                    gi_wp2_with fail
                    refine region_round (S := (fun Wc => Aside (Below Wb.heap.size Wb Wc) ∧ Wc.cell? ⟨b, o, none⟩ = some (.int .i64 kx) ∧ Wc.cell? ⟨b, o + 1, none⟩ = some (.int .u64 x) ∧ Wc.cell? ⟨b, o + 2, none⟩ = some (.string s) ∧ Wc.cell? ⟨b, o + 3, none⟩ = some (.slice aS nS cS) ∧ Wc.cell? ⟨1, kx.toNat * 3 + 1, none⟩ = some (.int .i64 PP))) (by kernel_rfl) (by kernel_rfl) (by rintro ⟨_, _, h⟩; exact h) hk0 (fun hHeld => ?_)
                    clear hk0
                    refine tqY 0 kO0 (some 8) ?vob0 rfl rfl (by kernel_rfl) (fun _ _ _ h => h) ?hob0 (by assumption) ?rob0
                    case hob0 => (unfold kO0; intro w hSw; (try dsimp only at hSw); go_simp <;> with_reducible rfl)
                    try simp only [Act.put, List.setIfInBounds_toArray, List.set_cons_zero, List.set_cons_succ]
                    refine tqY 1 kO1 (some 9) ?vob1 rfl rfl (by kernel_rfl) (fun _ _ _ h => h) ?hob1 (by assumption) ?rob1
                    case hob1 => (unfold kO1; intro w hSw; (try dsimp only at hSw); go_simp <;> with_reducible rfl)
                    try simp only [Act.put, List.setIfInBounds_toArray, List.set_cons_zero, List.set_cons_succ]
                    refine tqY 2 kO2 (some 10) ?vob2 rfl rfl (by kernel_rfl) (fun _ _ _ h => h) ?hob2 (by assumption) ?rob2
                    case hob2 => (unfold kO2; intro w hSw; (try dsimp only at hSw); go_simp <;> with_reducible rfl)
                    try simp only [Act.put, List.setIfInBounds_toArray, List.set_cons_zero, List.set_cons_succ]
                    refine tqY 3 kO3 (some 11) ?vob3 rfl rfl (by kernel_rfl) (fun _ _ _ h => h) ?hob3 (by assumption) ?rob3
                    case hob3 => (unfold kO3; intro w hSw; (try dsimp only at hSw); go_simp <;> with_reducible rfl)
                    try simp only [Act.put, List.setIfInBounds_toArray, List.set_cons_zero, List.set_cons_succ]
                    refine tqY 4 kO4 (some 12) ?vob4 rfl rfl (by kernel_rfl) (fun _ _ _ h => h) ?hob4 (by assumption) ?rob4
                    case hob4 => (unfold kO4; intro w hSw; (try dsimp only at hSw); go_simp <;> with_reducible rfl)
                    try simp only [Act.put, List.setIfInBounds_toArray, List.set_cons_zero, List.set_cons_succ]
                    refine tqY 5 kO5 (some 13) ?vob5 rfl rfl (by kernel_rfl) (fun _ _ _ h => h) ?hob5 (by assumption) ?rob5
                    case hob5 => (unfold kO5; intro w hSw; (try dsimp only at hSw); go_simp <;> with_reducible rfl)
                    try simp only [Act.put, List.setIfInBounds_toArray, List.set_cons_zero, List.set_cons_succ]
                    refine tqY 6 kO6 (some 14) ?vob6 rfl rfl (by kernel_rfl) (fun _ _ _ h => h) ?hob6 (by assumption) ?rob6
                    case hob6 => (unfold kO6; intro w hSw; (try dsimp only at hSw); go_simp <;> with_reducible rfl)
                    try simp only [Act.put, List.setIfInBounds_toArray, List.set_cons_zero, List.set_cons_succ]
                    refine tqY 7 kO7 (some 15) ?vob7 rfl rfl (by kernel_rfl) (fun _ _ _ h => h) ?hob7 (by assumption) ?rob7
                    case hob7 => (unfold kO7; intro w hSw; (try dsimp only at hSw); go_simp <;> with_reducible rfl)
                    try simp only [Act.put, List.setIfInBounds_toArray, List.set_cons_zero, List.set_cons_succ]
                    refine tqY 8 kO8 (some 16) ?vob8 rfl rfl (by kernel_rfl) (fun _ _ _ h => h) ?hob8 (by assumption) ?rob8
                    case hob8 => (unfold kO8; intro w hSw; (try dsimp only at hSw); go_simp <;> with_reducible rfl)
                    try simp only [Act.put, List.setIfInBounds_toArray, List.set_cons_zero, List.set_cons_succ]
                    refine tqY 9 kO9 (some 17) ?vob9 rfl rfl (by kernel_rfl) (fun _ _ _ h => h) ?hob9 (by assumption) ?rob9
                    case hob9 => (unfold kO9; intro w hSw; (try dsimp only at hSw); go_simp <;> with_reducible rfl)
                    try simp only [Act.put, List.setIfInBounds_toArray, List.set_cons_zero, List.set_cons_succ]
                    refine tqY 10 kO10 (some 18) ?vob10 rfl rfl (by kernel_rfl) (fun _ _ _ h => h) ?hob10 (by assumption) ?rob10
                    case hob10 => (unfold kO10; intro w hSw; (try dsimp only at hSw); go_simp <;> with_reducible rfl)
                    try simp only [Act.put, List.setIfInBounds_toArray, List.set_cons_zero, List.set_cons_succ]
                    refine tqY 11 kO11 (some 19) ?vob11 rfl rfl (by kernel_rfl) (fun _ _ _ h => h) ?hob11 (by assumption) ?rob11
                    case hob11 => (unfold kO11; intro w hSw; (try dsimp only at hSw); go_simp <;> with_reducible rfl)
                    try simp only [Act.put, List.setIfInBounds_toArray, List.set_cons_zero, List.set_cons_succ]
                    refine tqY 12 kO12 (some 20) ?vob12 rfl rfl (by kernel_rfl) (fun _ _ _ h => h) ?hob12 (by assumption) ?rob12
                    case hob12 => (unfold kO12; intro w hSw; (try dsimp only at hSw); go_simp <;> with_reducible rfl)
                    try simp only [Act.put, List.setIfInBounds_toArray, List.set_cons_zero, List.set_cons_succ]
                    refine tqY 13 kO13 (some 21) ?vob13 rfl rfl (by kernel_rfl) (fun _ _ _ h => h) ?hob13 (by assumption) ?rob13
                    case hob13 => (unfold kO13; intro w hSw; (try dsimp only at hSw); go_simp <;> with_reducible rfl)
                    try simp only [Act.put, List.setIfInBounds_toArray, List.set_cons_zero, List.set_cons_succ]
                    refine tqY 14 kO14 (some 22) ?vob14 rfl rfl (by kernel_rfl) (fun _ _ _ h => h) ?hob14 (by assumption) ?rob14
                    case hob14 => (unfold kO14; intro w hSw; (try dsimp only at hSw); go_simp <;> with_reducible rfl)
                    try simp only [Act.put, List.setIfInBounds_toArray, List.set_cons_zero, List.set_cons_succ]
                    refine tqY 15 kO15 (some 23) ?vob15 rfl rfl (by kernel_rfl) (fun _ _ _ h => h) ?hob15 (by assumption) ?rob15
                    case hob15 => (unfold kO15; intro w hSw; (try dsimp only at hSw); go_simp <;> with_reducible rfl)
                    try simp only [Act.put, List.setIfInBounds_toArray, List.set_cons_zero, List.set_cons_succ]
                    refine tqY 16 kO16 (some 24) ?vob16 rfl rfl (by kernel_rfl) (fun _ _ _ h => h) ?hob16 (by assumption) ?rob16
                    case hob16 => (unfold kO16; intro w hSw; (try dsimp only at hSw); go_simp <;> with_reducible rfl)
                    try simp only [Act.put, List.setIfInBounds_toArray, List.set_cons_zero, List.set_cons_succ]
                    refine tqY 17 kO17 (some 25) ?vob17 rfl rfl (by kernel_rfl) (fun _ _ _ h => h) ?hob17 (by assumption) ?rob17
                    case hob17 => (unfold kO17; intro w hSw; (try dsimp only at hSw); go_simp <;> with_reducible rfl)
                    try simp only [Act.put, List.setIfInBounds_toArray, List.set_cons_zero, List.set_cons_succ]
                    refine tqY 18 kO18 (some 26) ?vob18 rfl rfl (by kernel_rfl) (fun _ _ _ h => h) ?hob18 (by assumption) ?rob18
                    case hob18 => (unfold kO18; intro w hSw; (try dsimp only at hSw); go_simp <;> with_reducible rfl)
                    try simp only [Act.put, List.setIfInBounds_toArray, List.set_cons_zero, List.set_cons_succ]
                    refine tqY 19 kO19 (some 27) ?vob19 rfl rfl (by kernel_rfl) (fun _ _ _ h => h) ?hob19 (by assumption) ?rob19
                    case hob19 => (unfold kO19; intro w hSw; (try dsimp only at hSw); go_simp <;> with_reducible rfl)
                    try simp only [Act.put, List.setIfInBounds_toArray, List.set_cons_zero, List.set_cons_succ]
                    refine tqY 20 kO20 (some 28) ?vob20 rfl rfl (by kernel_rfl) (fun _ _ _ h => h) ?hob20 (by assumption) ?rob20
                    case hob20 => (unfold kO20; intro w hSw; (try dsimp only at hSw); go_simp <;> with_reducible rfl)
                    try simp only [Act.put, List.setIfInBounds_toArray, List.set_cons_zero, List.set_cons_succ]
                    refine tqY 21 kO21 (some 29) ?vob21 rfl rfl (by kernel_rfl) (fun _ _ _ h => h) ?hob21 (by assumption) ?rob21
                    case hob21 => (unfold kO21; intro w hSw; (try dsimp only at hSw); go_simp <;> with_reducible rfl)
                    try simp only [Act.put, List.setIfInBounds_toArray, List.set_cons_zero, List.set_cons_succ]
                    refine tqY 22 kO22 (some 30) ?vob22 rfl rfl (by kernel_rfl) (fun _ _ _ h => h) ?hob22 (by assumption) ?rob22
                    case hob22 => (unfold kO22; intro w hSw; (try dsimp only at hSw); go_simp <;> with_reducible rfl)
                    try simp only [Act.put, List.setIfInBounds_toArray, List.set_cons_zero, List.set_cons_succ]
                    refine tqY 23 kO23 (some 31) ?vob23 rfl rfl (by kernel_rfl) (fun _ _ _ h => h) ?hob23 (by assumption) ?rob23
                    case hob23 => (unfold kO23; intro w hSw; (try dsimp only at hSw); go_simp <;> with_reducible rfl)
                    try simp only [Act.put, List.setIfInBounds_toArray, List.set_cons_zero, List.set_cons_succ]
                    refine tqY 24 kO24 (some 32) ?vob24 rfl rfl (by kernel_rfl) (fun _ _ _ h => h) ?hob24 (by assumption) ?rob24
                    case hob24 => (unfold kO24; intro w hSw; (try dsimp only at hSw); go_simp <;> with_reducible rfl)
                    try simp only [Act.put, List.setIfInBounds_toArray, List.set_cons_zero, List.set_cons_succ]
                    refine tqY 25 kO25 (some 33) ?vob25 rfl rfl (by kernel_rfl) (fun _ _ _ h => h) ?hob25 (by assumption) ?rob25
                    case hob25 => (unfold kO25; intro w hSw; (try dsimp only at hSw); go_simp <;> with_reducible rfl)
                    try simp only [Act.put, List.setIfInBounds_toArray, List.set_cons_zero, List.set_cons_succ]
                    refine tqY 26 kO26 (some 34) ?vob26 rfl rfl (by kernel_rfl) (fun _ _ _ h => h) ?hob26 (by assumption) ?rob26
                    case hob26 => (unfold kO26; intro w hSw; (try dsimp only at hSw); go_simp <;> with_reducible rfl)
                    try simp only [Act.put, List.setIfInBounds_toArray, List.set_cons_zero, List.set_cons_succ]
                    refine tqY 27 kO27 (some 35) ?vob27 rfl rfl (by kernel_rfl) (fun _ _ _ h => h) ?hob27 (by assumption) ?rob27
                    case hob27 => (unfold kO27; intro w hSw; (try dsimp only at hSw); go_simp <;> with_reducible rfl)
                    try simp only [Act.put, List.setIfInBounds_toArray, List.set_cons_zero, List.set_cons_succ]
                    refine tqY 28 kO28 (some 36) ?vob28 rfl rfl (by kernel_rfl) (fun _ _ _ h => h) ?hob28 (by assumption) ?rob28
                    case hob28 => (unfold kO28; intro w hSw; (try dsimp only at hSw); go_simp <;> with_reducible rfl)
                    try simp only [Act.put, List.setIfInBounds_toArray, List.set_cons_zero, List.set_cons_succ]
                    refine tqY 29 kO29 (some 37) ?vob29 rfl rfl (by kernel_rfl) (fun _ _ _ h => h) ?hob29 (by assumption) ?rob29
                    case hob29 => (unfold kO29; intro w hSw; (try dsimp only at hSw); go_simp <;> with_reducible rfl)
                    try simp only [Act.put, List.setIfInBounds_toArray, List.set_cons_zero, List.set_cons_succ]
                    refine tqY 30 kO30 (some 38) ?vob30 rfl rfl (by kernel_rfl) (fun _ _ _ h => h) ?hob30 (by assumption) ?rob30
                    case hob30 => (unfold kO30; intro w hSw; (try dsimp only at hSw); go_simp <;> with_reducible rfl)
                    try simp only [Act.put, List.setIfInBounds_toArray, List.set_cons_zero, List.set_cons_succ]
                    refine tqY 31 kO31 (some 39) ?vob31 rfl rfl (by kernel_rfl) (fun _ _ _ h => h) ?hob31 (by assumption) ?rob31
                    case hob31 => (unfold kO31; intro w hSw; (try dsimp only at hSw); go_simp <;> with_reducible rfl)
                    try simp only [Act.put, List.setIfInBounds_toArray, List.set_cons_zero, List.set_cons_succ]
                    refine tqY 32 kO32 (some 40) ?vob32 rfl rfl (by kernel_rfl) (fun _ _ _ h => h) ?hob32 (by assumption) ?rob32
                    case hob32 => (unfold kO32; intro w hSw; (try dsimp only at hSw); go_simp <;> with_reducible rfl)
                    try simp only [Act.put, List.setIfInBounds_toArray, List.set_cons_zero, List.set_cons_succ]
                    refine tqY 33 kO33 (some 41) ?vob33 rfl rfl (by kernel_rfl) (fun _ _ _ h => h) ?hob33 (by assumption) ?rob33
                    case hob33 => (unfold kO33; intro w hSw; (try dsimp only at hSw); go_simp <;> with_reducible rfl)
                    try simp only [Act.put, List.setIfInBounds_toArray, List.set_cons_zero, List.set_cons_succ]
                    refine tqY 34 kO34 (some 42) ?vob34 rfl rfl (by kernel_rfl) (fun _ _ _ h => h) ?hob34 (by assumption) ?rob34
                    case hob34 => (unfold kO34; intro w hSw; (try dsimp only at hSw); go_simp <;> with_reducible rfl)
                    try simp only [Act.put, List.setIfInBounds_toArray, List.set_cons_zero, List.set_cons_succ]
                    refine tqY 35 kO35 (some 43) ?vob35 rfl rfl (by kernel_rfl) (fun _ _ _ h => h) ?hob35 (by assumption) ?rob35
                    case hob35 => (unfold kO35; intro w hSw; (try dsimp only at hSw); go_simp <;> with_reducible rfl)
                    try simp only [Act.put, List.setIfInBounds_toArray, List.set_cons_zero, List.set_cons_succ]
                    refine tqY 36 kO36 (some 44) ?vob36 rfl rfl (by kernel_rfl) (fun _ _ _ h => h) ?hob36 (by assumption) ?rob36
                    case hob36 => (unfold kO36; intro w hSw; (try dsimp only at hSw); go_simp <;> with_reducible rfl)
                    try simp only [Act.put, List.setIfInBounds_toArray, List.set_cons_zero, List.set_cons_succ]
                    refine tqY 37 kO37 (some 45) ?vob37 rfl rfl (by kernel_rfl) (fun _ _ _ h => h) ?hob37 (by assumption) ?rob37
                    case hob37 => (unfold kO37; intro w hSw; (try dsimp only at hSw); go_simp <;> with_reducible rfl)
                    try simp only [Act.put, List.setIfInBounds_toArray, List.set_cons_zero, List.set_cons_succ]
                    refine tqY 38 kO38 (some 46) ?vob38 rfl rfl (by kernel_rfl) (fun _ _ _ h => h) ?hob38 (by assumption) ?rob38
                    case hob38 => (unfold kO38; intro w hSw; (try dsimp only at hSw); go_simp <;> with_reducible rfl)
                    try simp only [Act.put, List.setIfInBounds_toArray, List.set_cons_zero, List.set_cons_succ]
                    refine tqY 39 kO39 (some 47) ?vob39 rfl rfl (by kernel_rfl) (fun _ _ _ h => h) ?hob39 (by assumption) ?rob39
                    case hob39 => (unfold kO39; intro w hSw; (try dsimp only at hSw); go_simp <;> with_reducible rfl)
                    try simp only [Act.put, List.setIfInBounds_toArray, List.set_cons_zero, List.set_cons_succ]
                    refine tqY 40 kO40 (some 48) ?vob40 rfl rfl (by kernel_rfl) (fun _ _ _ h => h) ?hob40 (by assumption) ?rob40
                    case hob40 => (unfold kO40; intro w hSw; (try dsimp only at hSw); go_simp <;> with_reducible rfl)
                    try simp only [Act.put, List.setIfInBounds_toArray, List.set_cons_zero, List.set_cons_succ]
                    refine tqY 41 kO41 (some 49) ?vob41 rfl rfl (by kernel_rfl) (fun _ _ _ h => h) ?hob41 (by assumption) ?rob41
                    case hob41 => (unfold kO41; intro w hSw; (try dsimp only at hSw); go_simp <;> with_reducible rfl)
                    try simp only [Act.put, List.setIfInBounds_toArray, List.set_cons_zero, List.set_cons_succ]
                    refine tqY 42 kO42 (some 50) ?vob42 rfl rfl (by kernel_rfl) (fun _ _ _ h => h) ?hob42 (by assumption) ?rob42
                    case hob42 => (unfold kO42; intro w hSw; (try dsimp only at hSw); go_simp <;> with_reducible rfl)
                    try simp only [Act.put, List.setIfInBounds_toArray, List.set_cons_zero, List.set_cons_succ]
                    refine tqY 43 kO43 (some 51) ?vob43 rfl rfl (by kernel_rfl) (fun _ _ _ h => h) ?hob43 (by assumption) ?rob43
                    case hob43 => (unfold kO43; intro w hSw; (try dsimp only at hSw); go_simp <;> with_reducible rfl)
                    try simp only [Act.put, List.setIfInBounds_toArray, List.set_cons_zero, List.set_cons_succ]
                    refine wpAnyH_ready (rs := [44]) (by kernel_rfl) (by simp) ?_
                    refine AllReadyH.cons (o := { dst := some 52, op := Op.call { callee := Callee.value (Operand.func 24), args := #[Operand.tmp 39, Operand.tmp 51], argTypes := #[9, 4] }, type := 4, pos := "form.go:64", after := #[{ on := 31, ground := Ground.data }, { on := 43, ground := Ground.data }, { on := 37, ground := Ground.chain }, { on := 27, ground := Ground.guard }], guard := some (27, false) }) rfl (fun K hK => ?_) AllReadyH.nil
                    go_simp
                    go_at_call 24; refine (formName_no s _).mono ?_; rintro e w9 ⟨he, hw9⟩
                    rw [hsz] at he
                    subst he
                    obtain rfl := hw9.symm
                    refine hK.out _ _ hHeld (fun _ => ?_)
                    clear hK K
                    try simp only [Act.put, List.setIfInBounds_toArray, List.set_cons_zero, List.set_cons_succ]
                    refine tqY 45 kO45 (some 53) ?vob45 rfl rfl (by kernel_rfl) (fun _ _ _ h => h) ?hob45 (by assumption) ?rob45
                    case hob45 => (unfold kO45; intro w hSw; (try dsimp only at hSw); go_simp <;> with_reducible rfl)
                    try simp only [Act.put, List.setIfInBounds_toArray, List.set_cons_zero, List.set_cons_succ]
                    refine tqY 46 kO46 (some 54) ?vob46 rfl rfl (by kernel_rfl) (fun _ _ _ h => h) ?hob46 (by assumption) ?rob46
                    case hob46 => (unfold kO46; intro w hSw; (try dsimp only at hSw); go_simp <;> with_reducible rfl)
                    try simp only [Act.put, List.setIfInBounds_toArray, List.set_cons_zero, List.set_cons_succ]
                    refine tqY 47 kO47 (some 55) ?vob47 rfl rfl (by kernel_rfl) (fun _ _ _ h => h) ?hob47 (by assumption) ?rob47
                    case hob47 => (unfold kO47; intro w hSw; (try dsimp only at hSw); go_simp <;> with_reducible rfl)
                    try simp only [Act.put, List.setIfInBounds_toArray, List.set_cons_zero, List.set_cons_succ]
                    refine tqY 48 kO48 (some 56) ?vob48 rfl rfl (by kernel_rfl) (fun _ _ _ h => h) ?hob48 (by assumption) ?rob48
                    case hob48 => (unfold kO48; intro w hSw; (try dsimp only at hSw); go_simp <;> with_reducible rfl)
                    try simp only [Act.put, List.setIfInBounds_toArray, List.set_cons_zero, List.set_cons_succ]
                    refine tqY 49 kO49 (some 57) ?vob49 rfl rfl (by kernel_rfl) (fun _ _ _ h => h) ?hob49 (by assumption) ?rob49
                    case hob49 => (unfold kO49; intro w hSw; (try dsimp only at hSw); go_simp <;> with_reducible rfl)
                    try simp only [Act.put, List.setIfInBounds_toArray, List.set_cons_zero, List.set_cons_succ]
                    refine tqY 50 kO50 (some 58) ?vob50 rfl rfl (by kernel_rfl) (fun _ _ _ h => h) ?hob50 (by assumption) ?rob50
                    case hob50 => (unfold kO50; intro w hSw; (try dsimp only at hSw); go_simp <;> with_reducible rfl)
                    try simp only [Act.put, List.setIfInBounds_toArray, List.set_cons_zero, List.set_cons_succ]
                    refine tqY 51 kO51 (some 59) ?vob51 rfl rfl (by kernel_rfl) (fun _ _ _ h => h) ?hob51 (by assumption) ?rob51
                    case hob51 => (unfold kO51; intro w hSw; (try dsimp only at hSw); go_simp <;> with_reducible rfl)
                    try simp only [Act.put, List.setIfInBounds_toArray, List.set_cons_zero, List.set_cons_succ]
                    refine tqY 52 kO52 (some 60) ?vob52 rfl rfl (by kernel_rfl) (fun _ _ _ h => h) ?hob52 (by assumption) ?rob52
                    case hob52 => (unfold kO52; intro w hSw; (try dsimp only at hSw); go_simp <;> with_reducible rfl)
                    try simp only [Act.put, List.setIfInBounds_toArray, List.set_cons_zero, List.set_cons_succ]
                    refine tqY 53 kO53 (some 61) ?vob53 rfl rfl (by kernel_rfl) (fun _ _ _ h => h) ?hob53 (by assumption) ?rob53
                    case hob53 => (unfold kO53; intro w hSw; (try dsimp only at hSw); go_simp <;> with_reducible rfl)
                    try simp only [Act.put, List.setIfInBounds_toArray, List.set_cons_zero, List.set_cons_succ]
                    refine tqY 54 kO54 (some 62) ?vob54 rfl rfl (by kernel_rfl) (fun _ _ _ h => h) ?hob54 (by assumption) ?rob54
                    case hob54 => (unfold kO54; intro w hSw; (try dsimp only at hSw); go_simp <;> with_reducible rfl)
                    try simp only [Act.put, List.setIfInBounds_toArray, List.set_cons_zero, List.set_cons_succ]
                    refine tqY 55 kO55 (some 63) ?vob55 rfl rfl (by kernel_rfl) (fun _ _ _ h => h) ?hob55 (by assumption) ?rob55
                    case hob55 => (unfold kO55; intro w hSw; (try dsimp only at hSw); go_simp <;> with_reducible rfl)
                    try simp only [Act.put, List.setIfInBounds_toArray, List.set_cons_zero, List.set_cons_succ]
                    refine tqY 56 kO56 (some 64) ?vob56 rfl rfl (by kernel_rfl) (fun _ _ _ h => h) ?hob56 (by assumption) ?rob56
                    case hob56 => (unfold kO56; intro w hSw; (try dsimp only at hSw); go_simp <;> with_reducible rfl)
                    try simp only [Act.put, List.setIfInBounds_toArray, List.set_cons_zero, List.set_cons_succ]
                    refine tqY 57 kO57 (some 65) ?vob57 rfl rfl (by kernel_rfl) (fun _ _ _ h => h) ?hob57 (by assumption) ?rob57
                    case hob57 => (unfold kO57; intro w hSw; (try dsimp only at hSw); go_simp <;> with_reducible rfl)
                    try simp only [Act.put, List.setIfInBounds_toArray, List.set_cons_zero, List.set_cons_succ]
                    refine tqY 58 kO58 (some 66) ?vob58 rfl rfl (by kernel_rfl) (fun _ _ _ h => h) ?hob58 (by assumption) ?rob58
                    case hob58 => (unfold kO58; intro w hSw; (try dsimp only at hSw); go_simp <;> with_reducible rfl)
                    try simp only [Act.put, List.setIfInBounds_toArray, List.set_cons_zero, List.set_cons_succ]
                    refine tqY 59 kO59 (some 67) ?vob59 rfl rfl (by kernel_rfl) (fun _ _ _ h => h) ?hob59 (by assumption) ?rob59
                    case hob59 => (unfold kO59; intro w hSw; (try dsimp only at hSw); go_simp <;> with_reducible rfl)
                    try simp only [Act.put, List.setIfInBounds_toArray, List.set_cons_zero, List.set_cons_succ]
                    refine tqY 60 kO60 (some 68) ?vob60 rfl rfl (by kernel_rfl) (fun _ _ _ h => h) ?hob60 (by assumption) ?rob60
                    case hob60 => (unfold kO60; intro w hSw; (try dsimp only at hSw); go_simp <;> with_reducible rfl)
                    try simp only [Act.put, List.setIfInBounds_toArray, List.set_cons_zero, List.set_cons_succ]
                    refine wpAnyH_done (by kernel_rfl) ?_ _
                    have HBl := hHeld.1
                    gi_wp2_with fail
                    exact ⟨HBl.out, ⟨by rw [hPP.out]; exact hpl.out, by rw [if_neg hno.out]; exact hs0, Or.inr hx0.out⟩⟩
                  · have tx : (x != 0) = true := by simpa using hx0
                    have HKp : Hid (∀ Wc, Below Wb.heap.size Wb Wc → Aside (Below Wb.heap.size Wb Wc) ∧ Wc.cell? ⟨b, o, none⟩ = some (.int .i64 kx) ∧ Wc.cell? ⟨b, o + 1, none⟩ = some (.int .u64 x) ∧ Wc.cell? ⟨b, o + 2, none⟩ = some (.string s) ∧ Wc.cell? ⟨b, o + 3, none⟩ = some (.slice aS nS cS) ∧ Wc.cell? ⟨1, kx.toNat * 3 + 1, none⟩ = some (.int .i64 PP)) := fun Wc hc => ⟨hc, (hc.cell (p := ⟨b, o, none⟩) (Nat.lt_of_lt_of_le HB.out.1 HB.out.2.size)).trans y0, (hc.cell (p := ⟨b, o + 1, none⟩) (Nat.lt_of_lt_of_le HB.out.1 HB.out.2.size)).trans y1, (hc.cell (p := ⟨b, o + 2, none⟩) (Nat.lt_of_lt_of_le HB.out.1 HB.out.2.size)).trans y2, (hc.cell (p := ⟨b, o + 3, none⟩) (Nat.lt_of_lt_of_le HB.out.1 HB.out.2.size)).trans y3, (hc.cell (p := ⟨1, _, none⟩) HTb.out.2).trans ytb⟩
                    have hk0 := HKp.out Wb.drew ⟨rfl, rfl, rfl, Nat.le_refl _, fun _ _ => rfl⟩
                    gi_wp2_with fail
                    refine region_round (S := (fun Wc => Aside (Below Wb.heap.size Wb Wc) ∧ Wc.cell? ⟨b, o, none⟩ = some (.int .i64 kx) ∧ Wc.cell? ⟨b, o + 1, none⟩ = some (.int .u64 x) ∧ Wc.cell? ⟨b, o + 2, none⟩ = some (.string s) ∧ Wc.cell? ⟨b, o + 3, none⟩ = some (.slice aS nS cS) ∧ Wc.cell? ⟨1, kx.toNat * 3 + 1, none⟩ = some (.int .i64 PP))) (by kernel_rfl) (by kernel_rfl) (by rintro ⟨_, _, h⟩; exact h) hk0 (fun hHeld => ?_)
                    clear hk0
                    refine tqY 0 kO0 (some 8) ?voc0 rfl rfl (by kernel_rfl) (fun _ _ _ h => h) ?hoc0 (by assumption) ?roc0
                    case hoc0 => (unfold kO0; intro w hSw; (try dsimp only at hSw); go_simp <;> with_reducible rfl)
                    try simp only [Act.put, List.setIfInBounds_toArray, List.set_cons_zero, List.set_cons_succ]
                    refine tqY 1 kO1 (some 9) ?voc1 rfl rfl (by kernel_rfl) (fun _ _ _ h => h) ?hoc1 (by assumption) ?roc1
                    case hoc1 => (unfold kO1; intro w hSw; (try dsimp only at hSw); go_simp <;> with_reducible rfl)
                    try simp only [Act.put, List.setIfInBounds_toArray, List.set_cons_zero, List.set_cons_succ]
                    refine tqY 2 kO2 (some 10) ?voc2 rfl rfl (by kernel_rfl) (fun _ _ _ h => h) ?hoc2 (by assumption) ?roc2
                    case hoc2 => (unfold kO2; intro w hSw; (try dsimp only at hSw); go_simp <;> with_reducible rfl)
                    try simp only [Act.put, List.setIfInBounds_toArray, List.set_cons_zero, List.set_cons_succ]
                    refine tqY 3 kO3 (some 11) ?voc3 rfl rfl (by kernel_rfl) (fun _ _ _ h => h) ?hoc3 (by assumption) ?roc3
                    case hoc3 => (unfold kO3; intro w hSw; (try dsimp only at hSw); go_simp <;> with_reducible rfl)
                    try simp only [Act.put, List.setIfInBounds_toArray, List.set_cons_zero, List.set_cons_succ]
                    refine tqY 4 kO4 (some 12) ?voc4 rfl rfl (by kernel_rfl) (fun _ _ _ h => h) ?hoc4 (by assumption) ?roc4
                    case hoc4 => (unfold kO4; intro w hSw; (try dsimp only at hSw); go_simp <;> with_reducible rfl)
                    try simp only [Act.put, List.setIfInBounds_toArray, List.set_cons_zero, List.set_cons_succ]
                    refine tqY 5 kO5 (some 13) ?voc5 rfl rfl (by kernel_rfl) (fun _ _ _ h => h) ?hoc5 (by assumption) ?roc5
                    case hoc5 => (unfold kO5; intro w hSw; (try dsimp only at hSw); go_simp <;> with_reducible rfl)
                    try simp only [Act.put, List.setIfInBounds_toArray, List.set_cons_zero, List.set_cons_succ]
                    refine tqY 6 kO6 (some 14) ?voc6 rfl rfl (by kernel_rfl) (fun _ _ _ h => h) ?hoc6 (by assumption) ?roc6
                    case hoc6 => (unfold kO6; intro w hSw; (try dsimp only at hSw); go_simp <;> with_reducible rfl)
                    try simp only [Act.put, List.setIfInBounds_toArray, List.set_cons_zero, List.set_cons_succ]
                    refine tqY 7 kO7 (some 15) ?voc7 rfl rfl (by kernel_rfl) (fun _ _ _ h => h) ?hoc7 (by assumption) ?roc7
                    case hoc7 => (unfold kO7; intro w hSw; (try dsimp only at hSw); go_simp <;> with_reducible rfl)
                    try simp only [Act.put, List.setIfInBounds_toArray, List.set_cons_zero, List.set_cons_succ]
                    refine tqY 8 kO8 (some 16) ?voc8 rfl rfl (by kernel_rfl) (fun _ _ _ h => h) ?hoc8 (by assumption) ?roc8
                    case hoc8 => (unfold kO8; intro w hSw; (try dsimp only at hSw); go_simp <;> with_reducible rfl)
                    try simp only [Act.put, List.setIfInBounds_toArray, List.set_cons_zero, List.set_cons_succ]
                    refine tqY 9 kO9 (some 17) ?voc9 rfl rfl (by kernel_rfl) (fun _ _ _ h => h) ?hoc9 (by assumption) ?roc9
                    case hoc9 => (unfold kO9; intro w hSw; (try dsimp only at hSw); go_simp <;> with_reducible rfl)
                    try simp only [Act.put, List.setIfInBounds_toArray, List.set_cons_zero, List.set_cons_succ]
                    refine tqY 10 kO10 (some 18) ?voc10 rfl rfl (by kernel_rfl) (fun _ _ _ h => h) ?hoc10 (by assumption) ?roc10
                    case hoc10 => (unfold kO10; intro w hSw; (try dsimp only at hSw); go_simp <;> with_reducible rfl)
                    try simp only [Act.put, List.setIfInBounds_toArray, List.set_cons_zero, List.set_cons_succ]
                    refine tqY 11 kO11 (some 19) ?voc11 rfl rfl (by kernel_rfl) (fun _ _ _ h => h) ?hoc11 (by assumption) ?roc11
                    case hoc11 => (unfold kO11; intro w hSw; (try dsimp only at hSw); go_simp <;> with_reducible rfl)
                    try simp only [Act.put, List.setIfInBounds_toArray, List.set_cons_zero, List.set_cons_succ]
                    refine tqY 12 kO12 (some 20) ?voc12 rfl rfl (by kernel_rfl) (fun _ _ _ h => h) ?hoc12 (by assumption) ?roc12
                    case hoc12 => (unfold kO12; intro w hSw; (try dsimp only at hSw); go_simp <;> with_reducible rfl)
                    try simp only [Act.put, List.setIfInBounds_toArray, List.set_cons_zero, List.set_cons_succ]
                    refine tqY 13 kO13 (some 21) ?voc13 rfl rfl (by kernel_rfl) (fun _ _ _ h => h) ?hoc13 (by assumption) ?roc13
                    case hoc13 => (unfold kO13; intro w hSw; (try dsimp only at hSw); go_simp <;> with_reducible rfl)
                    try simp only [Act.put, List.setIfInBounds_toArray, List.set_cons_zero, List.set_cons_succ]
                    refine tqY 14 kO14 (some 22) ?voc14 rfl rfl (by kernel_rfl) (fun _ _ _ h => h) ?hoc14 (by assumption) ?roc14
                    case hoc14 => (unfold kO14; intro w hSw; (try dsimp only at hSw); go_simp <;> with_reducible rfl)
                    try simp only [Act.put, List.setIfInBounds_toArray, List.set_cons_zero, List.set_cons_succ]
                    refine tqY 15 kO15 (some 23) ?voc15 rfl rfl (by kernel_rfl) (fun _ _ _ h => h) ?hoc15 (by assumption) ?roc15
                    case hoc15 => (unfold kO15; intro w hSw; (try dsimp only at hSw); go_simp <;> with_reducible rfl)
                    try simp only [Act.put, List.setIfInBounds_toArray, List.set_cons_zero, List.set_cons_succ]
                    refine tqY 16 kO16 (some 24) ?voc16 rfl rfl (by kernel_rfl) (fun _ _ _ h => h) ?hoc16 (by assumption) ?roc16
                    case hoc16 => (unfold kO16; intro w hSw; (try dsimp only at hSw); go_simp <;> with_reducible rfl)
                    try simp only [Act.put, List.setIfInBounds_toArray, List.set_cons_zero, List.set_cons_succ]
                    refine tqY 17 kO17 (some 25) ?voc17 rfl rfl (by kernel_rfl) (fun _ _ _ h => h) ?hoc17 (by assumption) ?roc17
                    case hoc17 => (unfold kO17; intro w hSw; (try dsimp only at hSw); go_simp <;> with_reducible rfl)
                    try simp only [Act.put, List.setIfInBounds_toArray, List.set_cons_zero, List.set_cons_succ]
                    refine tqY 18 kO18 (some 26) ?voc18 rfl rfl (by kernel_rfl) (fun _ _ _ h => h) ?hoc18 (by assumption) ?roc18
                    case hoc18 => (unfold kO18; intro w hSw; (try dsimp only at hSw); go_simp <;> with_reducible rfl)
                    try simp only [Act.put, List.setIfInBounds_toArray, List.set_cons_zero, List.set_cons_succ]
                    refine tqY 19 kO19 (some 27) ?voc19 rfl rfl (by kernel_rfl) (fun _ _ _ h => h) ?hoc19 (by assumption) ?roc19
                    case hoc19 => (unfold kO19; intro w hSw; (try dsimp only at hSw); go_simp <;> with_reducible rfl)
                    try simp only [Act.put, List.setIfInBounds_toArray, List.set_cons_zero, List.set_cons_succ]
                    refine tqY 20 kO20 (some 28) ?voc20 rfl rfl (by kernel_rfl) (fun _ _ _ h => h) ?hoc20 (by assumption) ?roc20
                    case hoc20 => (unfold kO20; intro w hSw; (try dsimp only at hSw); go_simp <;> with_reducible rfl)
                    try simp only [Act.put, List.setIfInBounds_toArray, List.set_cons_zero, List.set_cons_succ]
                    refine tqY 21 kO21 (some 29) ?voc21 rfl rfl (by kernel_rfl) (fun _ _ _ h => h) ?hoc21 (by assumption) ?roc21
                    case hoc21 => (unfold kO21; intro w hSw; (try dsimp only at hSw); go_simp <;> with_reducible rfl)
                    try simp only [Act.put, List.setIfInBounds_toArray, List.set_cons_zero, List.set_cons_succ]
                    refine tqY 22 kO22 (some 30) ?voc22 rfl rfl (by kernel_rfl) (fun _ _ _ h => h) ?hoc22 (by assumption) ?roc22
                    case hoc22 => (unfold kO22; intro w hSw; (try dsimp only at hSw); go_simp <;> with_reducible rfl)
                    try simp only [Act.put, List.setIfInBounds_toArray, List.set_cons_zero, List.set_cons_succ]
                    refine tqY 23 kO23 (some 31) ?voc23 rfl rfl (by kernel_rfl) (fun _ _ _ h => h) ?hoc23 (by assumption) ?roc23
                    case hoc23 => (unfold kO23; intro w hSw; (try dsimp only at hSw); go_simp <;> with_reducible rfl)
                    try simp only [Act.put, List.setIfInBounds_toArray, List.set_cons_zero, List.set_cons_succ]
                    refine tqY 24 kO24 (some 32) ?voc24 rfl rfl (by kernel_rfl) (fun _ _ _ h => h) ?hoc24 (by assumption) ?roc24
                    case hoc24 => (unfold kO24; intro w hSw; (try dsimp only at hSw); go_simp <;> with_reducible rfl)
                    try simp only [Act.put, List.setIfInBounds_toArray, List.set_cons_zero, List.set_cons_succ]
                    refine tqY 25 kO25 (some 33) ?voc25 rfl rfl (by kernel_rfl) (fun _ _ _ h => h) ?hoc25 (by assumption) ?roc25
                    case hoc25 => (unfold kO25; intro w hSw; (try dsimp only at hSw); go_simp <;> with_reducible rfl)
                    try simp only [Act.put, List.setIfInBounds_toArray, List.set_cons_zero, List.set_cons_succ]
                    refine tqY 26 kO26 (some 34) ?voc26 rfl rfl (by kernel_rfl) (fun _ _ _ h => h) ?hoc26 (by assumption) ?roc26
                    case hoc26 => (unfold kO26; intro w hSw; (try dsimp only at hSw); go_simp <;> with_reducible rfl)
                    try simp only [Act.put, List.setIfInBounds_toArray, List.set_cons_zero, List.set_cons_succ]
                    refine tqY 27 kO27 (some 35) ?voc27 rfl rfl (by kernel_rfl) (fun _ _ _ h => h) ?hoc27 (by assumption) ?roc27
                    case hoc27 => (unfold kO27; intro w hSw; (try dsimp only at hSw); go_simp <;> with_reducible rfl)
                    try simp only [Act.put, List.setIfInBounds_toArray, List.set_cons_zero, List.set_cons_succ]
                    refine tqY 28 kO28 (some 36) ?voc28 rfl rfl (by kernel_rfl) (fun _ _ _ h => h) ?hoc28 (by assumption) ?roc28
                    case hoc28 => (unfold kO28; intro w hSw; (try dsimp only at hSw); go_simp <;> with_reducible rfl)
                    try simp only [Act.put, List.setIfInBounds_toArray, List.set_cons_zero, List.set_cons_succ]
                    refine tqY 29 kO29 (some 37) ?voc29 rfl rfl (by kernel_rfl) (fun _ _ _ h => h) ?hoc29 (by assumption) ?roc29
                    case hoc29 => (unfold kO29; intro w hSw; (try dsimp only at hSw); go_simp <;> with_reducible rfl)
                    try simp only [Act.put, List.setIfInBounds_toArray, List.set_cons_zero, List.set_cons_succ]
                    refine tqY 30 kO30 (some 38) ?voc30 rfl rfl (by kernel_rfl) (fun _ _ _ h => h) ?hoc30 (by assumption) ?roc30
                    case hoc30 => (unfold kO30; intro w hSw; (try dsimp only at hSw); go_simp <;> with_reducible rfl)
                    try simp only [Act.put, List.setIfInBounds_toArray, List.set_cons_zero, List.set_cons_succ]
                    refine tqY 31 kO31 (some 39) ?voc31 rfl rfl (by kernel_rfl) (fun _ _ _ h => h) ?hoc31 (by assumption) ?roc31
                    case hoc31 => (unfold kO31; intro w hSw; (try dsimp only at hSw); go_simp <;> with_reducible rfl)
                    try simp only [Act.put, List.setIfInBounds_toArray, List.set_cons_zero, List.set_cons_succ]
                    refine tqY 32 kO32 (some 40) ?voc32 rfl rfl (by kernel_rfl) (fun _ _ _ h => h) ?hoc32 (by assumption) ?roc32
                    case hoc32 => (unfold kO32; intro w hSw; (try dsimp only at hSw); go_simp <;> with_reducible rfl)
                    try simp only [Act.put, List.setIfInBounds_toArray, List.set_cons_zero, List.set_cons_succ]
                    refine tqY 33 kO33 (some 41) ?voc33 rfl rfl (by kernel_rfl) (fun _ _ _ h => h) ?hoc33 (by assumption) ?roc33
                    case hoc33 => (unfold kO33; intro w hSw; (try dsimp only at hSw); go_simp <;> with_reducible rfl)
                    try simp only [Act.put, List.setIfInBounds_toArray, List.set_cons_zero, List.set_cons_succ]
                    refine tqY 34 kO34 (some 42) ?voc34 rfl rfl (by kernel_rfl) (fun _ _ _ h => h) ?hoc34 (by assumption) ?roc34
                    case hoc34 => (unfold kO34; intro w hSw; (try dsimp only at hSw); go_simp <;> with_reducible rfl)
                    try simp only [Act.put, List.setIfInBounds_toArray, List.set_cons_zero, List.set_cons_succ]
                    refine tqY 35 kO35 (some 43) ?voc35 rfl rfl (by kernel_rfl) (fun _ _ _ h => h) ?hoc35 (by assumption) ?roc35
                    case hoc35 => (unfold kO35; intro w hSw; (try dsimp only at hSw); go_simp <;> with_reducible rfl)
                    try simp only [Act.put, List.setIfInBounds_toArray, List.set_cons_zero, List.set_cons_succ]
                    refine tqY 36 kO36 (some 44) ?voc36 rfl rfl (by kernel_rfl) (fun _ _ _ h => h) ?hoc36 (by assumption) ?roc36
                    case hoc36 => (unfold kO36; intro w hSw; (try dsimp only at hSw); go_simp <;> with_reducible rfl)
                    try simp only [Act.put, List.setIfInBounds_toArray, List.set_cons_zero, List.set_cons_succ]
                    refine tqY 37 kO37 (some 45) ?voc37 rfl rfl (by kernel_rfl) (fun _ _ _ h => h) ?hoc37 (by assumption) ?roc37
                    case hoc37 => (unfold kO37; intro w hSw; (try dsimp only at hSw); go_simp <;> with_reducible rfl)
                    try simp only [Act.put, List.setIfInBounds_toArray, List.set_cons_zero, List.set_cons_succ]
                    refine tqY 38 kO38 (some 46) ?voc38 rfl rfl (by kernel_rfl) (fun _ _ _ h => h) ?hoc38 (by assumption) ?roc38
                    case hoc38 => (unfold kO38; intro w hSw; (try dsimp only at hSw); go_simp <;> with_reducible rfl)
                    try simp only [Act.put, List.setIfInBounds_toArray, List.set_cons_zero, List.set_cons_succ]
                    refine tqY 39 kO39 (some 47) ?voc39 rfl rfl (by kernel_rfl) (fun _ _ _ h => h) ?hoc39 (by assumption) ?roc39
                    case hoc39 => (unfold kO39; intro w hSw; (try dsimp only at hSw); go_simp <;> with_reducible rfl)
                    try simp only [Act.put, List.setIfInBounds_toArray, List.set_cons_zero, List.set_cons_succ]
                    refine tqY 40 kO40 (some 48) ?voc40 rfl rfl (by kernel_rfl) (fun _ _ _ h => h) ?hoc40 (by assumption) ?roc40
                    case hoc40 => (unfold kO40; intro w hSw; (try dsimp only at hSw); go_simp <;> with_reducible rfl)
                    try simp only [Act.put, List.setIfInBounds_toArray, List.set_cons_zero, List.set_cons_succ]
                    refine tqY 41 kO41 (some 49) ?voc41 rfl rfl (by kernel_rfl) (fun _ _ _ h => h) ?hoc41 (by assumption) ?roc41
                    case hoc41 => (unfold kO41; intro w hSw; (try dsimp only at hSw); go_simp <;> with_reducible rfl)
                    try simp only [Act.put, List.setIfInBounds_toArray, List.set_cons_zero, List.set_cons_succ]
                    refine tqY 42 kO42 (some 50) ?voc42 rfl rfl (by kernel_rfl) (fun _ _ _ h => h) ?hoc42 (by assumption) ?roc42
                    case hoc42 => (unfold kO42; intro w hSw; (try dsimp only at hSw); go_simp <;> with_reducible rfl)
                    try simp only [Act.put, List.setIfInBounds_toArray, List.set_cons_zero, List.set_cons_succ]
                    refine tqY 43 kO43 (some 51) ?voc43 rfl rfl (by kernel_rfl) (fun _ _ _ h => h) ?hoc43 (by assumption) ?roc43
                    case hoc43 => (unfold kO43; intro w hSw; (try dsimp only at hSw); go_simp <;> with_reducible rfl)
                    try simp only [Act.put, List.setIfInBounds_toArray, List.set_cons_zero, List.set_cons_succ]
                    refine wpAnyH_ready (rs := [44]) (by kernel_rfl) (by simp) ?_
                    refine AllReadyH.cons (o := { dst := some 52, op := Op.call { callee := Callee.value (Operand.func 24), args := #[Operand.tmp 39, Operand.tmp 51], argTypes := #[9, 4] }, type := 4, pos := "form.go:64", after := #[{ on := 31, ground := Ground.data }, { on := 43, ground := Ground.data }, { on := 37, ground := Ground.chain }, { on := 27, ground := Ground.guard }], guard := some (27, false) }) rfl (fun K hK => ?_) AllReadyH.nil
                    go_simp
                    go_at_call 24; refine (formName_no s _).mono ?_; rintro e w9 ⟨he, hw9⟩
                    rw [hsz] at he
                    subst he
                    obtain rfl := hw9.symm
                    refine hK.out _ _ hHeld (fun _ => ?_)
                    clear hK K
                    try simp only [Act.put, List.setIfInBounds_toArray, List.set_cons_zero, List.set_cons_succ]
                    refine tqY 45 kO45 (some 53) ?voc45 rfl rfl (by kernel_rfl) (fun _ _ _ h => h) ?hoc45 (by assumption) ?roc45
                    case hoc45 => (unfold kO45; intro w hSw; (try dsimp only at hSw); go_simp <;> with_reducible rfl)
                    try simp only [Act.put, List.setIfInBounds_toArray, List.set_cons_zero, List.set_cons_succ]
                    refine tqY 46 kO46 (some 54) ?voc46 rfl rfl (by kernel_rfl) (fun _ _ _ h => h) ?hoc46 (by assumption) ?roc46
                    case hoc46 => (unfold kO46; intro w hSw; (try dsimp only at hSw); go_simp <;> with_reducible rfl)
                    try simp only [Act.put, List.setIfInBounds_toArray, List.set_cons_zero, List.set_cons_succ]
                    refine tqY 47 kO47 (some 55) ?voc47 rfl rfl (by kernel_rfl) (fun _ _ _ h => h) ?hoc47 (by assumption) ?roc47
                    case hoc47 => (unfold kO47; intro w hSw; (try dsimp only at hSw); go_simp <;> with_reducible rfl)
                    try simp only [Act.put, List.setIfInBounds_toArray, List.set_cons_zero, List.set_cons_succ]
                    refine tqY 48 kO48 (some 56) ?voc48 rfl rfl (by kernel_rfl) (fun _ _ _ h => h) ?hoc48 (by assumption) ?roc48
                    case hoc48 => (unfold kO48; intro w hSw; (try dsimp only at hSw); go_simp <;> with_reducible rfl)
                    try simp only [Act.put, List.setIfInBounds_toArray, List.set_cons_zero, List.set_cons_succ]
                    refine tqY 49 kO49 (some 57) ?voc49 rfl rfl (by kernel_rfl) (fun _ _ _ h => h) ?hoc49 (by assumption) ?roc49
                    case hoc49 => (unfold kO49; intro w hSw; (try dsimp only at hSw); go_simp <;> with_reducible rfl)
                    try simp only [Act.put, List.setIfInBounds_toArray, List.set_cons_zero, List.set_cons_succ]
                    refine tqY 50 kO50 (some 58) ?voc50 rfl rfl (by kernel_rfl) (fun _ _ _ h => h) ?hoc50 (by assumption) ?roc50
                    case hoc50 => (unfold kO50; intro w hSw; (try dsimp only at hSw); go_simp <;> with_reducible rfl)
                    try simp only [Act.put, List.setIfInBounds_toArray, List.set_cons_zero, List.set_cons_succ]
                    refine tqY 51 kO51 (some 59) ?voc51 rfl rfl (by kernel_rfl) (fun _ _ _ h => h) ?hoc51 (by assumption) ?roc51
                    case hoc51 => (unfold kO51; intro w hSw; (try dsimp only at hSw); go_simp <;> with_reducible rfl)
                    try simp only [Act.put, List.setIfInBounds_toArray, List.set_cons_zero, List.set_cons_succ]
                    refine tqY 52 kO52 (some 60) ?voc52 rfl rfl (by kernel_rfl) (fun _ _ _ h => h) ?hoc52 (by assumption) ?roc52
                    case hoc52 => (unfold kO52; intro w hSw; (try dsimp only at hSw); go_simp <;> with_reducible rfl)
                    try simp only [Act.put, List.setIfInBounds_toArray, List.set_cons_zero, List.set_cons_succ]
                    refine tqY 53 kO53 (some 61) ?voc53 rfl rfl (by kernel_rfl) (fun _ _ _ h => h) ?hoc53 (by assumption) ?roc53
                    case hoc53 => (unfold kO53; intro w hSw; (try dsimp only at hSw); go_simp <;> with_reducible rfl)
                    try simp only [Act.put, List.setIfInBounds_toArray, List.set_cons_zero, List.set_cons_succ]
                    refine tqY 54 kO54 (some 62) ?voc54 rfl rfl (by kernel_rfl) (fun _ _ _ h => h) ?hoc54 (by assumption) ?roc54
                    case hoc54 => (unfold kO54; intro w hSw; (try dsimp only at hSw); go_simp <;> with_reducible rfl)
                    try simp only [Act.put, List.setIfInBounds_toArray, List.set_cons_zero, List.set_cons_succ]
                    refine tqY 55 kO55 (some 63) ?voc55 rfl rfl (by kernel_rfl) (fun _ _ _ h => h) ?hoc55 (by assumption) ?roc55
                    case hoc55 => (unfold kO55; intro w hSw; (try dsimp only at hSw); go_simp <;> with_reducible rfl)
                    try simp only [Act.put, List.setIfInBounds_toArray, List.set_cons_zero, List.set_cons_succ]
                    refine tqY 56 kO56 (some 64) ?voc56 rfl rfl (by kernel_rfl) (fun _ _ _ h => h) ?hoc56 (by assumption) ?roc56
                    case hoc56 => (unfold kO56; intro w hSw; (try dsimp only at hSw); go_simp <;> with_reducible rfl)
                    try simp only [Act.put, List.setIfInBounds_toArray, List.set_cons_zero, List.set_cons_succ]
                    refine tqY 57 kO57 (some 65) ?voc57 rfl rfl (by kernel_rfl) (fun _ _ _ h => h) ?hoc57 (by assumption) ?roc57
                    case hoc57 => (unfold kO57; intro w hSw; (try dsimp only at hSw); go_simp <;> with_reducible rfl)
                    try simp only [Act.put, List.setIfInBounds_toArray, List.set_cons_zero, List.set_cons_succ]
                    refine tqY 58 kO58 (some 66) ?voc58 rfl rfl (by kernel_rfl) (fun _ _ _ h => h) ?hoc58 (by assumption) ?roc58
                    case hoc58 => (unfold kO58; intro w hSw; (try dsimp only at hSw); go_simp <;> with_reducible rfl)
                    try simp only [Act.put, List.setIfInBounds_toArray, List.set_cons_zero, List.set_cons_succ]
                    refine tqY 59 kO59 (some 67) ?voc59 rfl rfl (by kernel_rfl) (fun _ _ _ h => h) ?hoc59 (by assumption) ?roc59
                    case hoc59 => (unfold kO59; intro w hSw; (try dsimp only at hSw); go_simp <;> with_reducible rfl)
                    try simp only [Act.put, List.setIfInBounds_toArray, List.set_cons_zero, List.set_cons_succ]
                    refine tqY 60 kO60 (some 68) ?voc60 rfl rfl (by kernel_rfl) (fun _ _ _ h => h) ?hoc60 (by assumption) ?roc60
                    case hoc60 => (unfold kO60; intro w hSw; (try dsimp only at hSw); go_simp <;> with_reducible rfl)
                    try simp only [Act.put, List.setIfInBounds_toArray, List.set_cons_zero, List.set_cons_succ]
                    refine wpAnyH_done (by kernel_rfl) ?_ _
                    obtain ⟨⟨r1, r2⟩, r3⟩ := HEnd.out _ hHeld.1.out (fun hf => absurd (HFa.out hf) (by intro hh; rcases hh.2.2 with h | h; exact hkn1 h; exact hx0 h))
                    have HR3 : Hid _ := r3
                    clear r3
                    gi_wp2_with fail
                    exact HR3.out
              · have hsz : decide (s.size = 0) = false := decide_eq_false hs0
                have HKp : Hid (∀ Wc, Below Wb.heap.size Wb Wc → Aside (Below Wb.heap.size Wb Wc) ∧ Wc.cell? ⟨b, o, none⟩ = some (.int .i64 kx) ∧ Wc.cell? ⟨b, o + 1, none⟩ = some (.int .u64 x) ∧ Wc.cell? ⟨b, o + 2, none⟩ = some (.string s) ∧ Wc.cell? ⟨b, o + 3, none⟩ = some (.slice aS nS cS) ∧ Wc.cell? ⟨1, kx.toNat * 3 + 1, none⟩ = some (.int .i64 PP)) := fun Wc hc => ⟨hc, (hc.cell (p := ⟨b, o, none⟩) (Nat.lt_of_lt_of_le HB.out.1 HB.out.2.size)).trans y0, (hc.cell (p := ⟨b, o + 1, none⟩) (Nat.lt_of_lt_of_le HB.out.1 HB.out.2.size)).trans y1, (hc.cell (p := ⟨b, o + 2, none⟩) (Nat.lt_of_lt_of_le HB.out.1 HB.out.2.size)).trans y2, (hc.cell (p := ⟨b, o + 3, none⟩) (Nat.lt_of_lt_of_le HB.out.1 HB.out.2.size)).trans y3, (hc.cell (p := ⟨1, _, none⟩) HTb.out.2).trans ytb⟩
                have hk0 := HKp.out Wb.drew ⟨rfl, rfl, rfl, Nat.le_refl _, fun _ _ => rfl⟩
                gi_wp2_with fail
                refine region_round (S := (fun Wc => Aside (Below Wb.heap.size Wb Wc) ∧ Wc.cell? ⟨b, o, none⟩ = some (.int .i64 kx) ∧ Wc.cell? ⟨b, o + 1, none⟩ = some (.int .u64 x) ∧ Wc.cell? ⟨b, o + 2, none⟩ = some (.string s) ∧ Wc.cell? ⟨b, o + 3, none⟩ = some (.slice aS nS cS) ∧ Wc.cell? ⟨1, kx.toNat * 3 + 1, none⟩ = some (.int .i64 PP))) (by kernel_rfl) (by kernel_rfl) (by rintro ⟨_, _, h⟩; exact h) hk0 (fun hHeld => ?_)
                clear hk0
                refine tqY 0 kO0 (some 8) ?vod0 rfl rfl (by kernel_rfl) (fun _ _ _ h => h) ?hod0 (by assumption) ?rod0
                case hod0 => (unfold kO0; intro w hSw; (try dsimp only at hSw); go_simp <;> with_reducible rfl)
                try simp only [Act.put, List.setIfInBounds_toArray, List.set_cons_zero, List.set_cons_succ]
                refine tqY 1 kO1 (some 9) ?vod1 rfl rfl (by kernel_rfl) (fun _ _ _ h => h) ?hod1 (by assumption) ?rod1
                case hod1 => (unfold kO1; intro w hSw; (try dsimp only at hSw); go_simp <;> with_reducible rfl)
                try simp only [Act.put, List.setIfInBounds_toArray, List.set_cons_zero, List.set_cons_succ]
                refine tqY 2 kO2 (some 10) ?vod2 rfl rfl (by kernel_rfl) (fun _ _ _ h => h) ?hod2 (by assumption) ?rod2
                case hod2 => (unfold kO2; intro w hSw; (try dsimp only at hSw); go_simp <;> with_reducible rfl)
                try simp only [Act.put, List.setIfInBounds_toArray, List.set_cons_zero, List.set_cons_succ]
                refine tqY 3 kO3 (some 11) ?vod3 rfl rfl (by kernel_rfl) (fun _ _ _ h => h) ?hod3 (by assumption) ?rod3
                case hod3 => (unfold kO3; intro w hSw; (try dsimp only at hSw); go_simp <;> with_reducible rfl)
                try simp only [Act.put, List.setIfInBounds_toArray, List.set_cons_zero, List.set_cons_succ]
                refine tqY 4 kO4 (some 12) ?vod4 rfl rfl (by kernel_rfl) (fun _ _ _ h => h) ?hod4 (by assumption) ?rod4
                case hod4 => (unfold kO4; intro w hSw; (try dsimp only at hSw); go_simp <;> with_reducible rfl)
                try simp only [Act.put, List.setIfInBounds_toArray, List.set_cons_zero, List.set_cons_succ]
                refine tqY 5 kO5 (some 13) ?vod5 rfl rfl (by kernel_rfl) (fun _ _ _ h => h) ?hod5 (by assumption) ?rod5
                case hod5 => (unfold kO5; intro w hSw; (try dsimp only at hSw); go_simp <;> with_reducible rfl)
                try simp only [Act.put, List.setIfInBounds_toArray, List.set_cons_zero, List.set_cons_succ]
                refine tqY 6 kO6 (some 14) ?vod6 rfl rfl (by kernel_rfl) (fun _ _ _ h => h) ?hod6 (by assumption) ?rod6
                case hod6 => (unfold kO6; intro w hSw; (try dsimp only at hSw); go_simp <;> with_reducible rfl)
                try simp only [Act.put, List.setIfInBounds_toArray, List.set_cons_zero, List.set_cons_succ]
                refine tqY 7 kO7 (some 15) ?vod7 rfl rfl (by kernel_rfl) (fun _ _ _ h => h) ?hod7 (by assumption) ?rod7
                case hod7 => (unfold kO7; intro w hSw; (try dsimp only at hSw); go_simp <;> with_reducible rfl)
                try simp only [Act.put, List.setIfInBounds_toArray, List.set_cons_zero, List.set_cons_succ]
                refine tqY 8 kO8 (some 16) ?vod8 rfl rfl (by kernel_rfl) (fun _ _ _ h => h) ?hod8 (by assumption) ?rod8
                case hod8 => (unfold kO8; intro w hSw; (try dsimp only at hSw); go_simp <;> with_reducible rfl)
                try simp only [Act.put, List.setIfInBounds_toArray, List.set_cons_zero, List.set_cons_succ]
                refine tqY 9 kO9 (some 17) ?vod9 rfl rfl (by kernel_rfl) (fun _ _ _ h => h) ?hod9 (by assumption) ?rod9
                case hod9 => (unfold kO9; intro w hSw; (try dsimp only at hSw); go_simp <;> with_reducible rfl)
                try simp only [Act.put, List.setIfInBounds_toArray, List.set_cons_zero, List.set_cons_succ]
                refine tqY 10 kO10 (some 18) ?vod10 rfl rfl (by kernel_rfl) (fun _ _ _ h => h) ?hod10 (by assumption) ?rod10
                case hod10 => (unfold kO10; intro w hSw; (try dsimp only at hSw); go_simp <;> with_reducible rfl)
                try simp only [Act.put, List.setIfInBounds_toArray, List.set_cons_zero, List.set_cons_succ]
                refine tqY 11 kO11 (some 19) ?vod11 rfl rfl (by kernel_rfl) (fun _ _ _ h => h) ?hod11 (by assumption) ?rod11
                case hod11 => (unfold kO11; intro w hSw; (try dsimp only at hSw); go_simp <;> with_reducible rfl)
                try simp only [Act.put, List.setIfInBounds_toArray, List.set_cons_zero, List.set_cons_succ]
                refine tqY 12 kO12 (some 20) ?vod12 rfl rfl (by kernel_rfl) (fun _ _ _ h => h) ?hod12 (by assumption) ?rod12
                case hod12 => (unfold kO12; intro w hSw; (try dsimp only at hSw); go_simp <;> with_reducible rfl)
                try simp only [Act.put, List.setIfInBounds_toArray, List.set_cons_zero, List.set_cons_succ]
                refine tqY 13 kO13 (some 21) ?vod13 rfl rfl (by kernel_rfl) (fun _ _ _ h => h) ?hod13 (by assumption) ?rod13
                case hod13 => (unfold kO13; intro w hSw; (try dsimp only at hSw); go_simp <;> with_reducible rfl)
                try simp only [Act.put, List.setIfInBounds_toArray, List.set_cons_zero, List.set_cons_succ]
                refine tqY 14 kO14 (some 22) ?vod14 rfl rfl (by kernel_rfl) (fun _ _ _ h => h) ?hod14 (by assumption) ?rod14
                case hod14 => (unfold kO14; intro w hSw; (try dsimp only at hSw); go_simp <;> with_reducible rfl)
                try simp only [Act.put, List.setIfInBounds_toArray, List.set_cons_zero, List.set_cons_succ]
                refine tqY 15 kO15 (some 23) ?vod15 rfl rfl (by kernel_rfl) (fun _ _ _ h => h) ?hod15 (by assumption) ?rod15
                case hod15 => (unfold kO15; intro w hSw; (try dsimp only at hSw); go_simp <;> with_reducible rfl)
                try simp only [Act.put, List.setIfInBounds_toArray, List.set_cons_zero, List.set_cons_succ]
                refine tqY 16 kO16 (some 24) ?vod16 rfl rfl (by kernel_rfl) (fun _ _ _ h => h) ?hod16 (by assumption) ?rod16
                case hod16 => (unfold kO16; intro w hSw; (try dsimp only at hSw); go_simp <;> with_reducible rfl)
                try simp only [Act.put, List.setIfInBounds_toArray, List.set_cons_zero, List.set_cons_succ]
                refine tqY 17 kO17 (some 25) ?vod17 rfl rfl (by kernel_rfl) (fun _ _ _ h => h) ?hod17 (by assumption) ?rod17
                case hod17 => (unfold kO17; intro w hSw; (try dsimp only at hSw); go_simp <;> with_reducible rfl)
                try simp only [Act.put, List.setIfInBounds_toArray, List.set_cons_zero, List.set_cons_succ]
                refine tqY 18 kO18 (some 26) ?vod18 rfl rfl (by kernel_rfl) (fun _ _ _ h => h) ?hod18 (by assumption) ?rod18
                case hod18 => (unfold kO18; intro w hSw; (try dsimp only at hSw); go_simp <;> with_reducible rfl)
                try simp only [Act.put, List.setIfInBounds_toArray, List.set_cons_zero, List.set_cons_succ]
                refine tqY 19 kO19 (some 27) ?vod19 rfl rfl (by kernel_rfl) (fun _ _ _ h => h) ?hod19 (by assumption) ?rod19
                case hod19 => (unfold kO19; intro w hSw; (try dsimp only at hSw); go_simp <;> with_reducible rfl)
                try simp only [Act.put, List.setIfInBounds_toArray, List.set_cons_zero, List.set_cons_succ]
                refine tqY 20 kO20 (some 28) ?vod20 rfl rfl (by kernel_rfl) (fun _ _ _ h => h) ?hod20 (by assumption) ?rod20
                case hod20 => (unfold kO20; intro w hSw; (try dsimp only at hSw); go_simp <;> with_reducible rfl)
                try simp only [Act.put, List.setIfInBounds_toArray, List.set_cons_zero, List.set_cons_succ]
                refine tqY 21 kO21 (some 29) ?vod21 rfl rfl (by kernel_rfl) (fun _ _ _ h => h) ?hod21 (by assumption) ?rod21
                case hod21 => (unfold kO21; intro w hSw; (try dsimp only at hSw); go_simp <;> with_reducible rfl)
                try simp only [Act.put, List.setIfInBounds_toArray, List.set_cons_zero, List.set_cons_succ]
                refine tqY 22 kO22 (some 30) ?vod22 rfl rfl (by kernel_rfl) (fun _ _ _ h => h) ?hod22 (by assumption) ?rod22
                case hod22 => (unfold kO22; intro w hSw; (try dsimp only at hSw); go_simp <;> with_reducible rfl)
                try simp only [Act.put, List.setIfInBounds_toArray, List.set_cons_zero, List.set_cons_succ]
                refine tqY 23 kO23 (some 31) ?vod23 rfl rfl (by kernel_rfl) (fun _ _ _ h => h) ?hod23 (by assumption) ?rod23
                case hod23 => (unfold kO23; intro w hSw; (try dsimp only at hSw); go_simp <;> with_reducible rfl)
                try simp only [Act.put, List.setIfInBounds_toArray, List.set_cons_zero, List.set_cons_succ]
                refine tqY 24 kO24 (some 32) ?vod24 rfl rfl (by kernel_rfl) (fun _ _ _ h => h) ?hod24 (by assumption) ?rod24
                case hod24 => (unfold kO24; intro w hSw; (try dsimp only at hSw); go_simp <;> with_reducible rfl)
                try simp only [Act.put, List.setIfInBounds_toArray, List.set_cons_zero, List.set_cons_succ]
                refine tqY 25 kO25 (some 33) ?vod25 rfl rfl (by kernel_rfl) (fun _ _ _ h => h) ?hod25 (by assumption) ?rod25
                case hod25 => (unfold kO25; intro w hSw; (try dsimp only at hSw); go_simp <;> with_reducible rfl)
                try simp only [Act.put, List.setIfInBounds_toArray, List.set_cons_zero, List.set_cons_succ]
                refine tqY 26 kO26 (some 34) ?vod26 rfl rfl (by kernel_rfl) (fun _ _ _ h => h) ?hod26 (by assumption) ?rod26
                case hod26 => (unfold kO26; intro w hSw; (try dsimp only at hSw); go_simp <;> with_reducible rfl)
                try simp only [Act.put, List.setIfInBounds_toArray, List.set_cons_zero, List.set_cons_succ]
                refine tqY 27 kO27 (some 35) ?vod27 rfl rfl (by kernel_rfl) (fun _ _ _ h => h) ?hod27 (by assumption) ?rod27
                case hod27 => (unfold kO27; intro w hSw; (try dsimp only at hSw); go_simp <;> with_reducible rfl)
                try simp only [Act.put, List.setIfInBounds_toArray, List.set_cons_zero, List.set_cons_succ]
                refine tqY 28 kO28 (some 36) ?vod28 rfl rfl (by kernel_rfl) (fun _ _ _ h => h) ?hod28 (by assumption) ?rod28
                case hod28 => (unfold kO28; intro w hSw; (try dsimp only at hSw); go_simp <;> with_reducible rfl)
                try simp only [Act.put, List.setIfInBounds_toArray, List.set_cons_zero, List.set_cons_succ]
                refine tqY 29 kO29 (some 37) ?vod29 rfl rfl (by kernel_rfl) (fun _ _ _ h => h) ?hod29 (by assumption) ?rod29
                case hod29 => (unfold kO29; intro w hSw; (try dsimp only at hSw); go_simp <;> with_reducible rfl)
                try simp only [Act.put, List.setIfInBounds_toArray, List.set_cons_zero, List.set_cons_succ]
                refine tqY 30 kO30 (some 38) ?vod30 rfl rfl (by kernel_rfl) (fun _ _ _ h => h) ?hod30 (by assumption) ?rod30
                case hod30 => (unfold kO30; intro w hSw; (try dsimp only at hSw); go_simp <;> with_reducible rfl)
                try simp only [Act.put, List.setIfInBounds_toArray, List.set_cons_zero, List.set_cons_succ]
                refine tqY 31 kO31 (some 39) ?vod31 rfl rfl (by kernel_rfl) (fun _ _ _ h => h) ?hod31 (by assumption) ?rod31
                case hod31 => (unfold kO31; intro w hSw; (try dsimp only at hSw); go_simp <;> with_reducible rfl)
                try simp only [Act.put, List.setIfInBounds_toArray, List.set_cons_zero, List.set_cons_succ]
                refine tqY 32 kO32 (some 40) ?vod32 rfl rfl (by kernel_rfl) (fun _ _ _ h => h) ?hod32 (by assumption) ?rod32
                case hod32 => (unfold kO32; intro w hSw; (try dsimp only at hSw); go_simp <;> with_reducible rfl)
                try simp only [Act.put, List.setIfInBounds_toArray, List.set_cons_zero, List.set_cons_succ]
                refine tqY 33 kO33 (some 41) ?vod33 rfl rfl (by kernel_rfl) (fun _ _ _ h => h) ?hod33 (by assumption) ?rod33
                case hod33 => (unfold kO33; intro w hSw; (try dsimp only at hSw); go_simp <;> with_reducible rfl)
                try simp only [Act.put, List.setIfInBounds_toArray, List.set_cons_zero, List.set_cons_succ]
                refine tqY 34 kO34 (some 42) ?vod34 rfl rfl (by kernel_rfl) (fun _ _ _ h => h) ?hod34 (by assumption) ?rod34
                case hod34 => (unfold kO34; intro w hSw; (try dsimp only at hSw); go_simp <;> with_reducible rfl)
                try simp only [Act.put, List.setIfInBounds_toArray, List.set_cons_zero, List.set_cons_succ]
                refine tqY 35 kO35 (some 43) ?vod35 rfl rfl (by kernel_rfl) (fun _ _ _ h => h) ?hod35 (by assumption) ?rod35
                case hod35 => (unfold kO35; intro w hSw; (try dsimp only at hSw); go_simp <;> with_reducible rfl)
                try simp only [Act.put, List.setIfInBounds_toArray, List.set_cons_zero, List.set_cons_succ]
                refine tqY 36 kO36 (some 44) ?vod36 rfl rfl (by kernel_rfl) (fun _ _ _ h => h) ?hod36 (by assumption) ?rod36
                case hod36 => (unfold kO36; intro w hSw; (try dsimp only at hSw); go_simp <;> with_reducible rfl)
                try simp only [Act.put, List.setIfInBounds_toArray, List.set_cons_zero, List.set_cons_succ]
                refine tqY 37 kO37 (some 45) ?vod37 rfl rfl (by kernel_rfl) (fun _ _ _ h => h) ?hod37 (by assumption) ?rod37
                case hod37 => (unfold kO37; intro w hSw; (try dsimp only at hSw); go_simp <;> with_reducible rfl)
                try simp only [Act.put, List.setIfInBounds_toArray, List.set_cons_zero, List.set_cons_succ]
                refine tqY 38 kO38 (some 46) ?vod38 rfl rfl (by kernel_rfl) (fun _ _ _ h => h) ?hod38 (by assumption) ?rod38
                case hod38 => (unfold kO38; intro w hSw; (try dsimp only at hSw); go_simp <;> with_reducible rfl)
                try simp only [Act.put, List.setIfInBounds_toArray, List.set_cons_zero, List.set_cons_succ]
                refine tqY 39 kO39 (some 47) ?vod39 rfl rfl (by kernel_rfl) (fun _ _ _ h => h) ?hod39 (by assumption) ?rod39
                case hod39 => (unfold kO39; intro w hSw; (try dsimp only at hSw); go_simp <;> with_reducible rfl)
                try simp only [Act.put, List.setIfInBounds_toArray, List.set_cons_zero, List.set_cons_succ]
                refine tqY 40 kO40 (some 48) ?vod40 rfl rfl (by kernel_rfl) (fun _ _ _ h => h) ?hod40 (by assumption) ?rod40
                case hod40 => (unfold kO40; intro w hSw; (try dsimp only at hSw); go_simp <;> with_reducible rfl)
                try simp only [Act.put, List.setIfInBounds_toArray, List.set_cons_zero, List.set_cons_succ]
                refine tqY 41 kO41 (some 49) ?vod41 rfl rfl (by kernel_rfl) (fun _ _ _ h => h) ?hod41 (by assumption) ?rod41
                case hod41 => (unfold kO41; intro w hSw; (try dsimp only at hSw); go_simp <;> with_reducible rfl)
                try simp only [Act.put, List.setIfInBounds_toArray, List.set_cons_zero, List.set_cons_succ]
                refine tqY 42 kO42 (some 50) ?vod42 rfl rfl (by kernel_rfl) (fun _ _ _ h => h) ?hod42 (by assumption) ?rod42
                case hod42 => (unfold kO42; intro w hSw; (try dsimp only at hSw); go_simp <;> with_reducible rfl)
                try simp only [Act.put, List.setIfInBounds_toArray, List.set_cons_zero, List.set_cons_succ]
                refine tqY 43 kO43 (some 51) ?vod43 rfl rfl (by kernel_rfl) (fun _ _ _ h => h) ?hod43 (by assumption) ?rod43
                case hod43 => (unfold kO43; intro w hSw; (try dsimp only at hSw); go_simp <;> with_reducible rfl)
                try simp only [Act.put, List.setIfInBounds_toArray, List.set_cons_zero, List.set_cons_succ]
                refine wpAnyH_ready (rs := [44]) (by kernel_rfl) (by simp) ?_
                refine AllReadyH.cons (o := { dst := some 52, op := Op.call { callee := Callee.value (Operand.func 24), args := #[Operand.tmp 39, Operand.tmp 51], argTypes := #[9, 4] }, type := 4, pos := "form.go:64", after := #[{ on := 31, ground := Ground.data }, { on := 43, ground := Ground.data }, { on := 37, ground := Ground.chain }, { on := 27, ground := Ground.guard }], guard := some (27, false) }) rfl (fun K hK => ?_) AllReadyH.nil
                go_simp
                go_at_call 24; refine (formName_no s _).mono ?_; rintro e w9 ⟨he, hw9⟩
                rw [hsz] at he
                subst he
                obtain rfl := hw9.symm
                refine hK.out _ _ hHeld (fun _ => ?_)
                clear hK K
                try simp only [Act.put, List.setIfInBounds_toArray, List.set_cons_zero, List.set_cons_succ]
                refine tqY 45 kO45 (some 53) ?vod45 rfl rfl (by kernel_rfl) (fun _ _ _ h => h) ?hod45 (by assumption) ?rod45
                case hod45 => (unfold kO45; intro w hSw; (try dsimp only at hSw); go_simp <;> with_reducible rfl)
                try simp only [Act.put, List.setIfInBounds_toArray, List.set_cons_zero, List.set_cons_succ]
                refine tqY 46 kO46 (some 54) ?vod46 rfl rfl (by kernel_rfl) (fun _ _ _ h => h) ?hod46 (by assumption) ?rod46
                case hod46 => (unfold kO46; intro w hSw; (try dsimp only at hSw); go_simp <;> with_reducible rfl)
                try simp only [Act.put, List.setIfInBounds_toArray, List.set_cons_zero, List.set_cons_succ]
                refine tqY 47 kO47 (some 55) ?vod47 rfl rfl (by kernel_rfl) (fun _ _ _ h => h) ?hod47 (by assumption) ?rod47
                case hod47 => (unfold kO47; intro w hSw; (try dsimp only at hSw); go_simp <;> with_reducible rfl)
                try simp only [Act.put, List.setIfInBounds_toArray, List.set_cons_zero, List.set_cons_succ]
                refine tqN 48 kO48 (some 56) rfl rfl (by kernel_rfl) (fun _ _ _ h => h) (by assumption) ?rod48
                try simp only [Act.put, List.setIfInBounds_toArray, List.set_cons_zero, List.set_cons_succ]
                refine tqN 49 kO49 (some 57) rfl rfl (by kernel_rfl) (fun _ _ _ h => h) (by assumption) ?rod49
                try simp only [Act.put, List.setIfInBounds_toArray, List.set_cons_zero, List.set_cons_succ]
                refine tqN 50 kO50 (some 58) rfl rfl (by kernel_rfl) (fun _ _ _ h => h) (by assumption) ?rod50
                try simp only [Act.put, List.setIfInBounds_toArray, List.set_cons_zero, List.set_cons_succ]
                refine tqN 51 kO51 (some 59) rfl rfl (by kernel_rfl) (fun _ _ _ h => h) (by assumption) ?rod51
                try simp only [Act.put, List.setIfInBounds_toArray, List.set_cons_zero, List.set_cons_succ]
                refine tqN 52 kO52 (some 60) rfl rfl (by kernel_rfl) (fun _ _ _ h => h) (by assumption) ?rod52
                try simp only [Act.put, List.setIfInBounds_toArray, List.set_cons_zero, List.set_cons_succ]
                refine tqN 53 kO53 (some 61) rfl rfl (by kernel_rfl) (fun _ _ _ h => h) (by assumption) ?rod53
                try simp only [Act.put, List.setIfInBounds_toArray, List.set_cons_zero, List.set_cons_succ]
                refine tqN 54 kO54 (some 62) rfl rfl (by kernel_rfl) (fun _ _ _ h => h) (by assumption) ?rod54
                try simp only [Act.put, List.setIfInBounds_toArray, List.set_cons_zero, List.set_cons_succ]
                refine tqN 55 kO55 (some 63) rfl rfl (by kernel_rfl) (fun _ _ _ h => h) (by assumption) ?rod55
                try simp only [Act.put, List.setIfInBounds_toArray, List.set_cons_zero, List.set_cons_succ]
                refine tqN 56 kO56 (some 64) rfl rfl (by kernel_rfl) (fun _ _ _ h => h) (by assumption) ?rod56
                try simp only [Act.put, List.setIfInBounds_toArray, List.set_cons_zero, List.set_cons_succ]
                refine tqN 57 kO57 (some 65) rfl rfl (by kernel_rfl) (fun _ _ _ h => h) (by assumption) ?rod57
                try simp only [Act.put, List.setIfInBounds_toArray, List.set_cons_zero, List.set_cons_succ]
                refine tqN 58 kO58 (some 66) rfl rfl (by kernel_rfl) (fun _ _ _ h => h) (by assumption) ?rod58
                try simp only [Act.put, List.setIfInBounds_toArray, List.set_cons_zero, List.set_cons_succ]
                refine tqN 59 kO59 (some 67) rfl rfl (by kernel_rfl) (fun _ _ _ h => h) (by assumption) ?rod59
                try simp only [Act.put, List.setIfInBounds_toArray, List.set_cons_zero, List.set_cons_succ]
                refine tqY 60 kO60 (some 68) ?vod60 rfl rfl (by kernel_rfl) (fun _ _ _ h => h) ?hod60 (by assumption) ?rod60
                case hod60 => (unfold kO60; intro w hSw; (try dsimp only at hSw); go_simp <;> with_reducible rfl)
                try simp only [Act.put, List.setIfInBounds_toArray, List.set_cons_zero, List.set_cons_succ]
                refine wpAnyH_done (by kernel_rfl) ?_ _
                obtain ⟨⟨r1, r2⟩, r3⟩ := HEnd.out _ hHeld.1.out (fun hf => absurd (HFa.out hf) (by intro hh; have h9 := hh.2.1; rw [if_neg hno.out] at h9; exact hs0 h9))
                have HR3 : Hid _ := r3
                clear r3
                gi_wp2_with fail
                exact HR3.out
        · have t6 : ((nS : Int) != prt kx) = true := by simpa using hpl
          have HKp : Hid (∀ Wc, Below Wb.heap.size Wb Wc → Aside (Below Wb.heap.size Wb Wc) ∧ Wc.cell? ⟨b, o, none⟩ = some (.int .i64 kx) ∧ Wc.cell? ⟨b, o + 1, none⟩ = some (.int .u64 x) ∧ Wc.cell? ⟨b, o + 2, none⟩ = some (.string s) ∧ Wc.cell? ⟨b, o + 3, none⟩ = some (.slice aS nS cS) ∧ Wc.cell? ⟨1, kx.toNat * 3 + 1, none⟩ = some (.int .i64 (prt kx))) := fun Wc hc => ⟨hc, (hc.cell (p := ⟨b, o, none⟩) (Nat.lt_of_lt_of_le HB.out.1 HB.out.2.size)).trans y0, (hc.cell (p := ⟨b, o + 1, none⟩) (Nat.lt_of_lt_of_le HB.out.1 HB.out.2.size)).trans y1, (hc.cell (p := ⟨b, o + 2, none⟩) (Nat.lt_of_lt_of_le HB.out.1 HB.out.2.size)).trans y2, (hc.cell (p := ⟨b, o + 3, none⟩) (Nat.lt_of_lt_of_le HB.out.1 HB.out.2.size)).trans y3, (hc.cell (p := ⟨1, _, none⟩) HTb.out.2).trans ytb⟩
          have hk0 := HKp.out Wb.drew ⟨rfl, rfl, rfl, Nat.le_refl _, fun _ _ => rfl⟩
          gi_wp2_with fail
          refine region_round (S := (fun Wc => Aside (Below Wb.heap.size Wb Wc) ∧ Wc.cell? ⟨b, o, none⟩ = some (.int .i64 kx) ∧ Wc.cell? ⟨b, o + 1, none⟩ = some (.int .u64 x) ∧ Wc.cell? ⟨b, o + 2, none⟩ = some (.string s) ∧ Wc.cell? ⟨b, o + 3, none⟩ = some (.slice aS nS cS) ∧ Wc.cell? ⟨1, kx.toNat * 3 + 1, none⟩ = some (.int .i64 (prt kx)))) (by kernel_rfl) (by kernel_rfl) (by rintro ⟨_, _, h⟩; exact h) hk0 (fun hHeld => ?_)
          clear hk0
          refine tqY 0 kO0 (some 8) ?voe0 rfl rfl (by kernel_rfl) (fun _ _ _ h => h) ?hoe0 (by assumption) ?roe0
          case hoe0 => (unfold kO0; intro w hSw; (try dsimp only at hSw); go_simp <;> with_reducible rfl)
          try simp only [Act.put, List.setIfInBounds_toArray, List.set_cons_zero, List.set_cons_succ]
          refine tqY 1 kO1 (some 9) ?voe1 rfl rfl (by kernel_rfl) (fun _ _ _ h => h) ?hoe1 (by assumption) ?roe1
          case hoe1 => (unfold kO1; intro w hSw; (try dsimp only at hSw); go_simp <;> with_reducible rfl)
          try simp only [Act.put, List.setIfInBounds_toArray, List.set_cons_zero, List.set_cons_succ]
          refine tqY 2 kO2 (some 10) ?voe2 rfl rfl (by kernel_rfl) (fun _ _ _ h => h) ?hoe2 (by assumption) ?roe2
          case hoe2 => (unfold kO2; intro w hSw; (try dsimp only at hSw); go_simp <;> with_reducible rfl)
          try simp only [Act.put, List.setIfInBounds_toArray, List.set_cons_zero, List.set_cons_succ]
          refine tqY 3 kO3 (some 11) ?voe3 rfl rfl (by kernel_rfl) (fun _ _ _ h => h) ?hoe3 (by assumption) ?roe3
          case hoe3 => (unfold kO3; intro w hSw; (try dsimp only at hSw); go_simp <;> with_reducible rfl)
          try simp only [Act.put, List.setIfInBounds_toArray, List.set_cons_zero, List.set_cons_succ]
          refine tqY 4 kO4 (some 12) ?voe4 rfl rfl (by kernel_rfl) (fun _ _ _ h => h) ?hoe4 (by assumption) ?roe4
          case hoe4 => (unfold kO4; intro w hSw; (try dsimp only at hSw); go_simp <;> with_reducible rfl)
          try simp only [Act.put, List.setIfInBounds_toArray, List.set_cons_zero, List.set_cons_succ]
          refine tqY 5 kO5 (some 13) ?voe5 rfl rfl (by kernel_rfl) (fun _ _ _ h => h) ?hoe5 (by assumption) ?roe5
          case hoe5 => (unfold kO5; intro w hSw; (try dsimp only at hSw); go_simp <;> with_reducible rfl)
          try simp only [Act.put, List.setIfInBounds_toArray, List.set_cons_zero, List.set_cons_succ]
          refine tqY 6 kO6 (some 14) ?voe6 rfl rfl (by kernel_rfl) (fun _ _ _ h => h) ?hoe6 (by assumption) ?roe6
          case hoe6 => (unfold kO6; intro w hSw; (try dsimp only at hSw); go_simp <;> with_reducible rfl)
          try simp only [Act.put, List.setIfInBounds_toArray, List.set_cons_zero, List.set_cons_succ]
          refine tqY 7 kO7 (some 15) ?voe7 rfl rfl (by kernel_rfl) (fun _ _ _ h => h) ?hoe7 (by assumption) ?roe7
          case hoe7 => (unfold kO7; intro w hSw; (try dsimp only at hSw); go_simp <;> with_reducible rfl)
          try simp only [Act.put, List.setIfInBounds_toArray, List.set_cons_zero, List.set_cons_succ]
          refine tqY 8 kO8 (some 16) ?voe8 rfl rfl (by kernel_rfl) (fun _ _ _ h => h) ?hoe8 (by assumption) ?roe8
          case hoe8 => (unfold kO8; intro w hSw; (try dsimp only at hSw); go_simp <;> with_reducible rfl)
          try simp only [Act.put, List.setIfInBounds_toArray, List.set_cons_zero, List.set_cons_succ]
          refine tqY 9 kO9 (some 17) ?voe9 rfl rfl (by kernel_rfl) (fun _ _ _ h => h) ?hoe9 (by assumption) ?roe9
          case hoe9 => (unfold kO9; intro w hSw; (try dsimp only at hSw); go_simp <;> with_reducible rfl)
          try simp only [Act.put, List.setIfInBounds_toArray, List.set_cons_zero, List.set_cons_succ]
          refine tqY 10 kO10 (some 18) ?voe10 rfl rfl (by kernel_rfl) (fun _ _ _ h => h) ?hoe10 (by assumption) ?roe10
          case hoe10 => (unfold kO10; intro w hSw; (try dsimp only at hSw); go_simp <;> with_reducible rfl)
          try simp only [Act.put, List.setIfInBounds_toArray, List.set_cons_zero, List.set_cons_succ]
          refine tqY 11 kO11 (some 19) ?voe11 rfl rfl (by kernel_rfl) (fun _ _ _ h => h) ?hoe11 (by assumption) ?roe11
          case hoe11 => (unfold kO11; intro w hSw; (try dsimp only at hSw); go_simp <;> with_reducible rfl)
          try simp only [Act.put, List.setIfInBounds_toArray, List.set_cons_zero, List.set_cons_succ]
          refine tqY 12 kO12 (some 20) ?voe12 rfl rfl (by kernel_rfl) (fun _ _ _ h => h) ?hoe12 (by assumption) ?roe12
          case hoe12 => (unfold kO12; intro w hSw; (try dsimp only at hSw); go_simp <;> with_reducible rfl)
          try simp only [Act.put, List.setIfInBounds_toArray, List.set_cons_zero, List.set_cons_succ]
          refine tqY 13 kO13 (some 21) ?voe13 rfl rfl (by kernel_rfl) (fun _ _ _ h => h) ?hoe13 (by assumption) ?roe13
          case hoe13 => (unfold kO13; intro w hSw; (try dsimp only at hSw); go_simp <;> with_reducible rfl)
          try simp only [Act.put, List.setIfInBounds_toArray, List.set_cons_zero, List.set_cons_succ]
          refine tqY 14 kO14 (some 22) ?voe14 rfl rfl (by kernel_rfl) (fun _ _ _ h => h) ?hoe14 (by assumption) ?roe14
          case hoe14 => (unfold kO14; intro w hSw; (try dsimp only at hSw); go_simp <;> with_reducible rfl)
          try simp only [Act.put, List.setIfInBounds_toArray, List.set_cons_zero, List.set_cons_succ]
          refine tqY 15 kO15 (some 23) ?voe15 rfl rfl (by kernel_rfl) (fun _ _ _ h => h) ?hoe15 (by assumption) ?roe15
          case hoe15 => (unfold kO15; intro w hSw; (try dsimp only at hSw); go_simp <;> with_reducible rfl)
          try simp only [Act.put, List.setIfInBounds_toArray, List.set_cons_zero, List.set_cons_succ]
          refine tqY 16 kO16 (some 24) ?voe16 rfl rfl (by kernel_rfl) (fun _ _ _ h => h) ?hoe16 (by assumption) ?roe16
          case hoe16 => (unfold kO16; intro w hSw; (try dsimp only at hSw); go_simp <;> with_reducible rfl)
          try simp only [Act.put, List.setIfInBounds_toArray, List.set_cons_zero, List.set_cons_succ]
          refine tqY 17 kO17 (some 25) ?voe17 rfl rfl (by kernel_rfl) (fun _ _ _ h => h) ?hoe17 (by assumption) ?roe17
          case hoe17 => (unfold kO17; intro w hSw; (try dsimp only at hSw); go_simp <;> with_reducible rfl)
          try simp only [Act.put, List.setIfInBounds_toArray, List.set_cons_zero, List.set_cons_succ]
          refine tqY 18 kO18 (some 26) ?voe18 rfl rfl (by kernel_rfl) (fun _ _ _ h => h) ?hoe18 (by assumption) ?roe18
          case hoe18 => (unfold kO18; intro w hSw; (try dsimp only at hSw); go_simp <;> with_reducible rfl)
          try simp only [Act.put, List.setIfInBounds_toArray, List.set_cons_zero, List.set_cons_succ]
          refine tqY 19 kO19 (some 27) ?voe19 rfl rfl (by kernel_rfl) (fun _ _ _ h => h) ?hoe19 (by assumption) ?roe19
          case hoe19 => (unfold kO19; intro w hSw; (try dsimp only at hSw); go_simp <;> with_reducible rfl)
          try simp only [Act.put, List.setIfInBounds_toArray, List.set_cons_zero, List.set_cons_succ]
          refine tqY 20 kO20 (some 28) ?voe20 rfl rfl (by kernel_rfl) (fun _ _ _ h => h) ?hoe20 (by assumption) ?roe20
          case hoe20 => (unfold kO20; intro w hSw; (try dsimp only at hSw); go_simp <;> with_reducible rfl)
          try simp only [Act.put, List.setIfInBounds_toArray, List.set_cons_zero, List.set_cons_succ]
          refine tqY 21 kO21 (some 29) ?voe21 rfl rfl (by kernel_rfl) (fun _ _ _ h => h) ?hoe21 (by assumption) ?roe21
          case hoe21 => (unfold kO21; intro w hSw; (try dsimp only at hSw); go_simp <;> with_reducible rfl)
          try simp only [Act.put, List.setIfInBounds_toArray, List.set_cons_zero, List.set_cons_succ]
          refine tqY 22 kO22 (some 30) ?voe22 rfl rfl (by kernel_rfl) (fun _ _ _ h => h) ?hoe22 (by assumption) ?roe22
          case hoe22 => (unfold kO22; intro w hSw; (try dsimp only at hSw); go_simp <;> with_reducible rfl)
          try simp only [Act.put, List.setIfInBounds_toArray, List.set_cons_zero, List.set_cons_succ]
          refine tqY 23 kO23 (some 31) ?voe23 rfl rfl (by kernel_rfl) (fun _ _ _ h => h) ?hoe23 (by assumption) ?roe23
          case hoe23 => (unfold kO23; intro w hSw; (try dsimp only at hSw); go_simp <;> with_reducible rfl)
          try simp only [Act.put, List.setIfInBounds_toArray, List.set_cons_zero, List.set_cons_succ]
          refine tqY 24 kO24 (some 32) ?voe24 rfl rfl (by kernel_rfl) (fun _ _ _ h => h) ?hoe24 (by assumption) ?roe24
          case hoe24 => (unfold kO24; intro w hSw; (try dsimp only at hSw); go_simp <;> with_reducible rfl)
          try simp only [Act.put, List.setIfInBounds_toArray, List.set_cons_zero, List.set_cons_succ]
          refine tqY 25 kO25 (some 33) ?voe25 rfl rfl (by kernel_rfl) (fun _ _ _ h => h) ?hoe25 (by assumption) ?roe25
          case hoe25 => (unfold kO25; intro w hSw; (try dsimp only at hSw); go_simp <;> with_reducible rfl)
          try simp only [Act.put, List.setIfInBounds_toArray, List.set_cons_zero, List.set_cons_succ]
          refine tqY 26 kO26 (some 34) ?voe26 rfl rfl (by kernel_rfl) (fun _ _ _ h => h) ?hoe26 (by assumption) ?roe26
          case hoe26 => (unfold kO26; intro w hSw; (try dsimp only at hSw); go_simp <;> with_reducible rfl)
          try simp only [Act.put, List.setIfInBounds_toArray, List.set_cons_zero, List.set_cons_succ]
          refine tqY 27 kO27 (some 35) ?voe27 rfl rfl (by kernel_rfl) (fun _ _ _ h => h) ?hoe27 (by assumption) ?roe27
          case hoe27 => (unfold kO27; intro w hSw; (try dsimp only at hSw); go_simp <;> with_reducible rfl)
          try simp only [Act.put, List.setIfInBounds_toArray, List.set_cons_zero, List.set_cons_succ]
          refine tqN 28 kO28 (some 36) rfl rfl (by kernel_rfl) (fun _ _ _ h => h) (by assumption) ?roe28
          try simp only [Act.put, List.setIfInBounds_toArray, List.set_cons_zero, List.set_cons_succ]
          refine tqN 29 kO29 (some 37) rfl rfl (by kernel_rfl) (fun _ _ _ h => h) (by assumption) ?roe29
          try simp only [Act.put, List.setIfInBounds_toArray, List.set_cons_zero, List.set_cons_succ]
          refine tqN 30 kO30 (some 38) rfl rfl (by kernel_rfl) (fun _ _ _ h => h) (by assumption) ?roe30
          try simp only [Act.put, List.setIfInBounds_toArray, List.set_cons_zero, List.set_cons_succ]
          refine tqN 31 kO31 (some 39) rfl rfl (by kernel_rfl) (fun _ _ _ h => h) (by assumption) ?roe31
          try simp only [Act.put, List.setIfInBounds_toArray, List.set_cons_zero, List.set_cons_succ]
          refine tqN 32 kO32 (some 40) rfl rfl (by kernel_rfl) (fun _ _ _ h => h) (by assumption) ?roe32
          try simp only [Act.put, List.setIfInBounds_toArray, List.set_cons_zero, List.set_cons_succ]
          refine tqN 33 kO33 (some 41) rfl rfl (by kernel_rfl) (fun _ _ _ h => h) (by assumption) ?roe33
          try simp only [Act.put, List.setIfInBounds_toArray, List.set_cons_zero, List.set_cons_succ]
          refine tqN 34 kO34 (some 42) rfl rfl (by kernel_rfl) (fun _ _ _ h => h) (by assumption) ?roe34
          try simp only [Act.put, List.setIfInBounds_toArray, List.set_cons_zero, List.set_cons_succ]
          refine tqN 35 kO35 (some 43) rfl rfl (by kernel_rfl) (fun _ _ _ h => h) (by assumption) ?roe35
          try simp only [Act.put, List.setIfInBounds_toArray, List.set_cons_zero, List.set_cons_succ]
          refine tqN 36 kO36 (some 44) rfl rfl (by kernel_rfl) (fun _ _ _ h => h) (by assumption) ?roe36
          try simp only [Act.put, List.setIfInBounds_toArray, List.set_cons_zero, List.set_cons_succ]
          refine tqN 37 kO37 (some 45) rfl rfl (by kernel_rfl) (fun _ _ _ h => h) (by assumption) ?roe37
          try simp only [Act.put, List.setIfInBounds_toArray, List.set_cons_zero, List.set_cons_succ]
          refine tqN 38 kO38 (some 46) rfl rfl (by kernel_rfl) (fun _ _ _ h => h) (by assumption) ?roe38
          try simp only [Act.put, List.setIfInBounds_toArray, List.set_cons_zero, List.set_cons_succ]
          refine tqN 39 kO39 (some 47) rfl rfl (by kernel_rfl) (fun _ _ _ h => h) (by assumption) ?roe39
          try simp only [Act.put, List.setIfInBounds_toArray, List.set_cons_zero, List.set_cons_succ]
          refine tqN 40 kO40 (some 48) rfl rfl (by kernel_rfl) (fun _ _ _ h => h) (by assumption) ?roe40
          try simp only [Act.put, List.setIfInBounds_toArray, List.set_cons_zero, List.set_cons_succ]
          refine tqN 41 kO41 (some 49) rfl rfl (by kernel_rfl) (fun _ _ _ h => h) (by assumption) ?roe41
          try simp only [Act.put, List.setIfInBounds_toArray, List.set_cons_zero, List.set_cons_succ]
          refine tqN 42 kO42 (some 50) rfl rfl (by kernel_rfl) (fun _ _ _ h => h) (by assumption) ?roe42
          try simp only [Act.put, List.setIfInBounds_toArray, List.set_cons_zero, List.set_cons_succ]
          refine tqN 43 kO43 (some 51) rfl rfl (by kernel_rfl) (fun _ _ _ h => h) (by assumption) ?roe43
          try simp only [Act.put, List.setIfInBounds_toArray, List.set_cons_zero, List.set_cons_succ]
          refine tqN 44 kO44 (some 52) rfl rfl (by kernel_rfl) (fun _ _ _ h => h) (by assumption) ?roe44
          try simp only [Act.put, List.setIfInBounds_toArray, List.set_cons_zero, List.set_cons_succ]
          refine tqN 45 kO45 (some 53) rfl rfl (by kernel_rfl) (fun _ _ _ h => h) (by assumption) ?roe45
          try simp only [Act.put, List.setIfInBounds_toArray, List.set_cons_zero, List.set_cons_succ]
          refine tqY 46 kO46 (some 54) ?voe46 rfl rfl (by kernel_rfl) (fun _ _ _ h => h) ?hoe46 (by assumption) ?roe46
          case hoe46 => (unfold kO46; intro w hSw; (try dsimp only at hSw); go_simp <;> with_reducible rfl)
          try simp only [Act.put, List.setIfInBounds_toArray, List.set_cons_zero, List.set_cons_succ]
          refine tqY 47 kO47 (some 55) ?voe47 rfl rfl (by kernel_rfl) (fun _ _ _ h => h) ?hoe47 (by assumption) ?roe47
          case hoe47 => (unfold kO47; intro w hSw; (try dsimp only at hSw); go_simp <;> with_reducible rfl)
          try simp only [Act.put, List.setIfInBounds_toArray, List.set_cons_zero, List.set_cons_succ]
          refine tqN 48 kO48 (some 56) rfl rfl (by kernel_rfl) (fun _ _ _ h => h) (by assumption) ?roe48
          try simp only [Act.put, List.setIfInBounds_toArray, List.set_cons_zero, List.set_cons_succ]
          refine tqN 49 kO49 (some 57) rfl rfl (by kernel_rfl) (fun _ _ _ h => h) (by assumption) ?roe49
          try simp only [Act.put, List.setIfInBounds_toArray, List.set_cons_zero, List.set_cons_succ]
          refine tqN 50 kO50 (some 58) rfl rfl (by kernel_rfl) (fun _ _ _ h => h) (by assumption) ?roe50
          try simp only [Act.put, List.setIfInBounds_toArray, List.set_cons_zero, List.set_cons_succ]
          refine tqN 51 kO51 (some 59) rfl rfl (by kernel_rfl) (fun _ _ _ h => h) (by assumption) ?roe51
          try simp only [Act.put, List.setIfInBounds_toArray, List.set_cons_zero, List.set_cons_succ]
          refine tqN 52 kO52 (some 60) rfl rfl (by kernel_rfl) (fun _ _ _ h => h) (by assumption) ?roe52
          try simp only [Act.put, List.setIfInBounds_toArray, List.set_cons_zero, List.set_cons_succ]
          refine tqN 53 kO53 (some 61) rfl rfl (by kernel_rfl) (fun _ _ _ h => h) (by assumption) ?roe53
          try simp only [Act.put, List.setIfInBounds_toArray, List.set_cons_zero, List.set_cons_succ]
          refine tqN 54 kO54 (some 62) rfl rfl (by kernel_rfl) (fun _ _ _ h => h) (by assumption) ?roe54
          try simp only [Act.put, List.setIfInBounds_toArray, List.set_cons_zero, List.set_cons_succ]
          refine tqN 55 kO55 (some 63) rfl rfl (by kernel_rfl) (fun _ _ _ h => h) (by assumption) ?roe55
          try simp only [Act.put, List.setIfInBounds_toArray, List.set_cons_zero, List.set_cons_succ]
          refine tqN 56 kO56 (some 64) rfl rfl (by kernel_rfl) (fun _ _ _ h => h) (by assumption) ?roe56
          try simp only [Act.put, List.setIfInBounds_toArray, List.set_cons_zero, List.set_cons_succ]
          refine tqN 57 kO57 (some 65) rfl rfl (by kernel_rfl) (fun _ _ _ h => h) (by assumption) ?roe57
          try simp only [Act.put, List.setIfInBounds_toArray, List.set_cons_zero, List.set_cons_succ]
          refine tqN 58 kO58 (some 66) rfl rfl (by kernel_rfl) (fun _ _ _ h => h) (by assumption) ?roe58
          try simp only [Act.put, List.setIfInBounds_toArray, List.set_cons_zero, List.set_cons_succ]
          refine tqN 59 kO59 (some 67) rfl rfl (by kernel_rfl) (fun _ _ _ h => h) (by assumption) ?roe59
          try simp only [Act.put, List.setIfInBounds_toArray, List.set_cons_zero, List.set_cons_succ]
          refine tqY 60 kO60 (some 68) ?voe60 rfl rfl (by kernel_rfl) (fun _ _ _ h => h) ?hoe60 (by assumption) ?roe60
          case hoe60 => (unfold kO60; intro w hSw; (try dsimp only at hSw); go_simp <;> with_reducible rfl)
          try simp only [Act.put, List.setIfInBounds_toArray, List.set_cons_zero, List.set_cons_succ]
          refine wpAnyH_done (by kernel_rfl) ?_ _
          obtain ⟨⟨r1, r2⟩, r3⟩ := HEnd.out _ hHeld.1.out (fun hf => absurd (HFa.out hf) (by intro hh; exact hpl hh.1))
          have HR3 : Hid _ := r3
          clear r3
          gi_wp2_with fail
          exact HR3.out
  case done =>
    intro D W' hD hF hB hK
    have r1 : W'.heap[W.heap.size + 1]? = some (.cells #[.bool false] 4 (0, 0)) := (hB.block _ (by omega)).trans HW5.out.2.2.1
    have f1 : W'.cell? ⟨W.heap.size + 1, 0, none⟩ = some (.bool false) := lc r1 0
    have z1 : W'.frozen? ⟨W.heap.size + 1, 0, none⟩ = false := by simp [World.frozen?, r1]
    have nD : D ≠ W.heap.size + 1 := by omega
    have hk2 : (W'.setCell ⟨W.heap.size + 1, 0, none⟩ (.bool true)).heap[D]? = some (.deferred (some [])) := (heap_setCell_other _ _ _ _ nD).trans hK
    have r2 : ((W'.setCell ⟨W.heap.size + 1, 0, none⟩ (.bool true)).putObj D (.deferred none)).heap[W.heap.size + 1]? = some (.cells #[.bool true] 4 (0, 0)) := (World.putObj_heap_other (Ne.symm nD)).trans (heap_setCell_same _ _ 0 _ _ _ r1)
    have HE : Hid (Below W.heap.size W ((W'.setCell ⟨W.heap.size + 1, 0, none⟩ (.bool true)).putObj D (.deferred none))) := put_below ((bnext HW5.out.1 hB).setCell (by show W.heap.size ≤ W.heap.size + 1; omega) _) (by omega) _
    gi_wp2_with fail
    refine ⟨by simp, .inl ⟨_, _, rfl, run_takeDeferred hk2, ?_⟩⟩
    have c9 := lc r2 0
    exact ⟨_, res_c1 (p := 2) rfl _ _ ⟨W.heap.size + 1, 0, none⟩ (.bool true) rfl (by simp [loadVar, go_sem, c9]), BP.t hF HE.out⟩
  case stop =>
    rintro D W' hD ⟨hB, r1, hn⟩ hK
    have nD : D ≠ W.heap.size + 1 := by omega
    have r2 : (W'.putObj D (.deferred none)).heap[W.heap.size + 1]? = some (.cells #[.bool false] 4 (0, 0)) := (World.putObj_heap_other (Ne.symm nD)).trans r1
    have HE : Hid (Below W.heap.size W (W'.putObj D (.deferred none))) := put_below hB (by omega) _
    gi_wp2_with fail
    refine ⟨by simp, .inl ⟨_, _, rfl, run_takeDeferred hK, ?_⟩⟩
    have c9 := lc r2 0
    exact ⟨_, res_c1 (p := 2) rfl _ _ ⟨W.heap.size + 1, 0, none⟩ (.bool false) rfl (by simp [loadVar, go_sem, c9]), BP.f hn HE.out⟩
end Go.Proofs.YtcmknjocmpdicaaDoor
