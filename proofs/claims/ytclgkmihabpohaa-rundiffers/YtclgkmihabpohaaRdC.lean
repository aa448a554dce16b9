import Derived.Test.YtclgkmihabpohaaRdB
namespace Go.Proofs.Ytclgkmihabpohaa
open Go.ChangeShapes Go.WideShapes Go.ChangeAt Go.RowKit Go.Lib

/-- a counter: what it has counted, whether the runs have parted -/
def CNT (w0 w : World) (C : Nat) (a : Option Addr) (n c same : Nat) (apart : Bool) : Prop := Below C w0 w ∧ ∃ o0 o1 o2 : Int, w.heap[C]? = some (.cells #[.slice a n c, .int .i64 (same : Int), .bool apart, .int .i64 o0, .int .u64 o1, .int .u64 o2] 32 (0, 0))
theorem cell_of {w : World} {G : Nat} {cs : Array Value} {e : TypeId} (h : w.heap[G]? = some (.cells cs e (0, 0))) (j : Nat) : w.cell? ⟨G, j, none⟩ = cs[j]? := by
  simp [World.cell?, h]
theorem fz_of {w : World} {G : Nat} {cs : Array Value} {e : TypeId} (h : w.heap[G]? = some (.cells cs e (0, 0))) (j : Nat) : w.frozen? ⟨G, j, none⟩ = false := by simp [World.frozen?, h]
theorem blk_next {w w' : World} {G : Nat} {o : Obj} (h : w.heap[G]? = some o) (hb : Below w.heap.size w w') : w'.heap[G]? = some o := (hb.block G (Array.getElem?_eq_some_iff.1 h).1).trans h
theorem CNT.next {w0 w w' : World} {C : Nat} {a : Option Addr} {n c same : Nat} {apart : Bool} (h : CNT w0 w C a n c same apart) (hb : Below w.heap.size w w') : CNT w0 w' C a n c same apart := by
  obtain ⟨h1, o0, o1, o2, h2⟩ := h
  have hlt := (Array.getElem?_eq_some_iff.1 h2).1
  exact ⟨h1.trans (hb.mono (by omega)), o0, o1, o2, blk_next h2 hb⟩
theorem CNT.more {w0 w : World} {C : Nat} {a : Option Addr} {n c same : Nat} (h : CNT w0 w C a n c same false) : CNT w0 (w.setCell ⟨C, 1, none⟩ (.int .i64 ((same : Int) + 1))) C a n c (same + 1) false := by
  obtain ⟨h1, o0, o1, o2, h2⟩ := h
  exact ⟨h1.setCell (p := ⟨C, 1, none⟩) (Nat.le_refl _) _, o0, o1, o2, (heap_setCell_same w C 1 _ _ _ h2).trans (by simp)⟩
theorem CNT.part {w0 w : World} {C : Nat} {a : Option Addr} {n c same : Nat} (h : CNT w0 w C a n c same false) (x0 x1 x2 : Int) : CNT w0 ((((w.setCell ⟨C, 2, none⟩ (.bool true)).setCell ⟨C, 3, none⟩ (.int .i64 x0)).setCell ⟨C, 4, none⟩ (.int .u64 x1)).setCell ⟨C, 5, none⟩ (.int .u64 x2)) C a n c same true := by
  obtain ⟨h1, o0, o1, o2, h2⟩ := h
  have h3 := heap_setCell_same w C 2 _ _ (.bool true) h2
  have h4 := heap_setCell_same _ C 3 _ _ (.int .i64 x0) h3
  have h5 := heap_setCell_same _ C 4 _ _ (.int .u64 x1) h4
  have h6 := heap_setCell_same _ C 5 _ _ (.int .u64 x2) h5
  exact ⟨(((h1.setCell (p := ⟨C, 2, none⟩) (Nat.le_refl _) _).setCell (p := ⟨C, 3, none⟩) (Nat.le_refl _) _).setCell (p := ⟨C, 4, none⟩) (Nat.le_refl _) _).setCell (p := ⟨C, 5, none⟩) (Nat.le_refl _) _, x0, x1, x2, h6.trans (by simp)⟩
set_option maxHeartbeats 4000000 in
theorem see_apart (w0 w : World) (C : Nat) (a : Option Addr) (n c same : Nat) (x : S3) (h : CNT w0 w C a n c same true) :
    Calls Try.prog 6 #[.pointer (some ⟨C, 0, none⟩), evV x] w fun e w' => (∃ v, e = .returned v) ∧ CNT w0 w' C a n c same true := by
  have H2 : Hid (∀ o, CNT w0 (w.alloc o) C a n c same true) := fun o => h.next (bel1 _ _)
  obtain ⟨x0, x1, x2⟩ := x
  obtain ⟨_, o0, o1, o2, hC⟩ := H2.out (.cells #[.int .i64 x0, .int .u64 x1, .int .u64 x2] 30)
  have c2 : (w.alloc (.cells #[.int .i64 x0, .int .u64 x1, .int .u64 x2] 30)).cell? ⟨C, 2, none⟩ = some (.bool true) := cell_of hC 2
  clear hC h
  go_enter Try.func6, Try.ntmps6
  go_wp2_with fail
  first | exact ⟨⟨_, rfl⟩, H2.out _⟩ | (go_ret; exact ⟨⟨_, rfl⟩, H2.out _⟩) | (go_end0; exact ⟨⟨_, rfl⟩, H2.out _⟩)
set_option maxHeartbeats 4000000 in
theorem see_on (w0 w : World) (C : Nat) (a : Option Addr) (t : List S3) (c same : Nat) (x : S3) (h : CNT w0 w C a t.length c same false) (hs : same ≤ 1000000000000000) (hC : C = w0.heap.size) (ht : EVS w0 a t) (r : Bool) (hr : decide (same < t.length ∧ t.getD same z3 = x) = r) :
    Calls Try.prog 6 #[.pointer (some ⟨C, 0, none⟩), evV x] w fun e w' => (∃ v, e = .returned v) ∧ CNT w0 w' C a t.length c (if r then same + 1 else same) (!r) := by
  obtain ⟨o, ho⟩ : ∃ o, o = Obj.cells #[.int .i64 x.1, .int .u64 x.2.1, .int .u64 x.2.2] 30 (0, 0) := ⟨_, rfl⟩
  have hnx : CNT w0 (w.alloc o) C a t.length c same false := h.next (bel1 _ _)
  have hlt : C < w.heap.size := by obtain ⟨_, _, _, _, h2⟩ := h; exact (Array.getElem?_eq_some_iff.1 h2).1
  have hbx : (w.alloc o).heap[w.heap.size]? = some o := heap_alloc_new _ _
  have HC : Hid (∀ W, Below (w.alloc o).heap.size (w.alloc o) W → Calls Try.prog 8 #[.pointer (some ⟨C, 0, none⟩), .int .i64 same, evV x] W fun e w' => e = .returned (.bool r) ∧ Below W.heap.size W w') := fun W hW => by
    obtain ⟨h1, o0, o1, o2, h2⟩ := hnx.next hW
    exact holds_any W C a t c same x (cell_of h2 0) (ht.below (hC ▸ h1)) r hr
  have HN : Hid (∀ W, Below (w.alloc o).heap.size (w.alloc o) W → CNT w0 W C a t.length c same false ∧ W.heap[w.heap.size]? = some o) := fun W hW => ⟨hnx.next hW, blk_next hbx hW⟩
  clear hr ht hC h hnx hbx
  generalize t.length = n at *
  subst ho
  obtain ⟨x0, x1, x2⟩ := x
  dsimp only at *
  obtain ⟨⟨_, o0, o1, o2, hC0⟩, hB0⟩ := HN.out _ (Below.refl _ _)
  have e1 : (w.alloc (.cells #[.int .i64 x0, .int .u64 x1, .int .u64 x2] 30)).cell? ⟨C, 1, none⟩ = some (.int .i64 (same : Int)) := cell_of hC0 1
  have e2 : (w.alloc (.cells #[.int .i64 x0, .int .u64 x1, .int .u64 x2] 30)).cell? ⟨C, 2, none⟩ = some (.bool false) := cell_of hC0 2
  clear hC0 hB0
  have hw1 : IntKind.i64.wrap ((same : Int) + 1) = ((same + 1 : Nat) : Int) := by rw [IntKind.wrap_i64]; omega
  go_enter Try.func6, Try.ntmps6
  go_wp2_with fail
  go_region_with (go_at_call 8; refine (HC.out _ (by exact (Below.refl _ _).drew)).mono ?_; rintro e w' ⟨rfl, hb⟩)
  all_goals
    (have HW : Hid (CNT w0 w' C a n c same false ∧ w'.heap[w.heap.size]? = some (.cells #[.int .i64 x0, .int .u64 x1, .int .u64 x2] 30 (0, 0))) := HN.out w' (nx ((Below.refl _ _).drew) hb)
     clear hb e1 e2 HC HN
     obtain ⟨⟨_, p0, p1, p2, hC0⟩, hB0⟩ := HW.out
     have e1 : w'.cell? ⟨C, 1, none⟩ = some (.int .i64 (same : Int)) := cell_of hC0 1
     have e2 : w'.cell? ⟨C, 2, none⟩ = some (.bool false) := cell_of hC0 2
     have e3 : w'.cell? ⟨C, 3, none⟩ = some (.int .i64 p0) := cell_of hC0 3
     have e4 : w'.cell? ⟨C, 4, none⟩ = some (.int .u64 p1) := cell_of hC0 4
     have e5 : w'.cell? ⟨C, 5, none⟩ = some (.int .u64 p2) := cell_of hC0 5
     have f1 := fz_of hC0 1
     have f2 := fz_of hC0 2
     have f3 := fz_of hC0 3
     have f4 := fz_of hC0 4
     have f5 := fz_of hC0 5
     have b0 : w'.cell? ⟨w.heap.size, 0, none⟩ = some (.int .i64 x0) := cell_of hB0 0
     have b1 : w'.cell? ⟨w.heap.size, 1, none⟩ = some (.int .u64 x1) := cell_of hB0 1
     have b2 : w'.cell? ⟨w.heap.size, 2, none⟩ = some (.int .u64 x2) := cell_of hB0 2
     clear hC0 hB0
     have hne : ¬ w.heap.size = C := by omega
     have hne2 : ¬ C = w.heap.size := by omega
     generalize w.heap.size = Bx at *
     cases r with
     | true =>
       have hR : Hid (CNT w0 (w'.setCell ⟨C, 1, none⟩ (.int .i64 ((same : Int) + 1))) C a n c (same + 1) false) := HW.out.1.more
       go_wp2_with fail
       first | exact ⟨⟨_, rfl⟩, hR.out⟩ | (go_end0; exact ⟨⟨_, rfl⟩, hR.out⟩)
     | false =>
       have hR := HW.out.1.part x0 x1 x2
       replace hR : Hid (CNT w0 ((((w'.setCell ⟨C, 2, none⟩ (.bool true)).setCell ⟨C, 3, none⟩ (.int .i64 x0)).setCell ⟨C, 4, none⟩ (.int .u64 x1)).setCell ⟨C, 5, none⟩ (.int .u64 x2)) C a n c same true) := hR
       go_wp2_with fail
       go_region
       all_goals go_wp2_with fail
       all_goals first | exact ⟨⟨_, rfl⟩, hR.out.next ((Below.refl _ _).drew)⟩ | (go_end0; exact ⟨⟨_, rfl⟩, hR.out.next ((Below.refl _ _).drew)⟩))
end Go.Proofs.Ytclgkmihabpohaa
