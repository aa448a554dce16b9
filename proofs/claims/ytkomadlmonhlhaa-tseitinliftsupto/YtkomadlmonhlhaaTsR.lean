import Derived.Test.YtkomadlmonhlhaaTsN
namespace Go.Proofs.Ytkomadlmonhlhaa
open Go.ChangeShapes Go.WideShapes Go.ChangeAt Go.RowKit Go.Lib Go.Ag Go.WideMaps Go.Maps Go.ChangeMaps Go.Cn

theorem arr_new (w : World) (cs : Array Value) (t : TypeId) : ∀ j u, cs.toList[j]? = some u → (w.alloc (.cells cs t)).cell? ((⟨w.heap.size, 0, none⟩ : Addr).add j) = some u := by
  intro j u h
  rw [Addr.add_lit, Nat.zero_add, ag_cell (heap_alloc_new w (.cells cs t)) j]
  rw [← h]
  simp
theorem nodK_ext {ns t : Nds} {n : Nat} (hn : n ≤ ns.length) : nodK (ns ++ t) n = nodK ns n := by
  unfold nodK
  by_cases e : n = 0
  · rw [if_pos e, if_pos e]
  · rw [if_neg e, if_neg e]
    have hlt : n - 1 < ns.length := by omega
    have h1 : (ns ++ t).getD (n - 1) none = ns.getD (n - 1) none := by rw [List.getD_eq_getElem?_getD, List.getElem?_append_left hlt, List.getD_eq_getElem?_getD]
    have h2 : cntG (ns ++ t) (n - 1) = cntG ns (n - 1) := by unfold cntG; rw [List.take_append_of_le_length (by omega)]
    rw [h1, h2]
theorem nodK_last (ns : Nds) (x : Option (Nat × Nat)) : nodK (ns ++ [x]) (ns.length + 1) = match x with
  | none => (1, (inN ns, 0))
  | some g => (2, g) := by
  unfold nodK
  rw [if_neg (by omega), Nat.add_sub_cancel, List.getD_eq_getElem?_getD, List.getElem?_append_right (Nat.le_refl _), Nat.sub_self]
  cases x with
  | none =>
    show (1, (ns.length - cntG (ns ++ [none]) ns.length, 0)) = (1, (inN ns, 0))
    unfold cntG inN
    rw [List.take_left' rfl]
  | some g => rfl
/-- the document's nodes -/
def nodC (k : Nat × (Nat × Nat)) : List Value := [.int .i64 (k.1 : Int), .int .u32 (k.2.1 : Int), .int .u32 (k.2.2 : Int)]
def refC (ns : Nds) : Nat → List Value
  | 0 => []
  | k + 1 => refC ns k ++ nodC (nodK ns k)
theorem refC_len (ns : Nds) : ∀ k, (refC ns k).length = k * 3
  | 0 => rfl
  | k + 1 => by rw [refC, List.length_append, refC_len ns k]; show k * 3 + 3 = _; omega
theorem refC_ext (ns t : Nds) : ∀ k, k ≤ ns.length + 1 → refC (ns ++ t) k = refC ns k
  | 0, _ => rfl
  | k + 1, h => by rw [refC, refC, refC_ext ns t k (by omega), nodK_ext (by omega)]
theorem refC_snoc (ns : Nds) (x : Option (Nat × Nat)) : refC (ns ++ [x]) ((ns ++ [x]).length + 1) = refC ns (ns.length + 1) ++ nodC (nodK (ns ++ [x]) (ns.length + 1)) := by
  rw [List.length_append]
  show refC (ns ++ [x]) (ns.length + 1 + 1) = _
  rw [refC, refC_ext ns [x] (ns.length + 1) (Nat.le_refl _)]
theorem refC_at (ns : Nds) : ∀ (k i j : Nat), i < k → j < 3 → (refC ns k)[i * 3 + j]? = (nodC (nodK ns i))[j]?
  | 0, i, j, h, _ => by omega
  | k + 1, i, j, h, hj => by
    rw [refC]
    by_cases e : i = k
    · subst e
      rw [List.getElem?_append_right (by rw [refC_len]; omega), refC_len]
      congr 1
      omega
    · rw [List.getElem?_append_left (by rw [refC_len]; omega)]
      exact refC_at ns k i j (by omega) hj
/-- the document's graph in memory -/
structure RG (w : World) (B R : Nat) (ns : Nds) (vL : Value) : Prop where
  blk : w.heap[R]? = some (.cells #[vL, .int .i64 (inN ns : Int)] 46 (0, 0))
  row : w.ownsRow B 101 3 vL (ns.length + 1) (refC ns (ns.length + 1))
  low : B ≤ R
structure RK (w : World) (R : Nat) (vL : Value) (w' : World) (vL' : Value) : Prop where
  os : w'.os = w.os
  tape : w'.tape = w.tape
  output : w'.output = w.output
  size : w.heap.size ≤ w'.heap.size
  kp : ∀ j, j < w.heap.size → j ≠ R → vL.ownBlock ≠ some j → w'.heap[j]? = w.heap[j]?
  fr : ∀ j, vL'.ownBlock = some j → vL.ownBlock = some j ∨ w.heap.size ≤ j
theorem RK.refl (w : World) (R : Nat) (vL : Value) : RK w R vL w vL := ⟨rfl, rfl, rfl, Nat.le_refl _, fun _ _ _ _ => rfl, fun _ h => Or.inl h⟩
theorem RG.keep {w w' : World} {B R : Nat} {ns : Nds} {vL : Value} (h : RG w B R ns vL) (hk : ∀ j, j = R ∨ vL.ownBlock = some j → w'.heap[j]? = w.heap[j]?) : RG w' B R ns vL :=
  ⟨(hk R (Or.inl rfl)).trans h.blk, ag_same h.row (fun j hj => hk j (Or.inr hj)), h.low⟩
theorem RG.lt {w : World} {B R : Nat} {ns : Nds} {vL : Value} (h : RG w B R ns vL) : ∀ j, j = R ∨ vL.ownBlock = some j → j < w.heap.size := fun j hj => by
  rcases hj with e | e
  · rw [e]; exact (Array.getElem?_eq_some_iff.1 h.blk).1
  · exact (h.row.lt j e).2
theorem RG.over {w w' : World} {B R : Nat} {ns : Nds} {vL : Value} (h : RG w B R ns vL) (hb : Below w.heap.size w w') : RG w' B R ns vL := h.keep (fun j hj => hb.block j (h.lt j hj))
/-- a node more -/
theorem RG.put {w w5 w6 : World} {B R : Nat} {ns : Nds} {vL : Value} (h : RG w B R ns vL) (x : Option (Nat × Nat)) {g cap : Nat} {ob : Obj}
    (hown : w5.ownsRow B 101 3 (.slice (some ⟨g, 0, none⟩) (ns.length + 1 + 1) cap) (ns.length + 1 + 1) (refC ns (ns.length + 1) ++ nodC (nodK (ns ++ [x]) (ns.length + 1))))
    (hg : (w.alloc ob).grownBy w5 vL.ownBlock) (hat : vL.ownBlock = some g ∨ g = w.heap.size + 1)
    (h6 : w6.heap[R]? = some (.cells #[.slice (some ⟨g, 0, none⟩) (ns.length + 1 + 1) cap, .int .i64 (inN (ns ++ [x]) : Int)] 46 (0, 0)))
    (ho : ∀ j, j ≠ R → w6.heap[j]? = w5.heap[j]?) (hs : w6.os = w5.os ∧ w6.tape = w5.tape ∧ w6.output = w5.output ∧ w6.heap.size = w5.heap.size) :
    RG w6 B R (ns ++ [x]) (.slice (some ⟨g, 0, none⟩) (ns.length + 1 + 1) cap) ∧ RK w R vL w6 (.slice (some ⟨g, 0, none⟩) (ns.length + 1 + 1) cap) := by
  have hR : R < w.heap.size := h.lt R (Or.inl rfl)
  have hz := hg.size
  have hbl : w5.heap[R]? = some (.cells #[vL, .int .i64 (inN ns : Int)] 46 (0, 0)) := by
    rw [hg.block R (by simp; omega) (fun e => ag_ne h.row h.blk (by decide) e.symm)]
    exact (Below.heap_alloc _ _ R hR).trans h.blk
  refine ⟨⟨h6, ?_, h.low⟩, ⟨hs.1.trans hg.os, hs.2.1.trans hg.tape, hs.2.2.1.trans hg.output, by simp at hz; omega, fun j hj h1 h2 => ?_, fun j hj => ?_⟩⟩
  · rw [refC_snoc, List.length_append]
    exact ag_same hown (fun j hj => ho j (fun e => ag_ne hown hbl (by decide) (by rw [hj, e])))
  · rw [ho j h1, hg.block j (by simp; omega) (fun e => h2 e.symm)]
    exact Below.heap_alloc _ _ j hj
  · have e2 : g = j := by simpa [Value.ownBlock] using hj
    subst e2
    rcases hat with e | e
    · exact Or.inl e
    · exact Or.inr (by omega)
theorem rnew_any (w : World) : Calls Try.prog 25 #[] w fun e w' => ∃ R vL, e = .returned (.pointer (some ⟨R, 0, none⟩)) ∧ RG w' w.heap.size R [] vL ∧ Below w.heap.size w w' ∧ w.heap.size ≤ w'.heap.size := by
  go_enter Try.func25, Try.ntmps25
  go_wp2_with fail
  go_ret
  have h1 := heap_alloc_new (w.alloc (.cells #[.int .i64 0, .int .u32 0, .int .u32 0] 101)) (.cells #[.slice (some ⟨w.heap.size, 0, none⟩) 1 1, .int .i64 0] 46)
  have e9 : (w.alloc (.cells #[.int .i64 0, .int .u32 0, .int .u32 0] 101)).heap.size = w.heap.size + 1 := by simp
  rw [e9] at h1
  have hb := ag_next (ag_bel1 w (.cells #[.int .i64 0, .int .u32 0, .int .u32 0] 101)) (ag_bel1 _ (.cells #[.slice (some ⟨w.heap.size, 0, none⟩) 1 1, .int .i64 0] 46))
  refine ⟨w.heap.size + 1, _, rfl, ⟨h1, ⟨rfl, Or.inr ⟨w.heap.size, 1, #[.int .i64 0, .int .u32 0, .int .u32 0], rfl, Nat.le_refl _, ?_, Nat.le_refl _, by unfold maxLen; omega, rfl, rfl⟩⟩, by omega⟩, hb, hb.size⟩
  exact (Below.heap_alloc _ _ _ (by omega)).trans (heap_alloc_new w _)
/-- behind an append to the nodes' row -/
structure RP (w w7 : World) (B R : Nat) (ns : Nds) (vL : Value) (g7 cap7 : Nat) (X : List Value) (ob : Obj) : Prop where
  own : w7.ownsRow B 101 3 (.slice (some ⟨g7, 0, none⟩) (ns.length + 1 + 1) cap7) (ns.length + 1 + 1) (refC ns (ns.length + 1) ++ X)
  gr : (w.alloc ob).grownBy w7 vL.ownBlock
  at_ : vL.ownBlock = some g7 ∨ g7 = w.heap.size + 1
theorem RP.blk {w w7 : World} {B R : Nat} {ns : Nds} {vL : Value} {g7 cap7 : Nat} {X : List Value} {ob : Obj} (h : RP w w7 B R ns vL g7 cap7 X ob) (hr : RG w B R ns vL) : w7.heap[R]? = some (.cells #[vL, .int .i64 (inN ns : Int)] 46 (0, 0)) := by
  have hR : R < w.heap.size := hr.lt R (Or.inl rfl)
  rw [h.gr.block R (by simp; omega) (fun e => ag_ne hr.row hr.blk (by decide) e.symm)]
  exact (Below.heap_alloc _ _ R hR).trans hr.blk
set_option maxHeartbeats 4000000 in
set_option maxRecDepth 100000 in
theorem rinput_any (w : World) {B R : Nat} {ns : Nds} {vL : Value} (h : RG w B R ns vL) (hB : B ≤ w.heap.size) (hl : ns.length < 1073741823) :
    Calls Try.prog 27 #[.pointer (some ⟨R, 0, none⟩)] w fun e w' => ∃ vL', e = .returned (.tuple #[.int .u32 ((2 * (ns.length + 1) : Nat) : Int), .int .i64 0]) ∧ RG w' B R (ns ++ [none]) vL' ∧ RK w R vL w' vL' := by
  generalize hPP : (fun (e : Ending) (w' : World) => ∃ vL', e = .returned (.tuple #[.int .u32 ((2 * (ns.length + 1) : Nat) : Int), .int .i64 0]) ∧ RG w' B R (ns ++ [none]) vL' ∧ RK w R vL w' vL') = PP
  have HP : Hid (∀ w' vL', RG w' B R (ns ++ [none]) vL' ∧ RK w R vL w' vL' → PP (.returned (.tuple #[.int .u32 ((2 * (ns.length + 1) : Nat) : Int), .int .i64 0])) w') := fun w' vL' h1 => by rw [← hPP]; exact ⟨vL', rfl, h1⟩
  clear hPP
  have HH : Hid (RG w B R ns vL) := h
  obtain ⟨aL, cL, rfl, hcL, haL⟩ := row_form h.row
  obtain ⟨gL, rfl⟩ := haL (by omega)
  have c0 : w.cell? ⟨R, 0, none⟩ = some (.slice (some ⟨gL, 0, none⟩) (ns.length + 1) cL) := ag_cell h.blk 0
  have c1 : w.cell? ⟨R, 1, none⟩ = some (.int .i64 (inN ns : Int)) := ag_cell h.blk 1
  have hR : R < w.heap.size := h.lt R (Or.inl rfl)
  have hin : inN ns ≤ ns.length := by unfold inN; omega
  have hu : IntKind.u32.wrap (inN ns : Int) = (inN ns : Int) := by rw [IntKind.wrap_u32]; omega
  have HX : Hid (nodC (nodK (ns ++ [none]) (ns.length + 1)) = [.int .i64 1, .int .u32 (inN ns : Int), .int .u32 0] ∧ inN (ns ++ [none]) = inN ns + 1) := ⟨by rw [nodK_last]; rfl, inN_in ns⟩
  obtain ⟨i0, hi, hz0, hz1, hz2⟩ := info_parts (P := Try.prog) (e := 101) (z := .agg #[.int .i64 0, .int .u32 0, .int .u32 0]) (size := 3) (bytes := 16) (by kernel_rfl)
  have HGO : Hid (∀ (w7 : World) (g7 cap7 : Nat), RP w w7 B R ns (.slice (some ⟨gL, 0, none⟩) (ns.length + 1) cL) g7 cap7 [.int .i64 1, .int .u32 (inN ns : Int), .int .u32 0] (.cells #[.int .i64 1, .int .u32 (inN ns : Int), .int .u32 0] 101) → w7.cell? ⟨R, 0, none⟩ = some (.slice (some ⟨gL, 0, none⟩) (ns.length + 1) cL) ∧ w7.frozen? ⟨R, 0, none⟩ = false) := fun w7 g7 cap7 h1 => ⟨ag_cell (h1.blk HH.out) 0, ag_fz (h1.blk HH.out) 0⟩
  have HRW : Hid (w.ownsRow B 101 3 (.slice (some ⟨gL, 0, none⟩) (ns.length + 1) cL) (ns.length + 1) (refC ns (ns.length + 1))) := h.row
  clear h
  generalize hII : inN ns = I at *
  have HI : Hid (inN ns = I) := hII
  clear hII
  go_enter Try.func27, Try.ntmps27
  go_wp2_with fail
  refine (fun (KEY : Hid (∀ (w7 : World) (g7 cap7 : Nat), Hid (RP w w7 B R ns (.slice (some ⟨gL, 0, none⟩) (ns.length + 1) cL) g7 cap7 [.int .i64 1, .int .u32 (I : Int), .int .u32 0] (.cells #[.int .i64 1, .int .u32 (I : Int), .int .u32 0] 101)) → (?PHI : World → Nat → Nat → Prop) w7 g7 cap7)) => ?main) ?key
  case main =>
    go_region_law
      (refine step_append_lies _ (by rfl) _ _ _ (by rfl) B 101 i0 _ 3 16 Try.underlying44 hi hz0 hz1 hz2 rfl (by omega) (.slice (some ⟨gL, 0, none⟩) (ns.length + 1) cL) (ns.length + 1) (refC ns (ns.length + 1)) (by rfl) ((HRW.out.alloc _).drew) ⟨w.heap.size, 0, none⟩ 1 1 [.int .i64 1, .int .u32 (I : Int), .int .u32 0] (by rfl) (by rfl) (World.news_of_block (cs := #[.int .i64 1, .int .u32 (I : Int), .int .u32 0]) (t := 101) (fr := (0, 0)) (heap_alloc_new w _)) (by intro u hu; simp at hu; rcases hu with rfl | rfl | rfl <;> rfl) (by omega) (by unfold maxLen; omega) (by omega) (by simp; omega) (w.heap.size + 1) (by simp) ?_; intro g7 cap7 w7 hown7 hgrow hat hlt7; have HK7 : Hid (RP w w7 B R ns (.slice (some ⟨gL, 0, none⟩) (ns.length + 1) cL) g7 cap7 [.int .i64 1, .int .u32 (I : Int), .int .u32 0] (.cells #[.int .i64 1, .int .u32 (I : Int), .int .u32 0] 101)) := ⟨hown7, ⟨hgrow.os, hgrow.tape, hgrow.output, hgrow.size, hgrow.block⟩, hat⟩; obtain ⟨k8, k9⟩ := HGO.out w7 g7 cap7 HK7.out; clear hown7 hgrow hat hlt7)
    all_goals exact KEY.out w7 g7 cap7 HK7
  case key =>
    intro w7 g7 cap7 HK7
    have hb7 := HK7.out.blk HH.out
    rw [HI.out] at hb7
    have hb8 : (w7.setCell ⟨R, 0, none⟩ (.slice (some ⟨g7, 0, none⟩) (ns.length + 1 + 1) cap7)).heap[R]? = some (.cells #[.slice (some ⟨g7, 0, none⟩) (ns.length + 1 + 1) cap7, .int .i64 (I : Int)] 46 (0, 0)) := by rw [heap_setCell_same _ R 0 _ _ _ hb7]; rfl
    have HZ : Hid (∀ W, W = (w7.setCell ⟨R, 0, none⟩ (.slice (some ⟨g7, 0, none⟩) (ns.length + 1 + 1) cap7)).setCell ⟨R, 1, none⟩ (.int .i64 ((I : Int) + 1)) → PP (.returned (.tuple #[.int .u32 ((2 * (ns.length + 1) : Nat) : Int), .int .i64 0])) W) := fun W hW => by
      subst hW
      refine HP.out _ _ (HH.out.put none (w5 := w7) (by rw [HX.out.1]; exact HK7.out.own) HK7.out.gr HK7.out.at_ ?_ (fun j hj => ?_) ⟨rfl, rfl, rfl, by simp⟩)
      · rw [heap_setCell_same _ R 1 _ _ _ hb8, HX.out.2]
        rfl
      · rw [heap_setCell_other _ _ _ _ hj, heap_setCell_other _ _ _ _ hj]
    have d0 := ag_cell hb8 0
    have d1 := ag_cell hb8 1
    have f1 := ag_fz hb8 1
    have f0 := ag_fz hb8 0
    clear HGO HRW HK7 HP HX hb7 c0 c1
    generalize ns.length = n at *
    generalize w7.setCell ⟨R, 0, none⟩ (.slice (some ⟨g7, 0, none⟩) (n + 1 + 1) cap7) = w8 at *
    clear hb8
    have e5 : IntKind.u32.wrap (2 * ((n : Int) + 1 + 1 - 1)) = ((2 * (n + 1) : Nat) : Int) := by rw [IntKind.wrap_u32]; omega
    have d0' : (w8.setCell ⟨R, 1, none⟩ (.int .i64 ((I : Int) + 1))).cell? ⟨R, 0, none⟩ = some (.slice (some ⟨g7, 0, none⟩) (n + 1 + 1) cap7) := by
      rw [World.cell?_setCell_other _ _ _ _ (by simp)]
      exact d0
    go_wp2
    first | exact HZ.out _ rfl | (go_ret2; exact HZ.out _ rfl)
end Go.Proofs.Ytkomadlmonhlhaa
