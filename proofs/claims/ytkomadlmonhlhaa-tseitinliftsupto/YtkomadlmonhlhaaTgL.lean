import Derived.Test.YtkomadlmonhlhaaTgI
namespace Go.Proofs.Ytkomadlmonhlhaa
open Go.ChangeShapes Go.WideShapes Go.ChangeAt Go.RowKit Go.Lib Go.Ag Go.WideMaps Go.Maps Go.ChangeMaps Go.Cn

theorem refE_no {m : Nat} : ∀ {ls : List Nat}, (¬ ∀ l ∈ ls, l / 2 ≤ m) → refE m ls = 100
  | [], h => absurd (fun l hl => by cases hl) h
  | l :: ls, h => by
    unfold refE
    by_cases e : m < l / 2
    · rw [if_pos e]
    · rw [if_neg e]
      exact refE_no fun h2 => h fun x hx => by
        rcases List.mem_cons.1 hx with e2 | e2
        · rw [e2]; omega
        · exact h2 x e2
theorem refusal_no (w : World) {B R : Nat} {ns : Nds} {nb : Nat} {vb vg : Value} {M : Option Nat} {D : DataW Unit} (h : GM w B R ns nb vb vg M D) (ad : Option Addr) (ls : List Nat) (cp : Nat) (hl : U32s w ad ls) (h32 : ∀ l ∈ ls, l < 4294967296) (hbd : ¬ ∀ l ∈ ls, l / 2 ≤ ns.length) (hn : ls.length ≤ 1000000000000) :
    Calls Try.prog 48 #[.pointer (some ⟨R, 0, none⟩), .slice ad ls.length cp] w fun e w' => e = .returned (.int .i64 100) ∧ Below w.heap.size w w' :=
  (refusal_any w R ns.length (ag_cell h.blk 0) ad ls cp hl h32 hn).mono (by
    rintro e w' ⟨rfl, d, rfl⟩
    rw [refE_no hbd]
    exact ⟨rfl, rfl, rfl, rfl, Nat.le_refl _, fun _ _ => rfl⟩)
/-- no graph -/
theorem refusal_nil (w : World) (ad : Option Addr) (n cp : Nat) :
    Calls Try.prog 48 #[.pointer none, .slice ad n cp] w fun e w' => e = .returned (.int .i64 2) ∧ Below w.heap.size w w' := by
  have HB : Hid (Below w.heap.size w w) := Below.refl _ w
  go_enter Try.func48, Try.ntmps48
  go_wp2_with fail
  first | exact ⟨rfl, HB.out⟩ | (go_ret; exact ⟨rfl, HB.out⟩)
/-- what is refused has no cone -/
theorem Cone_e (w : World) (pa : Option Addr) (ad : Option Addr) (n cp : Nat) (E : Int) (hE : (E == 0) = false) (h : Calls Try.prog 48 #[.pointer pa, .slice ad n cp] w fun e w' => e = .returned (.int .i64 E) ∧ Below w.heap.size w w') :
    Calls Try.prog 43 #[.pointer pa, .slice ad n cp] w fun e w' => e = .returned (.tuple #[.slice none 0 0, .int .i64 E]) ∧ Below w.heap.size w w' := by
  have HR : Hid (Calls Try.prog 48 #[.pointer pa, .slice ad n cp] w fun e w' => e = .returned (.int .i64 E) ∧ Below w.heap.size w w') := h
  clear h
  go_enter Try.func43, Try.ntmps43
  go_wp2_with fail
  refine HR.out.mono ?_
  rintro e w1 ⟨rfl, hb1⟩
  have HB : Hid (Below w.heap.size w w1) := hb1
  clear hb1
  go_wp2_with fail
  first | exact ⟨rfl, HB.out⟩ | (go_ret2; exact ⟨rfl, HB.out⟩)
set_option maxHeartbeats 4000000 in
/-- nor has it clauses -/
theorem encode_e (w : World) (pa : Option Addr) (ad : Option Addr) (n cp : Nat) (fv : Value) (E : Int) (hE : (E == 0) = false) (h : ∀ W, Below w.heap.size w W → Calls Try.prog 48 #[.pointer pa, .slice ad n cp] W fun e w' => e = .returned (.int .i64 E) ∧ Below W.heap.size W w') :
    Calls Try.prog 31 #[.pointer pa, .slice ad n cp, fv] w fun e w' => e = .returned (.tuple #[.agg #[.int .i64 0, .slice none 0 0], .slice none 0 0, .int .i64 E]) ∧ Below w.heap.size w w' := by
  obtain ⟨w1, hw1⟩ : ∃ w1, w.alloc (.cells #[.int .i64 0, .slice none 0 0] 33) = w1 := ⟨_, rfl⟩
  have x1 : w1.heap[w.heap.size]? = some (.cells #[.int .i64 0, .slice none 0 0] 33 (0, 0)) := by rw [← hw1]; exact heap_alloc_new _ _
  have hB1 : Below w.heap.size w w1 := by rw [← hw1]; exact ag_bel1 _ _
  have HCo : Hid (Calls Try.prog 43 #[.pointer pa, .slice ad n cp] w1 fun e w' => e = .returned (.tuple #[.slice none 0 0, .int .i64 E]) ∧ Below w1.heap.size w1 w') := Cone_e w1 pa ad n cp E hE (h w1 hB1)
  have HB1 : Hid (Below w.heap.size w w1 ∧ w1.heap[w.heap.size]? = some (.cells #[.int .i64 0, .slice none 0 0] 33 (0, 0))) := ⟨hB1, x1⟩
  have HW1e : Hid (w.alloc (.cells #[.int .i64 0, .slice none 0 0] 33) = w1) := hw1
  clear h x1 hB1 hw1
  go_enter Try.func31, Try.ntmps31
  go_wp2_with fail
  rw [HW1e.out]
  clear HW1e
  refine HCo.out.mono ?_
  rintro e w5 ⟨rfl, hb5⟩
  have x5 : w5.heap[w.heap.size]? = some (.cells #[.int .i64 0, .slice none 0 0] 33 (0, 0)) := (hb5.block _ (Array.getElem?_eq_some_iff.1 HB1.out.2).1).trans HB1.out.2
  have hB5 := ag_next HB1.out.1 hb5
  obtain ⟨w7, hw7⟩ : ∃ w7, (w5.setCell ⟨w.heap.size, 0, none⟩ (.int .i64 0)).setCell ⟨w.heap.size, 1, none⟩ (.slice none 0 0) = w7 := ⟨_, rfl⟩
  have x7 : w7.heap[w.heap.size]? = some (.cells #[.int .i64 0, .slice none 0 0] 33 (0, 0)) := by
    rw [← hw7, heap_setCell_same _ _ 1 _ _ _ (heap_setCell_same _ _ 0 _ _ _ x5)]
    rfl
  have k7 : ∀ j, j ≠ w.heap.size → w7.heap[j]? = w5.heap[j]? := fun j hj => by rw [← hw7, heap_setCell_other _ _ _ _ hj, heap_setCell_other _ _ _ _ hj]
  have s7 : w7.heap.size = w5.heap.size ∧ w7.os = w5.os ∧ w7.tape = w5.tape ∧ w7.output = w5.output := by rw [← hw7]; exact ⟨by simp, rfl, rfl, rfl⟩
  have HZ : Hid (Below w.heap.size w w7) := ⟨s7.2.1.trans hB5.os, s7.2.2.1.trans hB5.tape, s7.2.2.2.trans hB5.output, by rw [s7.1]; exact hB5.size, fun j hj => (k7 j (by omega)).trans (hB5.block j hj)⟩
  have HW7 : Hid ((w5.setCell ⟨w.heap.size, 0, none⟩ (.int .i64 0)).setCell ⟨w.heap.size, 1, none⟩ (.slice none 0 0) = w7) := hw7
  have HX7 : Hid (w7.heap[w.heap.size]? = some (.cells #[.int .i64 0, .slice none 0 0] 33 (0, 0))) := x7
  have l0 := ag_cell x5 0
  have l1 := ag_cell x5 1
  have o0 := ag_fz x5 0
  have o1 := ag_fz x5 1
  clear x5 x7 k7 s7 hw7 hb5 hB5 HCo HB1
  go_wp2_with fail
  rw [HW7.out]
  refine bodyPost_ret (v := .tuple #[.agg #[.int .i64 0, .slice none 0 0], .slice none 0 0, .int .i64 E]) (res_c2 (p := 6) (u := 7) (v := 8) rfl _ _ w.heap.size 33 _ (0, 0) _ _ _ rfl HX7.out rfl rfl Try.underlying33 rfl (by kernel_rfl)) rfl ?_
  exact ⟨rfl, HZ.out⟩
set_option maxHeartbeats 4000000 in
/-- the program's Encode of what is refused -/
theorem Encode_e (w : World) (pa : Option Addr) (ad : Option Addr) (n cp : Nat) (E : Int) (hE : (E == 0) = false) (h : ∀ W, Below w.heap.size w W → Calls Try.prog 48 #[.pointer pa, .slice ad n cp] W fun e w' => e = .returned (.int .i64 E) ∧ Below W.heap.size W w') :
    Calls Try.prog 9 #[.pointer pa, .slice ad n cp] w fun e w' => e = .returned (.tuple #[.agg #[.int .i64 0, .slice none 0 0], .slice none 0 0, .int .i64 E]) ∧ Below w.heap.size w w' := by
  obtain ⟨w1, hw1⟩ : ∃ w1, w.alloc (.cells #[.int .i64 0, .slice none 0 0] 33) = w1 := ⟨_, rfl⟩
  have x1 : w1.heap[w.heap.size]? = some (.cells #[.int .i64 0, .slice none 0 0] 33 (0, 0)) := by rw [← hw1]; exact heap_alloc_new _ _
  have hB1 : Below w.heap.size w w1 := by rw [← hw1]; exact ag_bel1 _ _
  have HCo : Hid (Calls Try.prog 31 #[.pointer pa, .slice ad n cp, .func (.func 32) #[] #[]] w1 fun e w' => e = .returned (.tuple #[.agg #[.int .i64 0, .slice none 0 0], .slice none 0 0, .int .i64 E]) ∧ Below w1.heap.size w1 w') := encode_e w1 pa ad n cp (.func (.func 32) #[] #[]) E hE (fun W hW => h W (ag_next hB1 hW))
  have HB1 : Hid (Below w.heap.size w w1 ∧ w1.heap[w.heap.size]? = some (.cells #[.int .i64 0, .slice none 0 0] 33 (0, 0))) := ⟨hB1, x1⟩
  have HW1e : Hid (w.alloc (.cells #[.int .i64 0, .slice none 0 0] 33) = w1) := hw1
  clear h x1 hB1 hw1
  go_enter Try.func9, Try.ntmps9
  go_wp2_with fail
  rw [HW1e.out]
  clear HW1e
  refine HCo.out.mono ?_
  rintro e w5 ⟨rfl, hb5⟩
  have x5 : w5.heap[w.heap.size]? = some (.cells #[.int .i64 0, .slice none 0 0] 33 (0, 0)) := (hb5.block _ (Array.getElem?_eq_some_iff.1 HB1.out.2).1).trans HB1.out.2
  have hB5 := ag_next HB1.out.1 hb5
  obtain ⟨w7, hw7⟩ : ∃ w7, (w5.setCell ⟨w.heap.size, 0, none⟩ (.int .i64 0)).setCell ⟨w.heap.size, 1, none⟩ (.slice none 0 0) = w7 := ⟨_, rfl⟩
  have x7 : w7.heap[w.heap.size]? = some (.cells #[.int .i64 0, .slice none 0 0] 33 (0, 0)) := by
    rw [← hw7, heap_setCell_same _ _ 1 _ _ _ (heap_setCell_same _ _ 0 _ _ _ x5)]
    rfl
  have k7 : ∀ j, j ≠ w.heap.size → w7.heap[j]? = w5.heap[j]? := fun j hj => by rw [← hw7, heap_setCell_other _ _ _ _ hj, heap_setCell_other _ _ _ _ hj]
  have s7 : w7.heap.size = w5.heap.size ∧ w7.os = w5.os ∧ w7.tape = w5.tape ∧ w7.output = w5.output := by rw [← hw7]; exact ⟨by simp, rfl, rfl, rfl⟩
  have HZ : Hid (Below w.heap.size w w7) := ⟨s7.2.1.trans hB5.os, s7.2.2.1.trans hB5.tape, s7.2.2.2.trans hB5.output, by rw [s7.1]; exact hB5.size, fun j hj => (k7 j (by omega)).trans (hB5.block j hj)⟩
  have HW7 : Hid ((w5.setCell ⟨w.heap.size, 0, none⟩ (.int .i64 0)).setCell ⟨w.heap.size, 1, none⟩ (.slice none 0 0) = w7) := hw7
  have HX7 : Hid (w7.heap[w.heap.size]? = some (.cells #[.int .i64 0, .slice none 0 0] 33 (0, 0))) := x7
  have l0 := ag_cell x5 0
  have l1 := ag_cell x5 1
  have o0 := ag_fz x5 0
  have o1 := ag_fz x5 1
  clear x5 x7 k7 s7 hw7 hb5 hB5 HCo HB1
  go_wp2_with fail
  rw [HW7.out]
  refine bodyPost_ret (v := .tuple #[.agg #[.int .i64 0, .slice none 0 0], .slice none 0 0, .int .i64 E]) (res_c2 (p := 4) (u := 5) (v := 6) rfl _ _ w.heap.size 33 _ (0, 0) _ _ _ rfl HX7.out rfl rfl Try.underlying33 rfl (by kernel_rfl)) rfl ?_
  exact ⟨rfl, HZ.out⟩
set_option maxHeartbeats 4000000 in
/-- the program's Polar of what is refused -/
theorem Polar_e (w : World) (pa : Option Addr) (ad : Option Addr) (n cp : Nat) (E : Int) (hE : (E == 0) = false) (h : ∀ W, Below w.heap.size w W → Calls Try.prog 48 #[.pointer pa, .slice ad n cp] W fun e w' => e = .returned (.int .i64 E) ∧ Below W.heap.size W w') :
    Calls Try.prog 14 #[.pointer pa, .slice ad n cp] w fun e w' => e = .returned (.tuple #[.agg #[.int .i64 0, .slice none 0 0], .slice none 0 0, .int .i64 E]) ∧ Below w.heap.size w w' := by
  obtain ⟨w1, hw1⟩ : ∃ w1, w.alloc (.cells #[.int .i64 0, .slice none 0 0] 33) = w1 := ⟨_, rfl⟩
  have x1 : w1.heap[w.heap.size]? = some (.cells #[.int .i64 0, .slice none 0 0] 33 (0, 0)) := by rw [← hw1]; exact heap_alloc_new _ _
  have hB1 : Below w.heap.size w w1 := by rw [← hw1]; exact ag_bel1 _ _
  have HCo : Hid (Calls Try.prog 31 #[.pointer pa, .slice ad n cp, .func (.func 35) #[] #[]] w1 fun e w' => e = .returned (.tuple #[.agg #[.int .i64 0, .slice none 0 0], .slice none 0 0, .int .i64 E]) ∧ Below w1.heap.size w1 w') := encode_e w1 pa ad n cp (.func (.func 35) #[] #[]) E hE (fun W hW => h W (ag_next hB1 hW))
  have HB1 : Hid (Below w.heap.size w w1 ∧ w1.heap[w.heap.size]? = some (.cells #[.int .i64 0, .slice none 0 0] 33 (0, 0))) := ⟨hB1, x1⟩
  have HW1e : Hid (w.alloc (.cells #[.int .i64 0, .slice none 0 0] 33) = w1) := hw1
  clear h x1 hB1 hw1
  go_enter Try.func14, Try.ntmps14
  go_wp2_with fail
  rw [HW1e.out]
  clear HW1e
  refine HCo.out.mono ?_
  rintro e w5 ⟨rfl, hb5⟩
  have x5 : w5.heap[w.heap.size]? = some (.cells #[.int .i64 0, .slice none 0 0] 33 (0, 0)) := (hb5.block _ (Array.getElem?_eq_some_iff.1 HB1.out.2).1).trans HB1.out.2
  have hB5 := ag_next HB1.out.1 hb5
  obtain ⟨w7, hw7⟩ : ∃ w7, (w5.setCell ⟨w.heap.size, 0, none⟩ (.int .i64 0)).setCell ⟨w.heap.size, 1, none⟩ (.slice none 0 0) = w7 := ⟨_, rfl⟩
  have x7 : w7.heap[w.heap.size]? = some (.cells #[.int .i64 0, .slice none 0 0] 33 (0, 0)) := by
    rw [← hw7, heap_setCell_same _ _ 1 _ _ _ (heap_setCell_same _ _ 0 _ _ _ x5)]
    rfl
  have k7 : ∀ j, j ≠ w.heap.size → w7.heap[j]? = w5.heap[j]? := fun j hj => by rw [← hw7, heap_setCell_other _ _ _ _ hj, heap_setCell_other _ _ _ _ hj]
  have s7 : w7.heap.size = w5.heap.size ∧ w7.os = w5.os ∧ w7.tape = w5.tape ∧ w7.output = w5.output := by rw [← hw7]; exact ⟨by simp, rfl, rfl, rfl⟩
  have HZ : Hid (Below w.heap.size w w7) := ⟨s7.2.1.trans hB5.os, s7.2.2.1.trans hB5.tape, s7.2.2.2.trans hB5.output, by rw [s7.1]; exact hB5.size, fun j hj => (k7 j (by omega)).trans (hB5.block j hj)⟩
  have HW7 : Hid ((w5.setCell ⟨w.heap.size, 0, none⟩ (.int .i64 0)).setCell ⟨w.heap.size, 1, none⟩ (.slice none 0 0) = w7) := hw7
  have HX7 : Hid (w7.heap[w.heap.size]? = some (.cells #[.int .i64 0, .slice none 0 0] 33 (0, 0))) := x7
  have l0 := ag_cell x5 0
  have l1 := ag_cell x5 1
  have o0 := ag_fz x5 0
  have o1 := ag_fz x5 1
  clear x5 x7 k7 s7 hw7 hb5 hB5 HCo HB1
  go_wp2_with fail
  rw [HW7.out]
  refine bodyPost_ret (v := .tuple #[.agg #[.int .i64 0, .slice none 0 0], .slice none 0 0, .int .i64 E]) (res_c2 (p := 4) (u := 5) (v := 6) rfl _ _ w.heap.size 33 _ (0, 0) _ _ _ rfl HX7.out rfl rfl Try.underlying33 rfl (by kernel_rfl)) rfl ?_
  exact ⟨rfl, HZ.out⟩
end Go.Proofs.Ytkomadlmonhlhaa
namespace Go.Proofs.Ytkomadlmonhlhaa
open Go.ChangeShapes Go.WideShapes Go.ChangeAt Go.RowKit Go.Lib Go.Ag Go.WideMaps Go.Maps Go.ChangeMaps Go.Cn

theorem srcE {W : World} (ad : Option Addr) (c : Nat) : Src Try.prog 1 24 (.slice ad 0 c) 0 [] W := by
  cases ad with
  | none => exact Src.ofNil _ Try.underlying24 c
  | some a => exact Src.ofSlice _ Try.underlying24 a 0 c [] (by simp) (fun j u h => by simp at h) (fun u h => by simp at h)
theorem wpList_anilE {ops : Array Oper} {rest : List Oper} {o : Oper} {a : Act} {Q : Exit → Act → World → Prop} (hgd : o.guard = none) (s x : Operand)
    (ho : o.op = .call { callee := .builtin .append, args := #[s, x], argTypes := #[24, 24] }) (W : World) (ad : Option Addr) (m c : Nat) (hmc : m ≤ c) (hs : a.eval s = .slice ad m c) (ad2 : Option Addr) (c2 : Nat) (hx : a.eval x = .slice ad2 0 c2)
    (h : wpList Try.prog ops Q rest (a.put o.dst (.slice ad m c)) W) : wpList Try.prog ops Q (o :: rest) a W := by
  obtain ⟨i0, hi, _, hz1, _⟩ := info_parts (P := Try.prog) (e := 42) (z := .int .u32 0) (size := 1) (bytes := 4) (by kernel_rfl)
  refine wpList_plain hgd fun _ hK => ?_
  have hr := run_append_nothing (P := Try.prog) W 24 24 o.type 42 i0 Try.underlying24 hi ad m c hmc (.slice ad2 0 c2) (by rw [hz1]; exact srcE ad2 c2)
  unfold Oper.wp execOp
  simp only [ho, resolve, invoke, builtin, Sem.run_bind, Sem.run_pure, Result.andThen_ok, List.map_toArray, List.map_cons, List.map_nil, hs, hx, hr]
  exact hK _ _ h
theorem u32V_app (a b : List Nat) : u32V (a ++ b) = u32V a ++ u32V b := by unfold u32V; rw [List.map_append]
theorem SR.join {w wr w4 : World} {out os : List Nat} {vO : Value} {g4 cap4 n m : Nat} (hn : out.length = n) (hm : os.length = m) (h : SR w wr out vO) (hown : w4.ownsRow w.heap.size 42 1 (.slice (some ⟨g4, 0, none⟩) (n + m) cap4) (n + m) (u32V out ++ u32V os)) (hg : wr.grownBy w4 vO.ownBlock) : SR w w4 (out ++ os) (.slice (some ⟨g4, 0, none⟩) (n + m) cap4) := by
  subst hn hm
  have hz := hg.size
  refine ⟨by rw [u32V_app, List.length_append]; exact hown, ⟨hg.os.trans h.bel.os, hg.tape.trans h.bel.tape, hg.output.trans h.bel.output, by have := h.bel.size; omega, fun j hj => ?_⟩⟩
  have hj2 : j < wr.heap.size := Nat.lt_of_lt_of_le hj h.bel.size
  rw [hg.block j hj2 (fun e => by have := (h.row.lt j e.symm).1; omega)]
  exact h.bel.block j hj
theorem u32s_at {W : World} {b off : Nat} {os : List Nat} (h : ∀ j, j < os.length → W.cell? ⟨b, off + j, none⟩ = some (.int .u32 ((os.getD j 0 : Nat) : Int))) : ∀ j u, (u32V os)[j]? = some u → W.cell? ((⟨b, off, none⟩ : Addr).add j) = some u := fun j u hu => by
  have hj : j < os.length := by
    have := (List.getElem?_eq_some_iff.1 hu).1
    rw [u32V_len] at this
    exact this
  have h1 := h j hj
  unfold u32V at hu
  rw [List.getElem?_map, List.getElem?_eq_getElem hj] at hu
  rw [List.getD_eq_getElem?_getD, List.getElem?_eq_getElem hj] at h1
  have e : (⟨b, off, none⟩ : Addr).add j = ⟨b, off + j, none⟩ := by simp [Addr.add]
  rw [e]
  exact h1.trans hu
theorem u32V_one (os : List Nat) : ∀ u ∈ u32V os, u.oneCell' = true := fun u hu => by
  unfold u32V at hu
  obtain ⟨x, _, rfl⟩ := List.mem_map.1 hu
  rfl
set_option maxHeartbeats 2000000 in
theorem some_odd (w : World) (aL : Option Addr) (L : List Nat) (cL : Nat) (hL : U32s w aL L) (h0 : 0 < L.length) (hLn : L.length ≤ 1000000000000) (h32 : ∀ l ∈ L, l < 4294967296) (aW : Option Addr) (ws : List Int) (cW : Nat) (hW : Is w aW ws) (hbd : ∀ x ∈ ws, -9223372036854775808 ≤ x ∧ x ≤ 9223372036854775807) (aQ : Option Addr) (os : List Nat) (cQ : Nat) (hQ : U32s w aQ os) (hn : ws.length + os.length ≤ 1048576) :
    Calls Try.prog 8 #[.slice aL L.length cL, .slice aW ws.length cW, .slice aQ os.length cQ] w fun e w' => ∃ v, e = .returned v ∧ SR w w' (ws.map (pickN L) ++ os) v := by
  have HPk : Hid (∀ W i, Below w.heap.size w W → (-9223372036854775808 ≤ i ∧ i ≤ 9223372036854775807) → Calls Try.prog 28 #[.slice aL L.length cL, .int .i64 i] W fun e w' => e = .returned (.int .u32 ((pickN L i : Nat) : Int)) ∧ w' = W) := fun W i hb hi => pick_any W aL L cL (hL.below hb) h0 hLn h32 i hi
  have HW : Aside (Is w aW ws) := hW
  have HQ : Aside (U32s w aQ os) := hQ
  have HBd : Aside (∀ x ∈ ws, -9223372036854775808 ≤ x ∧ x ≤ 9223372036854775807) := hbd
  clear hL hW hbd hQ
  generalize hnn : ws.length = n at *
  generalize hmm : os.length = m at *
  have HL : Aside (ws.length = n ∧ os.length = m) := ⟨hnn, hmm⟩
  clear hnn hmm
  obtain ⟨i0, hi, hz0, hz1, hz2⟩ := info_parts (P := Try.prog) (e := 42) (z := .int .u32 0) (size := 1) (bytes := 4) (by kernel_rfl)
  go_enter Try.func8, Try.ntmps8
  go_wp2_with fail
  go_loopg [7, 8] n (fun gk v7 v8 wr => ∃ k vO, v7 = vO ∧ v8 = .int .i64 ((k : Nat) : Int) ∧ k + gk = n ∧ Aside (SR w wr ((ws.take k).map (pickN L)) vO))
  case atStart => exact ⟨0, _, rfl, rfl, by omega, ⟨World.ownsRow_nil _ _ _ _, Below.refl _ _⟩⟩
  case round =>
    obtain ⟨k, vO, rfl, rfl, hk, HS⟩ := hrel
    obtain ⟨aO, cO, rfl, hcO, haO⟩ := row_form HS.out.row
    have hlen : ((ws.take k).map (pickN L)).length = k := by rw [List.length_map, List.length_take, HL.out.1]; omega
    rw [hlen] at HS hcO
    rw [hlen]
    by_cases hlt : k < n
    · have q1 : (k : Int) < (n : Int) := by omega
      obtain ⟨b, off, rfl, hb, hcc⟩ := HW.out (by rw [HL.out.1]; omega)
      have hc := (HS.out.bel.cell (p := ⟨b, off + k, none⟩) hb).trans (hcc k (by rw [HL.out.1]; exact hlt))
      have hbx := HBd.out (ws.getD k 0) (by rw [List.getD_eq_getElem?_getD, List.getElem?_eq_getElem (by rw [HL.out.1]; exact hlt)]; exact List.getElem_mem _)
      have HT2 : Hid ((ws.take (k + 1)).map (pickN L) = (ws.take k).map (pickN L) ++ [pickN L (ws.getD k 0)]) := by
        show _ = _
        rw [List.take_succ_eq_append_getElem (by rw [HL.out.1]; exact hlt), List.map_append, List.getD_eq_getElem?_getD, List.getElem?_eq_getElem (by rw [HL.out.1]; exact hlt)]
        rfl
      clear hcc
      generalize ws.getD k 0 = x at *
      have hr4 : Hid (wr.ownsRow w.heap.size 42 1 (.slice aO k cO) k (u32V ((ws.take k).map (pickN L)))) := by have := HS.out.row; rw [hlen] at this; exact this
      have hw4 : w.heap.size ≤ wr.heap.size := HS.out.bel.size
      generalize (ws.take k).map (pickN L) = out at *
      go_wp2_with fail
      refine (HPk.out wr x HS.out.bel hbx).mono ?_
      rintro e wn ⟨rfl, hwn⟩; subst wn
      generalize pickN L x = l at *
      go_wp2_with (at_builtin; refine wpList_append_lies _ rfl _ _ 24 rfl w.heap.size 42 i0 (.int .u32 0) 1 4 Try.underlying24 hi hz0 hz1 hz2 rfl (by decide) _ _ _ rfl (hr4.out.alloc _) ⟨wr.heap.size, 0, none⟩ 1 1 [.int .u32 (l : Int)] rfl rfl (one_new _ _ _) (by intro u hu; simp at hu; subst hu; rfl) (by omega) (by unfold maxLen; omega) (by omega) (by simp; omega) (wr.heap.size + 1) (by simp) ?_; intro g6 cap6 w6 hown6 hgrow6 hat6 hlt6; have HS6 : Hid (SR w w6 (out ++ [l]) (.slice (some ⟨g6, 0, none⟩) (k + 1) cap6)) := SR.push hlen HS.out hown6 hgrow6; clear hown6 hgrow6 hat6 hlt6; refine Hid.out ?_)
      refine Lib.hid ?_
      go_wp2_with fail
      go_roundg (n - (k + 1))
      case measure => omega
      case rel => exact ⟨k + 1, _, rfl, by simp, by omega, by rw [HT2.out]; exact HS6.out⟩
    · obtain rfl : k = n := by omega
      have q1 : ¬ (k : Int) < (k : Int) := by omega
      have HZ : Hid (SR w wr (ws.map (pickN L)) (.slice aO k cO)) := by have := HS.out; rw [List.take_of_length_le (by rw [HL.out.1]; exact Nat.le_refl _)] at this; exact this
      have hlen2 : (ws.map (pickN L)).length = k := by rw [List.length_map]; exact HL.out.1
      clear HS
      rcases Nat.eq_zero_or_pos m with e0 | hm0
      · subst e0
        have HZ2 : Hid (SR w wr (ws.map (pickN L) ++ os) (.slice aO k cO)) := by rw [List.length_eq_zero_iff.1 HL.out.2, List.append_nil]; exact HZ.out
        go_wp2_with (at_builtin; refine wpList_anilE rfl _ _ rfl wr aO k cO hcO rfl aQ cQ rfl ?_)
        first | exact ⟨_, rfl, HZ2.out⟩ | (go_ret; exact ⟨_, rfl, HZ2.out⟩)
      · obtain ⟨b, off, hbo, hb, hcc⟩ := HQ.out (by rw [HL.out.2]; exact hm0)
        subst hbo
        have HU : Hid (∀ j u, (u32V os)[j]? = some u → wr.cell? ((⟨b, off, none⟩ : Addr).add j) = some u) := u32s_at (fun j hj => (HZ.out.bel.cell (p := ⟨b, off + j, none⟩) hb).trans (hcc j hj))
        have hw4 : w.heap.size ≤ wr.heap.size := HZ.out.bel.size
        have hr4 : Hid (wr.ownsRow w.heap.size 42 1 (.slice aO k cO) k (u32V (ws.map (pickN L)))) := by have := HZ.out.row; rw [hlen2] at this; exact this
        have hul : (u32V os).length = m * 1 := by rw [u32V_len, HL.out.2, Nat.mul_one]
        have huo := u32V_one os
        have HT : Hid (∀ w4 g4 cap4, w4.ownsRow w.heap.size 42 1 (.slice (some ⟨g4, 0, none⟩) (k + m) cap4) (k + m) (u32V (ws.map (pickN L)) ++ u32V os) → wr.grownBy w4 (Value.slice aO k cO).ownBlock → SR w w4 (ws.map (pickN L) ++ os) (.slice (some ⟨g4, 0, none⟩) (k + m) cap4)) := fun w4 g4 cap4 h1 h2 => SR.join hlen2 HL.out.2 HZ.out h1 h2
        clear hcc HZ
        go_wp2_with (at_builtin; refine wpList_append_lies _ rfl _ _ 24 rfl w.heap.size 42 i0 (.int .u32 0) 1 4 Try.underlying24 hi hz0 hz1 hz2 rfl (by decide) _ _ _ rfl hr4.out ⟨b, off, none⟩ m cQ (u32V os) rfl hul HU.out huo hm0 (by unfold maxLen; omega) (by omega) hw4 wr.heap.size rfl ?_; intro g6 cap6 w6 hown6 hgrow6 hat6 hlt6; have HS6 : Hid (SR w w6 (ws.map (pickN L) ++ os) (.slice (some ⟨g6, 0, none⟩) (k + m) cap6)) := HT.out w6 g6 cap6 hown6 hgrow6; clear hown6 hgrow6 hat6 hlt6; refine Hid.out ?_)
        refine Lib.hid ?_
        go_wp2_with fail
        first | exact ⟨_, rfl, HS6.out⟩ | (go_ret; exact ⟨_, rfl, HS6.out⟩)
end Go.Proofs.Ytkomadlmonhlhaa
namespace Go.Proofs.Ytkomadlmonhlhaa
open Go.ChangeShapes Go.WideShapes Go.ChangeAt Go.RowKit Go.Lib Go.Ag Go.WideMaps Go.Maps Go.ChangeMaps Go.Cn

/-- what an Encode or a Polar tells: the document's or the program's -/
def OUT (w : World) (vars : Int) (F : List (List Int)) (cn : List Nat) (E : Int) (e : Ending) (w' : World) : Prop := ∃ aF cF aC cC, e = .returned (.tuple #[.agg #[.int .i64 vars, .slice aF F.length cF], .slice aC cn.length cC, .int .i64 E]) ∧ QL w' w.heap.size F (.slice aF F.length cF) ∧ w'.ownsRow w.heap.size 3 1 (.slice aC cn.length cC) cn.length (natV cn) ∧ Below w.heap.size w w'
theorem out_no (w : World) (e : Ending) (w' : World) (h : e = .returned (.tuple #[.agg #[.int .i64 0, .slice none 0 0], .slice none 0 0, .int .i64 100]) ∧ Below w.heap.size w w') : OUT w 0 [] [] 100 e w' := ⟨none, 0, none, 0, h.1, QL.nil _ _, World.ownsRow_nil _ _ _ _, h.2⟩
/-- the four answers of one list of roots -/
structure FOUR (W : World) (Rg Rr : Nat) (aO : Option Addr) (cO : Nat) (aR : Option Addr) (cR n : Nat) (vars : Int) (FE FP : List (List Int)) (cn : List Nat) (E : Int) : Prop where
  ge : Calls Try.prog 9 #[.pointer (some ⟨Rg, 0, none⟩), .slice aO n cO] W (OUT W vars FE cn E)
  re : Calls Try.prog 10 #[.pointer (some ⟨Rr, 0, none⟩), .slice aR n cR] W (OUT W vars FE cn E)
  gp : Calls Try.prog 14 #[.pointer (some ⟨Rg, 0, none⟩), .slice aO n cO] W (OUT W vars FP cn E)
  rp : Calls Try.prog 15 #[.pointer (some ⟨Rr, 0, none⟩), .slice aR n cR] W (OUT W vars FP cn E)
theorem outs {w0 w : World} {Rg Rr : Nat} {ns : Nds} {L : List Nat} {vL : Value} (ht : TT w0 w Rg Rr ns ns L vL) (hgs : GS ns) (aO : Option Addr) (cO : Nat) (aR : Option Addr) (cR : Nat) (ls : List Nat) (hO : U32s w aO ls) (hR : U32s w aR ls) (hl32 : ∀ l ∈ ls, l < 4294967296) (hb : 3 * ns.length + ls.length ≤ 1048576) :
    ∃ vars FE FP cn E, ((∀ c ∈ FE, c.length ≤ 3) ∧ (∀ c ∈ FP, c.length ≤ 3) ∧ FE.length ≤ 1048576 ∧ FP.length ≤ 1048576 ∧ cn.length ≤ 1048576) ∧ ∀ W, Below w.heap.size w W → FOUR W Rg Rr aO cO aR cR ls.length vars FE FP cn E := by
  by_cases hg : ∀ l ∈ ls, l / 2 ≤ ns.length
  · have h1 : (coneS ns ls).2.length ≤ 1048576 := by have := cone_few hgs hg; omega
    have h2 : (clsE ns ls).length ≤ 1048576 := by have h5 : (clsE ns ls).length ≤ _ := cls_few hgs hg allM; omega
    have h3 : (clsP ns ls).length ≤ 1048576 := by have h5 : (clsP ns ls).length ≤ _ := cls_few hgs hg _; omega
    have h4 : clsP ns ls = clsW ns ls := clsP_eq hgs hg
    refine ⟨((coneS ns ls).2.length : Int), clsE ns ls, clsP ns ls, (coneS ns ls).2, 0, ⟨cls_len3, cls_len3, h2, h3, h1⟩, fun W hW => ⟨?_, ?_, ?_, ?_⟩⟩
    · refine (enc_tt (ht.over hW) hgs aO ls cO (hO.below hW) hg (by omega) (by omega) h1 h2).mono ?_
      rintro e w' ⟨a1, a2, a3, a4, e1, e2, _⟩
      exact ⟨a1, a2, a3, a4, e1, e2.ql, e2.cone, e2.bel⟩
    · obtain ⟨vR, hr⟩ := (ht.over hW).r
      refine (rEncode_ok W hr hgs (by omega) aR ls cR (hR.below hW) hg (by omega) h1 h2).mono ?_
      rintro e w' ⟨a1, a2, a3, a4, e1, e2⟩
      exact ⟨a1, a2, a3, a4, e1, e2.ql, e2.cone, e2.bel⟩
    · refine (pol_tt (ht.over hW) hgs aO ls cO (hO.below hW) hg (by omega) (by omega) h1 h3).mono ?_
      rintro e w' ⟨a1, a2, a3, a4, e1, e2, _⟩
      exact ⟨a1, a2, a3, a4, e1, e2.ql, e2.cone, e2.bel⟩
    · obtain ⟨vR, hr⟩ := (ht.over hW).r
      rw [h4]
      refine (rPolar_ok W hr hgs (by omega) aR ls cR (hR.below hW) hg (by omega) h1 (by rw [← h4]; exact h3)).mono ?_
      rintro e w' ⟨a1, a2, a3, a4, e1, e2⟩
      exact ⟨a1, a2, a3, a4, e1, e2.ql, e2.cone, e2.bel⟩
  · refine ⟨0, [], [], [], 100, ⟨(fun c h => by cases h), (fun c h => by cases h), by simp, by simp, by simp⟩, fun W hW => ?_⟩
    obtain ⟨nb, vb, vg, M, D, hG, _⟩ := (ht.over hW).g
    obtain ⟨vR, hr⟩ := (ht.over hW).r
    have hRe : ∀ X, Below W.heap.size W X → Calls Try.prog 48 #[.pointer (some ⟨Rg, 0, none⟩), .slice aO ls.length cO] X fun e w' => e = .returned (.int .i64 100) ∧ Below X.heap.size X w' := fun X hX => refusal_no X (hG.over hX) aO ls cO ((hO.below hW).below hX) hl32 hg (by omega)
    exact ⟨(Encode_e W _ aO ls.length cO 100 (by decide) hRe).mono fun e w' h => out_no W e w' h, (rEncode_no W hr (by omega) aR ls cR (hR.below hW) hl32 hg (by omega)).mono fun e w' h => out_no W e w' h, (Polar_e W _ aO ls.length cO 100 (by decide) hRe).mono fun e w' h => out_no W e w' h, (rPolar_no W hr (by omega) aR ls cR (hR.below hW) hl32 hg (by omega)).mono fun e w' h => out_no W e w' h⟩
/-- a row that is copied behind an empty one -/
theorem wpList_copy {ops : Array Oper} {rest : List Oper} {o : Oper} {a : Act} {Q : Exit → Act → World → Prop} (hgd : o.guard = none) (s x : Operand)
    (ho : o.op = .call { callee := .builtin .append, args := #[s, x], argTypes := #[24, 24] }) (W : World) (b : Nat) (hb : W.heap[b]? = some (.cells #[] 42 (0, 0))) (hs : a.eval s = .slice (some ⟨b, 0, none⟩) 0 0) (aR : Option Addr) (ls : List Nat) (n cR : Nat) (hn : ls.length = n) (hx : a.eval x = .slice aR n cR) (hU : U32s W aR ls) (hnb : n ≤ 1048576)
    (h : ∀ aO cO W', U32s W' aO ls → Below b W W' → wpList Try.prog ops Q rest (a.put o.dst (.slice aO n cO)) W') : wpList Try.prog ops Q (o :: rest) a W := by
  obtain ⟨i0, hi, hz0, hz1, hz2⟩ := info_parts (P := Try.prog) (e := 42) (z := .int .u32 0) (size := 1) (bytes := 4) (by kernel_rfl)
  have hbl := (Array.getElem?_eq_some_iff.1 hb).1
  rcases Nat.eq_zero_or_pos n with e0 | hm0
  · subst e0
    exact wpList_anilE hgd s x ho W (some ⟨b, 0, none⟩) 0 0 (Nat.le_refl _) hs aR cR hx (h _ _ W (fun h0 => absurd h0 (by omega)) (Below.refl _ _))
  · obtain ⟨b2, off, rfl, hb2, hcc⟩ := hU (by omega)
    refine wpList_append_lies _ hgd s x 24 ho b 42 i0 (.int .u32 0) 1 4 Try.underlying24 hi hz0 hz1 hz2 rfl (by decide) (.slice (some ⟨b, 0, none⟩) 0 0) 0 [] hs ⟨rfl, Or.inr ⟨b, 0, #[], rfl, Nat.le_refl _, hb, Nat.le_refl _, by unfold maxLen; omega, by simp, rfl⟩⟩ ⟨b2, off, none⟩ n cR (u32V ls) hx (by rw [u32V_len, hn, Nat.mul_one]) (u32s_at hcc) (u32V_one ls) hm0 (by unfold maxLen; omega) (by omega) (by omega) W.heap.size rfl ?_
    intro g cap W' hown hg _ _
    rw [Nat.zero_add] at hown
    rw [List.nil_append] at hown
    have hU2 := u32s_of hown
    rw [Nat.zero_add]
    refine h _ _ W' hU2 ⟨hg.os, hg.tape, hg.output, by have := hg.size; omega, fun j hj => hg.block j (by omega) (fun e => by have e2 : some j = some b := e; have e3 := Option.some.inj e2; omega)⟩
end Go.Proofs.Ytkomadlmonhlhaa
