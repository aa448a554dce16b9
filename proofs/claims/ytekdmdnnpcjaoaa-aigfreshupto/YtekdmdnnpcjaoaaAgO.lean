import Derived.Test.YtekdmdnnpcjaoaaAgZf
namespace Go.Proofs.Ytekdmdnnpcjaoaa
open Go.ChangeShapes Go.WideShapes Go.ChangeAt Go.RowKit Go.Lib Go.Ag Go.WideMaps Go.Maps Go.ChangeMaps Go.Cn

def Wds (w : World) (ad : Option Addr) (bs : List Nat) : Prop := 0 < bs.length → ∃ b off, ad = some ⟨b, off, none⟩ ∧ b < w.heap.size ∧ ∀ j, j < bs.length → w.cell? ⟨b, off + j, none⟩ = some (.int .u64 ((bs.getD j 0 : Nat) : Int))
theorem Wds.below {w w' : World} {ad : Option Addr} {bs : List Nat} (h : Wds w ad bs) (hb : Below w.heap.size w w') : Wds w' ad bs := fun h0 => by
  obtain ⟨b, off, e, hlt, hc⟩ := h h0
  exact ⟨b, off, e, Nat.lt_of_lt_of_le hlt hb.size, fun j hj => (World.cell?_of_block (a := ⟨b, off + j, none⟩) (hb.block b hlt)).trans (hc j hj)⟩
theorem wds_of {w : World} {B n : Nat} {ad : Option Addr} {cp : Nat} {ls : List Nat} (h : w.ownsRow B 43 1 (.slice ad n cp) n (wrdV ls)) : Wds w ad ls := fun h0 => by
  have hn : ls.length = n := by have := h.1; unfold wrdV at this; rw [List.length_map] at this; omega
  obtain ⟨a2, c2, e, _, h3⟩ := row_form h
  cases e
  obtain ⟨g, rfl⟩ := h3 (by omega)
  refine ⟨g, 0, rfl, (h.lt g rfl).2, fun j hj => ?_⟩
  rw [Nat.zero_add, h.cellAt j (by omega)]
  unfold wrdV
  rw [List.getElem?_map, List.getD_eq_getElem?_getD, List.getElem?_eq_getElem hj]
  rfl
theorem cfSim (args : Array Value) (W : World) : (callFunc 29 args).run Try.prog W = .ok (.enter 29 args) W := cf_of Try.func29 (by kernel_rfl) (by kernel_rfl) args W
set_option maxHeartbeats 2000000 in
theorem sim_any (w : World) (I : Nat) (ad : Option Addr) (bs : List Nat) (cp : Nat) (hI : w.heap[I]? = some (.cells #[.slice ad bs.length cp] 31 (0, 0))) (hb : Wds w ad bs) (i : Nat) (hi : i < bs.length) (h32 : i < 4294967296) :
    Calls Try.prog 29 #[.int .u32 (i : Int), .pointer (some ⟨I, 0, none⟩)] w fun e w' => e = .returned (.int .u64 ((bs.getD i 0 : Nat) : Int)) ∧ w' = w := by
  have c0 : w.cell? ⟨I, 0, none⟩ = some (.slice ad bs.length cp) := ag_cell hI 0
  have hIl : I < w.heap.size := (Array.getElem?_eq_some_iff.1 hI).1
  obtain ⟨b, off, rfl, hbl, hc⟩ := hb (by omega)
  have ci := hc i hi
  clear hc hI
  have q1 : (i : Int) < (bs.length : Int) := by omega
  generalize bs.length = n at *
  generalize bs.getD i 0 = x at *
  go_enter Try.func29, Try.ntmps29
  go_wp2_with fail
  first | exact ⟨rfl, rfl⟩ | (go_ret; exact ⟨rfl, rfl⟩)
/-- what Sim answers -/
def simW (ns : Nds) (ws : List Nat) (ls : List Nat) : List Nat := ls.map (wordN (valW ns (fun i => ws.getD i 0) (coneS ns ls).2))
set_option maxHeartbeats 4000000 in
theorem Sim_ok (w : World) {B R : Nat} {ns : Nds} {nb : Nat} {vb vg : Value} {M : Option Nat} {D : DataW Unit} (h : GM w B R ns nb vb vg M D) (ai : Option Addr) (bs : List Nat) (ci : Nat) (hbs : Wds w ai bs) (h64 : ∀ i, bs.getD i 0 < 18446744073709551616) (hbl : bs.length = inN ns) (ad : Option Addr) (ls : List Nat) (cp : Nat) (hl : U32s w ad ls) (h32 : ∀ l ∈ ls, l < 4294967296) (hbd : ∀ l ∈ ls, l / 2 ≤ ns.length) (hn : ls.length ≤ 1000000000000) :
    Calls Try.prog 11 #[.pointer (some ⟨R, 0, none⟩), .slice ai bs.length ci, .slice ad ls.length cp] w fun e w' => ∃ v, e = .returned (.tuple #[v, .int .i64 0]) ∧ Below w.heap.size w w' ∧ w'.ownsRow w.heap.size 43 1 v ls.length (wrdV (simW ns bs ls)) := by
  obtain ⟨wb, hwb⟩ : ∃ wb, w.alloc (.cells #[.slice ai bs.length ci] 31) = wb := ⟨_, rfl⟩
  have hbb : Below w.heap.size w wb := by rw [← hwb]; exact ag_bel1 _ _
  have hIb : wb.heap[w.heap.size]? = some (.cells #[.slice ai bs.length ci] 31 (0, 0)) := by rw [← hwb]; exact heap_alloc_new _ _
  have c0 : wb.cell? ⟨w.heap.size, 0, none⟩ = some (.slice ai bs.length ci) := ag_cell hIb 0
  have hin : inN ns ≤ 1073741823 := Nat.le_trans (Nat.sub_le _ _) h.len
  have HR : Hid (Calls Try.prog 26 #[.pointer (some ⟨R, 0, none⟩), .int .i64 (bs.length : Int), .slice ad ls.length cp] wb fun e w' => e = .returned (.int .i64 0) ∧ Below wb.heap.size wb w') := by
    rw [hbl]; exact refusalOf_ok wb (h.over hbb) ad ls cp (hl.below hbb) h32 hbd hn
  have HW : Hid (∀ W, Below wb.heap.size wb W → Calls Try.prog 27 #[.pointer (some ⟨R, 0, none⟩), .slice ad ls.length cp, .func (.func 29) #[] #[.pointer (some ⟨w.heap.size, 0, none⟩)]] W fun e w' => ∃ v, e = .returned v ∧ Below W.heap.size W w' ∧ w'.ownsRow W.heap.size 43 1 v ls.length (wrdV (simW ns bs ls))) := fun W hW =>
    words_any 29 cfSim W ((h.over hbb).over hW) ad ls cp ((hl.below hbb).below hW) h32 hbd hn w.heap.size (fun i => bs.getD i 0) h64 (fun W2 hW2 i hi hi2 => sim_any W2 w.heap.size ai bs ci (((ag_next hW hW2).block _ (Array.getElem?_eq_some_iff.1 hIb).1).trans hIb) (((hbs.below hbb).below hW).below hW2) i (by rw [hbl]; exact hi) hi2)
  generalize hPP : (fun (e : Ending) (w' : World) => ∃ v, e = .returned (.tuple #[v, .int .i64 0]) ∧ Below w.heap.size w w' ∧ w'.ownsRow w.heap.size 43 1 v ls.length (wrdV (simW ns bs ls))) = PP
  have HPP : Hid (∀ v w', Below w.heap.size w w' → w'.ownsRow w.heap.size 43 1 v ls.length (wrdV (simW ns bs ls)) → PP (.returned (.tuple #[v, .int .i64 0])) w') := fun v w' h1 h2 => by rw [← hPP]; exact ⟨v, rfl, h1, h2⟩
  clear hPP h hbs hl h32 hbd h64
  generalize hbn : bs.length = bn at *
  have hbn2 : bn ≤ 1073741823 := by omega
  have hsz0 : wb.heap.size = w.heap.size + 1 := by rw [← hwb]; simp
  clear hbn hbl hin
  have hmf : ∀ (fn : Fn) (first cap : Array Value) (w : World), (Instr.makeFunc fn first cap).run Try.prog w = .ok (.func fn first cap) w := fun _ _ _ _ => rfl
  go_enter Try.func11, Try.ntmps11
  go_wp2_with fail
  refine HR.out.mono ?_
  rintro e w1 ⟨rfl, hb1⟩
  go_wp2_with fail
  refine (HW.out w1 hb1).mono ?_
  rintro e w2 ⟨vW, rfl, hb2, hr2⟩
  have HZ : Hid (PP (.returned (.tuple #[vW, .int .i64 0])) w2) := HPP.out vW w2 (ag_next hbb (ag_next hb1 hb2)) (row_low hr2 (by have := hb1.size; omega))
  clear hb1 hr2 hb2
  go_wp2_with fail
  first | exact HZ.out | (go_ret2; exact HZ.out)
/-- a row of words, seen at one bit -/
theorem wordN_bit (f g : Nat → Nat) (t : Nat) (ht : t < 64) (h : ∀ i, (f i).testBit t = (g i).testBit 0) (l : Nat) : (wordN f l).testBit t = (wordN g l).testBit 0 := by
  unfold wordN
  rw [Nat.testBit_xor, Nat.testBit_xor, h]
  congr 1
  split
  · rw [show (18446744073709551615 : Nat) = 2 ^ 64 - 1 from rfl, Nat.testBit_two_pow_sub_one, Nat.testBit_two_pow_sub_one]
    simp [ht]
  · simp
theorem valW_bit (ns : Nds) (p q : Nat → Nat) (t : Nat) (ht : t < 64) (h : ∀ i, (p i).testBit t = (q i).testBit 0) (cn : List Nat) : ∀ i, (valW ns p cn i).testBit t = (valW ns q cn i).testBit 0 := by
  have key : ∀ (cn : List Nat) (f g : Nat → Nat), (∀ i, (f i).testBit t = (g i).testBit 0) → ∀ i, (cn.foldl (valStep ns p) f i).testBit t = (cn.foldl (valStep ns q) g i).testBit 0 := by
    intro cn
    induction cn with
    | nil => intro f g hf; exact hf
    | cons x cn ih =>
      intro f g hf
      refine ih _ _ (fun i => ?_)
      unfold valStep updN
      by_cases e : i = x
      · rw [if_pos e, if_pos e]
        split
        · exact h _
        · rw [Nat.testBit_and, Nat.testBit_and, wordN_bit f g t ht hf, wordN_bit f g t ht hf]
      · rw [if_neg e, if_neg e]
        exact hf i
  exact key cn _ _ (fun i => by simp)
/-- Sim at a bit is Eval of the bits -/
theorem sim_eval (ns : Nds) (ws : List Nat) (bs : List Bool) (ls : List Nat) (t : Nat) (ht : t < 64) (h : ∀ i, (ws.getD i 0).testBit t = bs.getD i false) (j : Nat) : ((simW ns ws ls).getD j 0).testBit t = (evalB ns bs ls).getD j false := by
  unfold simW evalB
  rw [List.getD_eq_getElem?_getD, List.getD_eq_getElem?_getD, List.getElem?_map, List.getElem?_map]
  cases ls[j]? with
  | none => simp
  | some l =>
    show (wordN _ l).testBit t = (wordN _ l % 2 == 1)
    rw [wordN_bit _ (valW ns (inpB bs) (coneS ns ls).2) t ht (valW_bit ns _ _ t ht (fun i => by
      rw [h i]
      unfold inpB
      cases bs.getD i false <;> rfl) _)]
    rw [Nat.testBit_zero]
    rcases Nat.mod_two_eq_zero_or_one (wordN (valW ns (inpB bs) (coneS ns ls).2) l) with e | e <;> rw [e] <;> rfl
end Go.Proofs.Ytekdmdnnpcjaoaa
