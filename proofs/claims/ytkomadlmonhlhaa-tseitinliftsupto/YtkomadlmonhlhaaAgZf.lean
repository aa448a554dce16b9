import Derived.Test.YtkomadlmonhlhaaAgZb
namespace Go.Proofs.Ytkomadlmonhlhaa
open Go.ChangeShapes Go.WideShapes Go.ChangeAt Go.RowKit Go.Lib Go.Ag Go.WideMaps Go.Maps Go.ChangeMaps Go.Cn

theorem refE_ok {m : Nat} : ∀ {ls : List Nat}, (∀ l ∈ ls, l / 2 ≤ m) → refE m ls = 0
  | [], _ => rfl
  | l :: ls, h => by
    unfold refE
    rw [if_neg (by have := h l (by simp); omega)]
    exact refE_ok fun x hx => h x (by simp [hx])
theorem refusal_ok (w : World) {B R : Nat} {ns : Nds} {nb : Nat} {vb vg : Value} {M : Option Nat} {D : DataW Unit} (h : GM w B R ns nb vb vg M D) (ad : Option Addr) (ls : List Nat) (cp : Nat) (hl : U32s w ad ls) (h32 : ∀ l ∈ ls, l < 4294967296) (hbd : ∀ l ∈ ls, l / 2 ≤ ns.length) (hn : ls.length ≤ 1000000000000) :
    Calls Try.prog 48 #[.pointer (some ⟨R, 0, none⟩), .slice ad ls.length cp] w fun e w' => e = .returned (.int .i64 0) ∧ Below w.heap.size w w' :=
  (refusal_any w R ns.length (ag_cell h.blk 0) ad ls cp hl h32 hn).mono (by
    rintro e w' ⟨rfl, d, rfl⟩
    rw [refE_ok hbd]
    exact ⟨rfl, rfl, rfl, rfl, Nat.le_refl _, fun _ _ => rfl⟩)
set_option maxHeartbeats 2000000 in
theorem Cone_ok (w : World) {B R : Nat} {ns : Nds} {nb : Nat} {vb vg : Value} {M : Option Nat} {D : DataW Unit} (h : GM w B R ns nb vb vg M D) (ad : Option Addr) (ls : List Nat) (cp : Nat) (hl : U32s w ad ls) (h32 : ∀ l ∈ ls, l < 4294967296) (hbd : ∀ l ∈ ls, l / 2 ≤ ns.length) (hn : ls.length ≤ 1000000000000) :
    Calls Try.prog 43 #[.pointer (some ⟨R, 0, none⟩), .slice ad ls.length cp] w fun e w' => ∃ vC, e = .returned (.tuple #[vC, .int .i64 0]) ∧ Below w.heap.size w w' ∧ w'.ownsRow w.heap.size 3 1 vC (coneS ns ls).2.length (natV (coneS ns ls).2) := by
  have HR : Hid (Calls Try.prog 48 #[.pointer (some ⟨R, 0, none⟩), .slice ad ls.length cp] w fun e w' => e = .returned (.int .i64 0) ∧ Below w.heap.size w w') := refusal_ok w h ad ls cp hl h32 hbd hn
  have HC : Hid (∀ W, Below w.heap.size w W → Calls Try.prog 69 #[.pointer (some ⟨R, 0, none⟩), .slice ad ls.length cp] W fun e w' => ∃ vC, e = .returned vC ∧ Below W.heap.size W w' ∧ w'.ownsRow W.heap.size 3 1 vC (coneS ns ls).2.length (natV (coneS ns ls).2)) := fun W hW => cone_any W (h.over hW) ad ls cp (hl.below hW) h32 hbd hn
  clear h hl h32 hbd
  generalize hPP : (fun (e : Ending) (w' : World) => ∃ vC, e = .returned (.tuple #[vC, .int .i64 0]) ∧ Below w.heap.size w w' ∧ w'.ownsRow w.heap.size 3 1 vC (coneS ns ls).2.length (natV (coneS ns ls).2)) = PP
  go_enter Try.func43, Try.ntmps43
  go_wp2_with fail
  refine HR.out.mono ?_
  rintro e w1 ⟨rfl, hb1⟩
  go_wp2_with fail
  refine (HC.out w1 hb1).mono ?_
  rintro e w2 ⟨vC, rfl, hb2, hr2⟩
  have HK : Hid (PP (.returned (.tuple #[vC, .int .i64 0])) w2) := by
    rw [← hPP]
    exact ⟨vC, rfl, ag_next hb1 hb2, row_low hr2 hb1.size⟩
  clear hb1 hb2 hr2
  go_wp2_with fail
  first | exact HK.out | (go_ret2; exact HK.out)
set_option maxHeartbeats 2000000 in
theorem Inputs_any (w : World) {B R : Nat} {ns : Nds} {nb : Nat} {vb vg : Value} {M : Option Nat} {D : DataW Unit} (h : GM w B R ns nb vb vg M D) :
    Calls Try.prog 37 #[.pointer (some ⟨R, 0, none⟩)] w fun e w' => e = .returned (.int .i64 (inN ns : Int)) ∧ ∃ d, w' = w.drewN d := by
  obtain ⟨aG, cG, hv, hc, _⟩ := row_form h.rg
  have c0 : w.cell? ⟨R, 0, none⟩ = some (.int .i64 (ns.length : Int)) := ag_cell h.blk 0
  have c2 : w.cell? ⟨R, 2, none⟩ = some (.slice aG (gatesL ns).length cG) := by rw [← hv]; exact ag_cell h.blk 2
  have h1 := gatesL_le ns
  have h2 := h.len
  have h3 : inN ns = ns.length - (gatesL ns).length := rfl
  clear h hv
  generalize (gatesL ns).length = gl at *
  generalize hnl : ns.length = nl at *
  generalize inN ns = x at *
  have q1 : (nl : Int) - (gl : Int) = (x : Int) := by omega
  go_enter Try.func37, Try.ntmps37
  have q2 : IntKind.i64.wrap ((nl : Int) - (gl : Int)) = (x : Int) := by rw [q1, IntKind.wrap_i64]; omega
  clear h3
  go_wp2_with fail
  go_quiet (fail)
  go_wp2_with fail
  first | exact ⟨rfl, _, rfl⟩ | (go_ret; exact ⟨rfl, _, rfl⟩)
theorem drw_bel (w : World) (d : Nat) : Below w.heap.size w (w.drewN d) := ⟨rfl, rfl, rfl, Nat.le_refl _, fun _ _ => rfl⟩
set_option maxHeartbeats 2000000 in
theorem refusalOf_ok (w : World) {B R : Nat} {ns : Nds} {nb : Nat} {vb vg : Value} {M : Option Nat} {D : DataW Unit} (h : GM w B R ns nb vb vg M D) (ad : Option Addr) (ls : List Nat) (cp : Nat) (hl : U32s w ad ls) (h32 : ∀ l ∈ ls, l < 4294967296) (hbd : ∀ l ∈ ls, l / 2 ≤ ns.length) (hn : ls.length ≤ 1000000000000) :
    Calls Try.prog 70 #[.pointer (some ⟨R, 0, none⟩), .int .i64 (inN ns : Int), .slice ad ls.length cp] w fun e w' => e = .returned (.int .i64 0) ∧ Below w.heap.size w w' := by
  have HR : Hid (Calls Try.prog 48 #[.pointer (some ⟨R, 0, none⟩), .slice ad ls.length cp] w fun e w' => e = .returned (.int .i64 0) ∧ Below w.heap.size w w') := refusal_ok w h ad ls cp hl h32 hbd hn
  have HI : Hid (∀ W, Below w.heap.size w W → Calls Try.prog 37 #[.pointer (some ⟨R, 0, none⟩)] W fun e w' => e = .returned (.int .i64 (inN ns : Int)) ∧ Below w.heap.size w w') := fun W hW => (Inputs_any W (h.over hW)).mono (by
    rintro e w' ⟨rfl, d, rfl⟩
    exact ⟨rfl, ag_next hW (drw_bel _ _)⟩)
  clear h hl h32 hbd
  generalize inN ns = x at *
  go_enter Try.func70, Try.ntmps70
  go_wp2_with fail
  refine HR.out.mono ?_
  rintro e w1 ⟨rfl, hb1⟩
  go_wp2_with fail
  refine (HI.out w1 hb1).mono ?_
  rintro e w2 ⟨rfl, hb2⟩
  go_wp2_with fail
  first | exact ⟨rfl, hb2⟩ | (go_ret; exact ⟨rfl, hb2⟩)
theorem valW_lt {ns : Nds} {inp : Nat → Nat} (hi : ∀ i, inp i < 18446744073709551616) (cn : List Nat) : ∀ i, valW ns inp cn i < 18446744073709551616 := by
  have key : ∀ (cn : List Nat) (f : Nat → Nat), (∀ i, f i < 18446744073709551616) → ∀ i, cn.foldl (valStep ns inp) f i < 18446744073709551616 := by
    intro cn
    induction cn with
    | nil => intro f hf; exact hf
    | cons x cn ih =>
      intro f hf
      refine ih _ (fun i => ?_)
      unfold valStep updN
      split
      · split
        · exact hi _
        · exact Nat.lt_of_le_of_lt Nat.and_le_left (wordN_lt hf _)
      · exact hf i
  exact key cn _ (fun _ => by decide)
def blV (l : List Bool) : List Value := l.map fun b => Value.bool b
def inpB (bs : List Bool) (i : Nat) : Nat := if bs.getD i false then 1 else 0
/-- what Eval answers -/
def evalB (ns : Nds) (bs : List Bool) (ls : List Nat) : List Bool := ls.map fun l => wordN (valW ns (inpB bs) (coneS ns ls).2) l % 2 == 1
theorem and1_u64 (x : Nat) (h : x < 18446744073709551616) : bits .and .u64 (x : Int) 1 = ((x % 2 : Nat) : Int) := by
  have h1 := and_u64 x 1 h (by omega)
  rw [Nat.and_one_is_mod] at h1
  exact h1
set_option maxHeartbeats 4000000 in
theorem Eval_ok (w : World) {B R : Nat} {ns : Nds} {nb : Nat} {vb vg : Value} {M : Option Nat} {D : DataW Unit} (h : GM w B R ns nb vb vg M D) (ai : Option Addr) (bs : List Bool) (ci : Nat) (hbs : Bls w ai bs) (hbl : bs.length = inN ns) (ad : Option Addr) (ls : List Nat) (cp : Nat) (hl : U32s w ad ls) (h32 : ∀ l ∈ ls, l < 4294967296) (hbd : ∀ l ∈ ls, l / 2 ≤ ns.length) (hn : ls.length ≤ 1000000000000) :
    Calls Try.prog 44 #[.pointer (some ⟨R, 0, none⟩), .slice ai bs.length ci, .slice ad ls.length cp] w fun e w' => ∃ v, e = .returned (.tuple #[v, .int .i64 0]) ∧ Below w.heap.size w w' ∧ w'.ownsRow w.heap.size 4 1 v ls.length (blV (evalB ns bs ls)) := by
  obtain ⟨wb, hwb⟩ : ∃ wb, w.alloc (.cells #[.slice ai bs.length ci] 49) = wb := ⟨_, rfl⟩
  have hbb : Below w.heap.size w wb := by rw [← hwb]; exact ag_bel1 _ _
  have hIb : wb.heap[w.heap.size]? = some (.cells #[.slice ai bs.length ci] 49 (0, 0)) := by rw [← hwb]; exact heap_alloc_new _ _
  have c0 : wb.cell? ⟨w.heap.size, 0, none⟩ = some (.slice ai bs.length ci) := ag_cell hIb 0
  have hin : inN ns ≤ 1073741823 := Nat.le_trans (Nat.sub_le _ _) h.len
  have HR : Hid (Calls Try.prog 70 #[.pointer (some ⟨R, 0, none⟩), .int .i64 (bs.length : Int), .slice ad ls.length cp] wb fun e w' => e = .returned (.int .i64 0) ∧ Below wb.heap.size wb w') := by
    rw [hbl]; exact refusalOf_ok wb (h.over hbb) ad ls cp (hl.below hbb) h32 hbd hn
  have HW : Hid (∀ W, Below wb.heap.size wb W → Calls Try.prog 71 #[.pointer (some ⟨R, 0, none⟩), .slice ad ls.length cp, .func (.func 72) #[] #[.pointer (some ⟨w.heap.size, 0, none⟩)]] W fun e w' => ∃ v, e = .returned v ∧ Below W.heap.size W w' ∧ w'.ownsRow W.heap.size 120 1 v ls.length (wrdV (ls.map (wordN (valW ns (inpB bs) (coneS ns ls).2))))) := fun W hW =>
    words_any 72 cfInp W ((h.over hbb).over hW) ad ls cp ((hl.below hbb).below hW) h32 hbd hn w.heap.size (inpB bs) (fun i => by unfold inpB; split <;> decide) (fun W2 hW2 i hi hi2 => inp_any W2 w.heap.size ai bs ci (((ag_next hW hW2).block _ (Array.getElem?_eq_some_iff.1 hIb).1).trans hIb) (((hbs.below hbb).below hW).below hW2) i (by rw [hbl]; exact hi) hi2)
  have hf : ∀ l, wordN (valW ns (inpB bs) (coneS ns ls).2) l < 18446744073709551616 := wordN_lt (valW_lt (fun i => by unfold inpB; split <;> decide) _)
  have hev : evalB ns bs ls = ls.map fun l => wordN (valW ns (inpB bs) (coneS ns ls).2) l % 2 == 1 := rfl
  generalize hPP : (fun (e : Ending) (w' : World) => ∃ v, e = .returned (.tuple #[v, .int .i64 0]) ∧ Below w.heap.size w w' ∧ w'.ownsRow w.heap.size 4 1 v ls.length (blV (evalB ns bs ls))) = PP
  have HPP : Hid (∀ v w', Below w.heap.size w w' → w'.ownsRow w.heap.size 4 1 v ls.length (blV (evalB ns bs ls)) → PP (.returned (.tuple #[v, .int .i64 0])) w') := fun v w' h1 h2 => by rw [← hPP]; exact ⟨v, rfl, h1, h2⟩
  rw [hev] at HPP
  clear hPP hev h hbs hl h32 hbd
  obtain ⟨g, hg⟩ : ∃ g : Nat → Nat, wordN (valW ns (inpB bs) (coneS ns ls).2) = g := ⟨_, rfl⟩
  rw [hg] at HW hf HPP
  have hsz0 : wb.heap.size = w.heap.size + 1 := by rw [← hwb]; simp
  generalize hbn : bs.length = bn at *
  have hbn2 : bn ≤ 1073741823 := by omega
  generalize hnn : ls.length = n at *
  have HL : Aside (ls.length = n) := hnn
  have HF : Aside (∀ l, g l < 18446744073709551616) := hf
  clear hg hnn hf hbn hbl hin
  go_enter Try.func44, Try.ntmps44
  have hmf : ∀ (fn : Fn) (first cap : Array Value) (w : World), (Instr.makeFunc fn first cap).run Try.prog w = .ok (.func fn first cap) w := fun _ _ _ _ => rfl
  obtain ⟨i1, hi1, hz1, hs1, hb1⟩ := info_parts (P := Try.prog) (e := 4) (z := .bool false) (size := 1) (bytes := 1) (by kernel_rfl)
  have eM : ∀ W : World, (Instr.makeSlice 49 (.int .i64 (n : Int)) (.int .i64 (n : Int))).run Try.prog W = .ok (.slice (some ⟨W.heap.size, 0, none⟩) n n) (W.alloc (.cells (madeCells (Value.bool false).cells (n * 1)) 4)) := fun W => by
    have := run_make (P := Try.prog) (w := W) 49 4 i1 (.bool false) Try.underlying49 hi1 hz1 .i64 .i64 (n : Int) (n : Int) (by omega) (by omega) (by rw [hb1]; omega) (by omega)
    rw [this, hs1, show ((n : Int)).toNat = n by omega]
  have HSz : Hid ((madeCells (Value.bool false).cells (n * 1)).size = n) := by show _ = _; rw [size_madeCells]; omega
  clear hi1 hz1 hs1 hb1
  generalize madeCells (Value.bool false).cells (n * 1) = A at *
  go_wp2_with fail
  refine HR.out.mono ?_
  rintro e w1 ⟨rfl, hb1⟩
  go_wp2_with fail
  refine (HW.out w1 hb1).mono ?_
  rintro e w2 ⟨vW, rfl, hb2, hr2⟩
  obtain ⟨aW, cW, rfl, hcW, haW⟩ := row_form hr2
  obtain ⟨H0, hH0⟩ : ∃ H, w.heap.size = H := ⟨_, rfl⟩
  have HB2 : Hid (Below H0 w w2 ∧ H0 ≤ w2.heap.size) := by
    rw [← hH0]
    have h7 := ag_next hbb (ag_next hb1 hb2)
    exact ⟨h7, h7.size⟩
  have HR2 : Hid (w2.ownsRow H0 120 1 (.slice aW n cW) n (wrdV (ls.map g))) := row_low hr2 (by rw [← hH0]; have := hb1.size; omega)
  rw [hH0] at HPP
  clear hb1 hr2 hb2 HW HR hwb hbb hIb c0 hsz0
  go_wp2_with fail
  obtain ⟨O, hO⟩ : ∃ O, w2.heap.size = O := ⟨_, rfl⟩
  have HO0 : Hid ((w2.alloc (.cells A 4)).heap[O]? = some (.cells A 4 (0, 0)) ∧ Below w2.heap.size w2 (w2.alloc (.cells A 4))) := ⟨by rw [← hO]; exact heap_alloc_new _ _, ag_bel1 _ _⟩
  rw [hO]
  generalize w2.alloc (.cells A 4) = wo at *
  go_loopg [30] n (fun gk v30 wr => ∃ j A', v30 = .int .i64 ((j : Nat) : Int) ∧ j + gk = n ∧ Aside (wr.heap[O]? = some (.cells A' 4 (0, 0))) ∧ Aside (A'.size = n) ∧ Aside (∀ i, i < j → A'[i]? = some (.bool (g (ls.getD i 0) % 2 == 1))) ∧ Aside (Below w2.heap.size w2 wr))
  case atStart => exact ⟨0, A, rfl, by omega, HO0.out.1, HSz.out, fun i hi => by omega, HO0.out.2⟩
  case round =>
    clear HO0 HSz
    obtain ⟨j, A', rfl, hj, HA, HSz, HAt, HB⟩ := hrel
    have hOl : O < wr.heap.size := (Array.getElem?_eq_some_iff.1 HA.out).1
    by_cases hlt : j < n
    · have q2 : (j : Int) < (n : Int) := by omega
      obtain ⟨gW, rfl⟩ := haW (by omega)
      have ck : wr.cell? ⟨gW, j, none⟩ = some (.int .u64 ((g (ls.getD j 0) : Nat) : Int)) := by
        have h7 : wr.ownsRow H0 120 1 (.slice (some ⟨gW, 0, none⟩) n cW) n (wrdV (ls.map g)) := ag_same HR2.out (fun k hk => HB.out.block k (HR2.out.lt k hk).2)
        rw [h7.cellAt j (by omega)]
        unfold wrdV
        rw [List.getElem?_map, List.getElem?_map, List.getD_eq_getElem?_getD, List.getElem?_eq_getElem (by rw [HL.out]; exact hlt)]
        rfl
      have hx := HF.out (ls.getD j 0)
      have hand := and1_u64 _ hx
      have HAt2 : Hid (∀ i, i < j + 1 → (A'.setIfInBounds j (.bool (g (ls.getD j 0) % 2 == 1)))[i]? = some (.bool (g (ls.getD i 0) % 2 == 1))) := fun i hi => by
        by_cases e : i = j
        · subst e
          rw [Array.getElem?_setIfInBounds_self_of_lt (by rw [HSz.out]; exact hlt)]
        · rw [Array.getElem?_setIfInBounds_ne (fun e2 => e e2.symm)]
          exact HAt.out i (by omega)
      have k9 : wr.cell? ⟨O, j, none⟩ = some (A'[j]'(by rw [HSz.out]; exact hlt)) := by rw [ag_cell HA.out j, Array.getElem?_eq_getElem]
      have f9 : wr.frozen? ⟨O, j, none⟩ = false := ag_fz HA.out j
      clear HAt
      generalize g (ls.getD j 0) = xv at *
      have q5 : (((xv % 2 : Nat) : Int) == 1) = (xv % 2 == 1) := by
        rcases Nat.mod_two_eq_zero_or_one xv with e | e <;> rw [e] <;> rfl
      generalize xv % 2 = x2 at *
      go_wp2_with fail
      go_roundg (n - (j + 1))
      case measure => omega
      case rel => exact ⟨j + 1, _, by simp, by omega, heap_setCell_same _ O j _ _ _ HA.out, by show _ = _; rw [Array.size_setIfInBounds]; exact HSz.out, HAt2.out, by rw [← hO]; exact bel_set HB.out j _⟩
    · obtain rfl : j = n := by omega
      have q2 : ¬ (j : Int) < (j : Int) := by omega
      have HZ : Hid (PP (.returned (.tuple #[.slice (some ⟨O, 0, none⟩) j j, .int .i64 0])) wr) := HPP.out _ wr (HB2.out.1.trans (HB.out.mono HB2.out.2)) ⟨by unfold blV; rw [List.length_map, List.length_map, HL.out]; omega, Or.inr ⟨O, j, A', rfl, by have := HB2.out.2; omega, HA.out, Nat.le_refl _, by unfold maxLen; omega, by rw [HSz.out]; omega, by
        apply List.ext_getElem?
        intro i
        unfold blV
        by_cases hi : i < j
        · rw [List.getElem?_take_of_lt (by omega), Array.getElem?_toList, HAt.out i hi, List.getElem?_map, List.getElem?_map, List.getElem?_eq_getElem (by rw [HL.out]; exact hi), List.getD_eq_getElem?_getD, List.getElem?_eq_getElem (by rw [HL.out]; exact hi)]
          rfl
        · rw [List.getElem?_eq_none (by rw [List.length_take]; omega), List.getElem?_eq_none (by rw [List.length_map, List.length_map, HL.out]; omega)]⟩⟩
      clear HA HAt HB HPP
      go_wp2_with fail
      first | exact HZ.out | (go_ret2; exact HZ.out)
end Go.Proofs.Ytkomadlmonhlhaa
