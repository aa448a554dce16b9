import Derived.Test.YtnknbijbhidpnaaGreatDoorPrC
import Derived.Deep.RegionLaw
namespace Go.Proofs.YtnknbijbhidpnaaGreatDoor
open Go.ChangeShapes Go.WideShapes Go.ChangeAt Go.RowKit Go.Sort Go.Lib

def prCt (t : List Int → List UInt8) (cs : List (List Int)) : List UInt8 := cs.flatMap fun c => t c ++ [48, 10]
def prH (vars : Int) (n : Nat) : List UInt8 := [112, 32, 99, 110, 102, 32] ++ Lib.itoa vars ++ [32] ++ Lib.itoa (n : Int) ++ [10]
abbrev PowM (B : Nat) (w : World) : Prop := Lib.TabBelow Tryz.prog B w "internal/strconv.uint64pow10" .u64 Lib.pow10Tab
theorem step_call1 {ops : Array Oper} {o : Oper} {a : Act} {w : World} {K : Act → World → Prop} {Q : Exit → Act → World → Prop} {E : Prop} (hgd : o.guard = none) (f : FuncId) (x : Operand) (ts : Array TypeId)
    (ho : o.op = .call { callee := .value (.func f), args := #[x], argTypes := ts }) (xv : Value) (hx : a.eval x = xv) {R : Ending → World → Prop} (hcf : ∀ args W, (callFunc f args).run Tryz.prog W = .ok (.enter f args) W) (hc : Calls Tryz.prog f #[xv] w R)
    (h : ∀ e w', R e w' → ∃ v, e = .returned v ∧ K (a.put o.dst v) w') :
    if Region.wanted o (yielded ops a.tmps) = true then Oper.wp Tryz.prog o a w K Q else E := by
  have hw : Region.wanted o (yielded ops a.tmps) = true := by simp [Region.wanted, hgd]
  rw [if_pos hw]
  have hr : (execOp a.eval o).run Tryz.prog w = .ok (.enter f #[xv]) w := by
    unfold execOp
    have ef : a.eval (.func f) = .func (.func f) #[] #[] := rfl
    simp [ho, resolve, Deferred.ofValue, invoke, hx, ef, hcf]
  unfold Oper.wp
  rw [hr, Oper.upon_enter]
  refine hc.mono fun e w' hR => ?_
  obtain ⟨v, rfl, hk⟩ := h e w' hR
  exact hk
theorem cf_of {f : FuncId} {fn : Func} (h : Tryz.prog.funcs[f]? = some fn) (h1 : (fn.name == "runtime.NumGoroutine") = false) (h2 : fn.body.isNone = false) (args : Array Value) (W : World) : (callFunc f args).run Tryz.prog W = .ok (.enter f args) W := by
  have e1 : ¬ fn.name = "runtime.NumGoroutine" := fun e => by rw [e] at h1; simp at h1
  have e2 : ¬ fn.body = none := fun e => by rw [e] at h2; cases h2
  unfold callFunc
  simp [h, e1, e2]
theorem cfItoa (args : Array Value) (W : World) : (callFunc 15 args).run Tryz.prog W = .ok (.enter 15 args) W := cf_of Tryz.func15 (by kernel_rfl) (by kernel_rfl) args W
theorem prCt_snoc (t : List Int → List UInt8) (cs : List (List Int)) (c : List Int) : prCt t (cs ++ [c]) = prCt t cs ++ t c ++ [48, 10] := by simp [prCt]
theorem take_succL (cs : List (List Int)) (k : Nat) (h : k < cs.length) : cs.take (k + 1) = cs.take k ++ [cs.getD k []] := by
  rw [List.take_add_one, List.getElem?_eq_getElem h, List.getD_eq_getElem?_getD, List.getElem?_eq_getElem h]
  rfl
theorem itoaM (i : Int) (h0 : -9223372036854775808 ≤ i) (h1 : i ≤ 9223372036854775807) (w : World) (htab : Lib.TabIs Tryz.prog w "internal/strconv.uint64pow10" .u64 Lib.pow10Tab) :
    Calls Tryz.prog 15 #[.int .i64 i] w fun e w' => e = .returned (.string ⟨(Lib.itoa i).toArray⟩) ∧ Below w.heap.size w w' := by
  refine (Any.strconv_Itoa Tryz.itoaL i h0 h1 w htab).mono fun e w' hh => ?_
  obtain ⟨he, k, os, rfl⟩ := hh
  refine ⟨he, rfl, rfl, rfl, ?_, fun j hj => ?_⟩
  · simp [Go.Sort.grow]
  · simp [Go.Sort.grow, Array.getElem?_append, hj]
set_option maxHeartbeats 8000000 in
set_option maxRecDepth 100000 in
theorem print_walk (t : List Int → List UInt8) (vars x : Int) (n : Nat) (ad : Option Addr) (cs : List (List Int)) (c : Nat) (w : World) (hn : cs.length = n) (hv : 0 ≤ vars ∧ vars ≤ 1048576) (hnl : n ≤ 1048576)
    (hCl : ∀ k, k < n → ∃ b off ak ck, ad = some ⟨b, off, none⟩ ∧ (∀ W, Below w.heap.size w W → W.cell? ⟨b, off + k, none⟩ = some (.slice ak (cs.getD k []).length ck)) ∧ (∀ W v pre B, w.heap.size ≤ B → B ≤ W.heap.size → Below w.heap.size w W → OwnM W B v pre → pre.length ≤ 1000000000 → Calls Tryz.prog 16 #[v, .slice ak (cs.getD k []).length ck] W fun e w' => ∃ v', e = .returned v' ∧ OwnM w' B v' (pre ++ t (cs.getD k [])) ∧ Below B W w'))
    (hLn : ∀ k, k ≤ n → (prCt t (cs.take k)).length ≤ 200000000) (htab : PowM w.heap.size w)
    (hCk : ∀ W, Below w.heap.size w W → Calls Tryz.prog 14 #[.agg #[.int .i64 vars, .slice ad n c]] W fun e w' => e = .returned (.tuple #[.int .i64 x, .int .i64 0]) ∧ Below W.heap.size W w') :
    Calls Tryz.prog 5 #[.agg #[.int .i64 vars, .slice ad n c]] w fun e w' => e = .returned (.tuple #[.string ⟨(prH vars n ++ prCt t cs).toArray⟩, .int .i64 0]) ∧ Below w.heap.size w w' := by
  generalize hPP : (fun (e : Ending) (w' : World) => e = .returned (.tuple #[.string ⟨(prH vars n ++ prCt t cs).toArray⟩, .int .i64 0]) ∧ Below w.heap.size w w') = PP
  have HPP : Hid (∀ w', Below w.heap.size w w' → PP (.returned (.tuple #[.string ⟨(prH vars n ++ prCt t cs).toArray⟩, .int .i64 0])) w') := fun w' h => by rw [← hPP]; exact ⟨rfl, h⟩
  clear hPP
  have HCl : Hid (∀ k, k < n → ∃ b off ak ck, ad = some ⟨b, off, none⟩ ∧ (∀ W, Below w.heap.size w W → W.cell? ⟨b, off + k, none⟩ = some (.slice ak (cs.getD k []).length ck)) ∧ (∀ W v pre B, w.heap.size ≤ B → B ≤ W.heap.size → Below w.heap.size w W → OwnM W B v pre → pre.length ≤ 1000000000 → Calls Tryz.prog 16 #[v, .slice ak (cs.getD k []).length ck] W fun e w' => ∃ v', e = .returned v' ∧ OwnM w' B v' (pre ++ t (cs.getD k [])) ∧ Below B W w')) := hCl
  have HCk : Hid (∀ W, Below w.heap.size w W → Calls Tryz.prog 14 #[.agg #[.int .i64 vars, .slice ad n c]] W fun e w' => e = .returned (.tuple #[.int .i64 x, .int .i64 0]) ∧ Below W.heap.size W w') := hCk
  have HLn : Hid (∀ k, k ≤ n → (prCt t (cs.take k)).length ≤ 200000000) := hLn
  have HT : Hid (PowM w.heap.size w) := htab
  have HNn : Hid (cs.length = n) := hn
  clear hCl hCk hLn htab hn
  go_enter Tryz.func5, Tryz.ntmps5
  go_wp2_with fail
  refine (HCk.out _ (bel_new _ _)).mono ?_
  rintro e w2 ⟨rfl, hb2⟩
  have HF2 : Hid (w2.heap[w.heap.size]? = some (.cells #[.int .i64 vars, .slice ad n c] 24 (0, 0))) := (hb2.block _ (by simp)).trans (heap_alloc_new _ _)
  have HB2 : Hid (Below w.heap.size w w2) := (bel_new _ _).trans (bel_le hb2 (by simp))
  have hz2 : w.heap.size < w2.heap.size := (Array.getElem?_eq_some_iff.1 HF2.out).1
  have f0 : w2.cell? ⟨w.heap.size, 0, none⟩ = some (.int .i64 vars) := (cell_of_row _ _ 0 _ _ _ HF2.out).trans rfl
  have f1 : w2.cell? ⟨w.heap.size, 1, none⟩ = some (.slice ad n c) := (cell_of_row _ _ 1 _ _ _ HF2.out).trans rfl
  clear hb2 HCk
  have HTw : Hid (∀ W, Below w.heap.size w W → Lib.TabIs Tryz.prog W "internal/strconv.uint64pow10" .u64 Lib.pow10Tab) := fun W hb => HT.out W hb
  have hil1 := Lib.itoa_length_le vars (by omega) (by omega)
  have hil2 := Lib.itoa_length_le (n : Int) (by omega) (by omega)
  obtain ⟨S1, hS1⟩ : ∃ S1, (⟨(Lib.itoa vars).toArray⟩ : ByteArray) = S1 := ⟨_, rfl⟩
  have HS1 : Hid (S1.data.toList = Lib.itoa vars ∧ S1.size ≤ 100) := by rw [← hS1]; exact ⟨by simp, by rw [Lib.size_eq]; simp; omega⟩
  obtain ⟨S2, hS2⟩ : ∃ S2, (⟨(Lib.itoa (n : Int)).toArray⟩ : ByteArray) = S2 := ⟨_, rfl⟩
  have HS2 : Hid (S2.data.toList = Lib.itoa (n : Int) ∧ S2.size ≤ 100) := by rw [← hS2]; exact ⟨by simp, by rw [Lib.size_eq]; simp; omega⟩
  have HI1 : Hid (Calls Tryz.prog 15 #[.int .i64 vars] w2.drew fun e w' => e = .returned (.string S1) ∧ Below w2.heap.size w2 w') := by
    rw [← hS1]
    exact (itoaM vars (by omega) (by omega) w2.drew (HTw.out _ (HB2.out.trans (bel_le (Below.drew (Below.refl _ _)) HB2.out.size)))).mono fun e w' h7 => ⟨h7.1, (Below.drew (Below.refl _ _)).trans h7.2⟩
  have HI2 : Hid (∀ W, Below w2.heap.size w2 W → Calls Tryz.prog 15 #[.int .i64 (n : Int)] W fun e w' => e = .returned (.string S2) ∧ Below W.heap.size W w') := fun W hb => by
    rw [← hS2]
    exact itoaM (n : Int) (by omega) (by omega) W (HTw.out _ (HB2.out.trans (bel_le hb HB2.out.size)))
  have HPl : Hid ((prH vars n).length ≤ 300) := by
    show _ ≤ _
    simp only [prH, List.length_append, List.length_cons, List.length_nil]
    omega
  clear hS1 hS2 hil1 hil2
  have l1 : ¬ 9223372036854775807 < 6 + S1.size := by have := HS1.out.2; omega
  have l2 : ¬ 9223372036854775807 < 6 + S1.size + 1 := by have := HS1.out.2; omega
  have l3 : ¬ 9223372036854775807 < 6 + S1.size + 1 + S2.size := by have := HS1.out.2; have := HS2.out.2; omega
  have l4 : ¬ 9223372036854775807 < 6 + S1.size + 1 + S2.size + 1 := by have := HS1.out.2; have := HS2.out.2; omega
  have HSt : Hid ((⟨#[112, 32, 99, 110, 102, 32]⟩ ++ S1 ++ ⟨#[32]⟩ ++ S2 ++ ⟨#[10]⟩ : ByteArray).data.toList = prH vars n ∧ (⟨#[112, 32, 99, 110, 102, 32]⟩ ++ S1 ++ ⟨#[32]⟩ ++ S2 ++ ⟨#[10]⟩ : ByteArray).size ≤ 140737488355328) := by
    refine ⟨?_, ?_⟩
    · simp [prH, HS1.out.1, HS2.out.1]
    · have h6 : (⟨#[112, 32, 99, 110, 102, 32]⟩ : ByteArray).size = 6 := rfl
      have h7 : (⟨#[32]⟩ : ByteArray).size = 1 := rfl
      have h8 : (⟨#[10]⟩ : ByteArray).size = 1 := rfl
      have := HS1.out.2
      have := HS2.out.2
      rw [ByteArray.size_append, ByteArray.size_append, ByteArray.size_append, ByteArray.size_append, h6, h7, h8]
      omega
  go_wp2_with fail
  refine (fun (KEY : Hid (∀ (w5 : World) (v5 : Value), Hid (OwnM w5 w2.heap.size v5 (prH vars n) ∧ Below w2.heap.size w2 w5) → (?PHI : World → Value → Prop) w5 v5)) => ?main) ?key
  case main =>
    go_region_law (first
      | (refine step_call1 rfl 15 _ _ rfl (.int .i64 vars) (by rfl) cfItoa HI1.out ?_; rintro e w3 ⟨rfl, hb3⟩; refine ⟨_, rfl, ?_⟩; have HB3 : Hid (Below w2.heap.size w2 w3) := hb3; have f13 : w3.cell? ⟨w.heap.size, 1, none⟩ = some (.slice ad n c) := (World.cell?_of_block (w' := w3) (w := w2) (a := ⟨w.heap.size, 1, none⟩) (hb3.block _ hz2)).trans f1; clear hb3)
      | (refine step_call1 rfl 15 _ _ rfl (.int .i64 (n : Int)) (by rfl) cfItoa (HI2.out _ HB3.out) ?_; rintro e w4 ⟨rfl, hb4⟩; refine ⟨_, rfl, ?_⟩; obtain ⟨v5, w5, hcv, ho5, hb5⟩ := om_of_str w4 (⟨#[112, 32, 99, 110, 102, 32]⟩ ++ S1 ++ ⟨#[32]⟩ ++ S2 ++ ⟨#[10]⟩) HSt.out.2; have H5 : Hid (OwnM w5 w2.heap.size v5 (prH vars n) ∧ Below w2.heap.size w2 w5) := ⟨(by rw [← HSt.out.1]; exact ho5.mono (Nat.le_trans HB3.out.size hb4.size)), HB3.out.trans ((bel_le hb4 HB3.out.size).trans (bel_le hb5 (Nat.le_trans HB3.out.size hb4.size)))⟩; clear hb4 ho5 hb5))
    all_goals exact KEY.out _ _ H5
  case key =>
    intro w5 v5 H5
    clear l1 l2 l3 l4 HI1 HI2 HSt f0
    have HF5 : Hid (w5.heap[w.heap.size]? = some (.cells #[.int .i64 vars, .slice ad n c] 24 (0, 0))) := (H5.out.2.block _ hz2).trans HF2.out
    have g1 : w5.cell? ⟨w.heap.size, 1, none⟩ = some (.slice ad n c) := (cell_of_row _ _ 1 _ _ _ HF5.out).trans rfl
    go_wp2_with fail
    go_loopg [6, 32] n (fun gk v i wr => ∃ k : Nat, i = .int .i64 (k : Int) ∧ k + gk = n ∧ Aside (OwnM wr w2.heap.size v (prH vars n ++ prCt t (cs.take k)) ∧ Below w2.heap.size w2 wr))
    case atStart => exact ⟨0, rfl, by omega, by simpa [prCt] using H5.out.1, H5.out.2⟩
    case round =>
      obtain ⟨k, rfl, hk, HJ⟩ := hrel
      have HBw : Hid (Below w.heap.size w wr) := HB2.out.trans (bel_le HJ.out.2 HB2.out.size)
      by_cases hlt : k < n
      · obtain ⟨b, off, ak, ck, rfl, hcell, hcall⟩ := HCl.out k hlt
        have c1 := hcell wr HBw.out
        have HTk : Hid (prH vars n ++ prCt t (cs.take (k + 1)) = prH vars n ++ prCt t (cs.take k) ++ t (cs.getD k []) ++ [48, 10]) := by
          show _ = _
          rw [take_succL cs k (by rw [HNn.out]; exact hlt), prCt_snoc]
          simp
        have HLk : Hid ((prH vars n ++ prCt t (cs.take (k + 1))).length ≤ 200000300) := by
          show _ ≤ _
          rw [List.length_append]
          have h1 := HLn.out (k + 1) (by omega)
          have h2 := HPl.out
          omega
        have HA : Hid (Calls Tryz.prog 16 #[u6, .slice ak (cs.getD k []).length ck] wr fun e w' => ∃ v', e = .returned v' ∧ OwnM w' w2.heap.size v' (prH vars n ++ prCt t (cs.take k) ++ t (cs.getD k [])) ∧ Below w2.heap.size wr w') :=
          hcall wr u6 _ w2.heap.size HB2.out.size HJ.out.2.size HBw.out HJ.out.1 (by
            rw [List.length_append]
            have h1 := HLn.out k (by omega)
            have h2 := HPl.out
            omega)
        have HJ2 : Hid (Below w2.heap.size w2 wr) := HJ.out.2
        clear hcell hcall HJ
        generalize (cs.getD k []).length = lk at *
        have q1 : (k : Int) < (n : Int) := by omega
        go_wp2_with (first
          | (go_at_call 16; refine HA.out.mono ?_; rintro e w6 ⟨v6, rfl, ho6, hb6⟩; have H6 : Hid (OwnM w6 w2.heap.size v6 (prH vars n ++ prCt t (cs.take k) ++ t (cs.getD k [])) ∧ Below w2.heap.size w2 w6) := ⟨ho6, HJ2.out.trans hb6⟩; clear ho6 hb6)
          | (at_builtin; refine wpList_m_str rfl _ _ rfl rfl H6.out.1 ⟨#[48, 10]⟩ rfl (by have h1 := HLk.out; rw [HTk.out, List.length_append] at h1; show _ + 2 ≤ _; simp only [List.length_cons, List.length_nil] at h1; omega) H6.out.2.size ?_; intro v7 w7 ho7 hb7; have H7 : Aside (OwnM w7 w2.heap.size v7 (prH vars n ++ prCt t (cs.take (k + 1))) ∧ Below w2.heap.size w2 w7) := ⟨(by rw [HTk.out]; exact ho7), H6.out.2.trans hb7⟩; clear ho7 hb7; refine Hid.out ?_))
        refine Lib.hid ?_
        clear H6
        go_wp2
        go_roundg (gk - 1)
        case measure => omega
        case rel => exact ⟨k + 1, by simp, by omega, H7⟩
      · obtain rfl : k = n := by omega
        have hcv := om_back HJ.out.1
        rw [show cs.take k = cs by rw [← HNn.out, List.take_length]] at hcv
        have q1 : ¬ (k : Int) < (k : Int) := by omega
        clear HJ
        go_wp2_with fail
        first | exact HPP.out _ HBw.out | (go_ret; exact HPP.out _ HBw.out) | (go_ret2; exact HPP.out _ HBw.out)
end Go.Proofs.YtnknbijbhidpnaaGreatDoor
