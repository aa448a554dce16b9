import Derived.Test.YtkomadlmonhlhaaAgZa
import Derived.Deep.RegionLaw
namespace Go.Proofs.Ytkomadlmonhlhaa
open Go.ChangeShapes Go.WideShapes Go.ChangeAt Go.RowKit Go.Lib Go.Ag Go.WideMaps Go.Maps Go.ChangeMaps Go.Cn

theorem row_low {w : World} {B B' e s n : Nat} {v : Value} {L : List Value} (h : w.ownsRow B e s v n L) (hb : B' ≤ B) : w.ownsRow B' e s v n L := by
  refine ⟨h.1, ?_⟩
  rcases h.2 with h3 | ⟨g, cap, cur, e, h4, h5⟩
  · exact Or.inl h3
  · exact Or.inr ⟨g, cap, cur, e, Nat.le_trans hb h4, h5⟩
theorem step_clo {ops : Array Oper} {o : Oper} {a : Act} {w : World} {K : Act → World → Prop} {Q : Exit → Act → World → Prop} {E : Prop} (hgd : o.guard = none) (f : FuncId) (x0 x : Operand) (ts : Array TypeId)
    (ho : o.op = .call { callee := .value x0, args := #[x], argTypes := ts }) (c : Value) (h0 : a.eval x0 = .func (.func f) #[] #[c]) (xv : Value) (hx : a.eval x = xv) {R : Ending → World → Prop} (hcf : ∀ args W, (callFunc f args).run Try.prog W = .ok (.enter f args) W) (hc : Calls Try.prog f #[xv, c] w R)
    (h : ∀ e w', R e w' → ∃ v, e = .returned v ∧ K (a.put o.dst v) w') :
    if Region.wanted o (yielded ops a.tmps) = true then Oper.wp Try.prog o a w K Q else E := by
  have hw : Region.wanted o (yielded ops a.tmps) = true := by simp [Region.wanted, hgd]
  rw [if_pos hw]
  have hr : (execOp a.eval o).run Try.prog w = .ok (.enter f #[xv, c]) w := by
    unfold execOp
    simp [ho, resolve, Deferred.ofValue, invoke, hx, h0, hcf]
  unfold Oper.wp
  rw [hr, Oper.upon_enter]
  refine hc.mono fun e w' hR => ?_
  obtain ⟨v, rfl, hk⟩ := h e w' hR
  exact hk
theorem step_call3 {ops : Array Oper} {o : Oper} {a : Act} {w : World} {K : Act → World → Prop} {Q : Exit → Act → World → Prop} {E : Prop} (hgd : o.guard = none) (f : FuncId) (x y z : Operand) (ts : Array TypeId)
    (ho : o.op = .call { callee := .value (.func f), args := #[x, y, z], argTypes := ts }) (xv yv zv : Value) (hx : a.eval x = xv) (hy : a.eval y = yv) (hz : a.eval z = zv) {R : Ending → World → Prop} (hcf : ∀ args W, (callFunc f args).run Try.prog W = .ok (.enter f args) W) (hc : Calls Try.prog f #[xv, yv, zv] w R)
    (h : ∀ e w', R e w' → ∃ v, e = .returned v ∧ K (a.put o.dst v) w') :
    if Region.wanted o (yielded ops a.tmps) = true then Oper.wp Try.prog o a w K Q else E := by
  have hw : Region.wanted o (yielded ops a.tmps) = true := by simp [Region.wanted, hgd]
  rw [if_pos hw]
  have hr : (execOp a.eval o).run Try.prog w = .ok (.enter f #[xv, yv, zv]) w := by
    unfold execOp
    have ef : a.eval (.func f) = .func (.func f) #[] #[] := rfl
    simp [ho, resolve, Deferred.ofValue, invoke, hx, hy, hz, ef, hcf]
  unfold Oper.wp
  rw [hr, Oper.upon_enter]
  refine hc.mono fun e w' hR => ?_
  obtain ⟨v, rfl, hk⟩ := h e w' hR
  exact hk
theorem cf_of {f : FuncId} {fn : Func} (h : Try.prog.funcs[f]? = some fn) (h1 : (fn.name == "runtime.NumGoroutine") = false) (h2 : fn.body.isNone = false) (args : Array Value) (W : World) : (callFunc f args).run Try.prog W = .ok (.enter f args) W := by
  have e1 : ¬ fn.name = "runtime.NumGoroutine" := fun e => by rw [e] at h1; simp at h1
  have e2 : ¬ fn.body = none := fun e => by rw [e] at h2; cases h2
  unfold callFunc
  simp [h, e1, e2]
theorem cfWord (args : Array Value) (W : World) : (callFunc 88 args).run Try.prog W = .ok (.enter 88 args) W := cf_of Try.func88 (by kernel_rfl) (by kernel_rfl) args W
theorem cfInp (args : Array Value) (W : World) : (callFunc 72 args).run Try.prog W = .ok (.enter 72 args) W := cf_of Try.func72 (by kernel_rfl) (by kernel_rfl) args W
theorem cfSetW (args : Array Value) (W : World) : (callFunc 90 args).run Try.prog W = .ok (.enter 90 args) W := cf_of Try.func90 (by kernel_rfl) (by kernel_rfl) args W
def wrdV (l : List Nat) : List Value := l.map fun (x : Nat) => Value.int .u64 (x : Int)
set_option maxHeartbeats 4000000 in
set_option maxRecDepth 100000 in
theorem words_any (F : FuncId) (hF : ∀ args W, (callFunc F args).run Try.prog W = .ok (.enter F args) W) (w : World) {B R : Nat} {ns : Nds} {nb : Nat} {vb vg : Value} {M : Option Nat} {D : DataW Unit} (h : GM w B R ns nb vb vg M D) (ad : Option Addr) (ls : List Nat) (cp : Nat) (hl : U32s w ad ls) (h32 : ∀ l ∈ ls, l < 4294967296) (hbd : ∀ l ∈ ls, l / 2 ≤ ns.length) (hn : ls.length ≤ 1000000000000)
    (I : Nat) (inp : Nat → Nat) (hinp : ∀ i, inp i < 18446744073709551616) (hI : ∀ W, Below w.heap.size w W → ∀ i, i < inN ns → i < 4294967296 → Calls Try.prog F #[.int .u32 (i : Int), .pointer (some ⟨I, 0, none⟩)] W fun e w' => e = .returned (.int .u64 ((inp i : Nat) : Int)) ∧ w' = W) :
    Calls Try.prog 71 #[.pointer (some ⟨R, 0, none⟩), .slice ad ls.length cp, .func (.func F) #[] #[.pointer (some ⟨I, 0, none⟩)]] w fun e w' => ∃ v, e = .returned v ∧ Below w.heap.size w w' ∧ w'.ownsRow w.heap.size 120 1 v ls.length (wrdV (ls.map (wordN (valW ns inp (coneS ns ls).2)))) := by
  have HcF : Hid (∀ args W, (callFunc F args).run Try.prog W = .ok (.enter F args) W) := hF
  clear hF
  have HNew : Hid (Calls Try.prog 87 #[.slice ad ls.length cp] w fun e w' => ∃ P, e = .returned (.agg #[.slice (some ⟨P, 0, none⟩) (mostN ls / 1024 + 1) (mostN ls / 1024 + 1)]) ∧ Below w.heap.size w w' ∧ TB w' 116 120 (.int .u64 0) w.heap.size P (mostN ls / 1024 + 1) (fun _ => none) (fun _ => .int .u64 0)) := newW_any w ad ls cp hl h32 hn
  have HCone : Hid (∀ W, Below w.heap.size w W → Calls Try.prog 69 #[.pointer (some ⟨R, 0, none⟩), .slice ad ls.length cp] W fun e w' => ∃ vC, e = .returned vC ∧ Below W.heap.size W w' ∧ w'.ownsRow W.heap.size 3 1 vC (coneS ns ls).2.length (natV (coneS ns ls).2)) := fun W hW => cone_any W (h.over hW) ad ls cp (hl.below hW) h32 hbd hn
  have HND : Hid (∀ W n, Below w.heap.size w W → n ≤ ns.length → Calls Try.prog 66 #[.pointer (some ⟨R, 0, none⟩), .int .i64 (n : Int)] W fun e w' => e = .returned (.tuple #[.int .i64 ((nodK ns n).1 : Int), .agg #[.int .u32 ((nodK ns n).2.1 : Int), .int .u32 ((nodK ns n).2.2 : Int)]]) ∧ Below W.heap.size W w') := fun W n hW hn => node_any W (h.over hW) n hn
  generalize hPP : (fun (e : Ending) (w' : World) => ∃ v, e = .returned v ∧ Below w.heap.size w w' ∧ w'.ownsRow w.heap.size 120 1 v ls.length (wrdV (ls.map (wordN (valW ns inp (coneS ns ls).2))))) = PP
  have HPP : Hid (∀ v w', Below w.heap.size w w' → w'.ownsRow w.heap.size 120 1 v ls.length (wrdV (ls.map (wordN (valW ns inp (coneS ns ls).2)))) → PP (.returned v) w') := fun vC w' h1 h2 => by rw [← hPP]; exact ⟨vC, rfl, h1, h2⟩
  clear hPP
  have HU : Aside (U32s w ad ls) := hl
  have H32 : Aside (∀ l ∈ ls, l < 4294967296) := h32
  have HI : Hid (∀ W, Below w.heap.size w W → ∀ i, i < inN ns → i < 4294967296 → Calls Try.prog F #[.int .u32 (i : Int), .pointer (some ⟨I, 0, none⟩)] W fun e w' => e = .returned (.int .u64 ((inp i : Nat) : Int)) ∧ w' = W) := hI
  have HGn : Hid (∀ n, 0 < n → n ≤ mostN ls → n ≤ ns.length ∧ (nodK ns n).2.1 < 4294967296 ∧ (nodK ns n).2.2 < 4294967296 ∧ (((nodK ns n).1 = 1 ∧ (nodK ns n).2.1 < inN ns) ∨ ((nodK ns n).1 = 2 ∧ (nodK ns n).2.1 / 2 ≤ mostN ls ∧ (nodK ns n).2.2 / 2 ≤ mostN ls))) := fun n h0 hm => by
    have hnl : n ≤ ns.length := Nat.le_trans hm (mostN_le hbd)
    have hlen := h.len
    have hin : inN ns ≤ ns.length := Nat.sub_le _ _
    refine ⟨hnl, ?_⟩
    by_cases hk : (nodK ns n).1 = 2
    · have h5 := nodK_le h (nodK_two hk)
      exact ⟨h5.2.2.2.2.1, h5.2.2.2.2.2, Or.inr ⟨hk, by omega, by omega⟩⟩
    · have h5 := nodK_in h0 hnl hk
      exact ⟨by omega, by omega, Or.inl ⟨h5.1, h5.2.1⟩⟩
  have HCb : Hid (∀ x ∈ (coneS ns ls).2, 0 < x ∧ x ≤ mostN ls) := cone_in h
  have HCl : Hid ((coneS ns ls).2.length ≤ 1073741824) := cone_len h hbd
  have HMl : Hid (mostN ls < 1073741824) := Nat.lt_of_le_of_lt (mostN_le hbd) (Nat.lt_succ_of_le h.len)
  clear hl h32 h hbd hI
  generalize hnn : ls.length = n at *
  have HL : Aside (ls.length = n) := hnn
  clear hnn
  obtain ⟨nt, hnt⟩ : ∃ nt, mostN ls / 1024 + 1 = nt := ⟨_, rfl⟩
  have HNT : Hid (mostN ls / 1024 + 1 = nt) := hnt
  rw [hnt] at HNew
  clear hnt
  obtain ⟨cn, hcn⟩ : ∃ cn, (coneS ns ls).2 = cn := ⟨_, rfl⟩
  rw [hcn] at HPP HCone HCb HCl
  obtain ⟨H0, hH0⟩ : ∃ H, w.heap.size = H := ⟨_, rfl⟩
  rw [hH0] at HPP HNew HCone HND HI
  go_enter Try.func71, Try.ntmps71
  go_wp2_with fail
  refine HNew.out.mono ?_
  rintro e w1 ⟨P, rfl, hb1, ht1⟩
  have hw1 : H0 ≤ w1.heap.size := by rw [← hH0]; exact hb1.size
  obtain ⟨Vb, hVb⟩ : ∃ V, w1.heap.size = V := ⟨_, rfl⟩
  have HW1 : Hid (Below H0 w (w1.alloc (.cells #[.slice (some ⟨P, 0, none⟩) nt nt] 163)) ∧ (w1.alloc (.cells #[.slice (some ⟨P, 0, none⟩) nt nt] 163)).heap[Vb]? = some (.cells #[.slice (some ⟨P, 0, none⟩) nt nt] 163 (0, 0)) ∧ TB (w1.alloc (.cells #[.slice (some ⟨P, 0, none⟩) nt nt] 163)) 116 120 (.int .u64 0) H0 P nt (fun _ => none) (wdV fun _ => 0)) :=
    ⟨hb1.alloc hw1 _, by rw [← hVb]; exact heap_alloc_new _ _, ht1.over (ag_bel1 _ _)⟩
  clear hb1 ht1 HNew
  have hmf : ∀ (fn : Fn) (first cap : Array Value) (w : World), (Instr.makeFunc fn first cap).run Try.prog w = .ok (.func fn first cap) w := fun _ _ _ _ => rfl
  go_wp2_with fail
  generalize w1.alloc (.cells #[.slice (some ⟨P, 0, none⟩) nt nt] 163) = wa at *
  refine (HCone.out wa HW1.out.1).mono ?_
  rintro e w2 ⟨vC, rfl, hb2, hr2⟩
  have hwa : H0 ≤ wa.heap.size := by rw [← hH0]; have := HW1.out.1.size; exact this
  have HS : Hid (WV H0 w w2 Vb P nt (fun _ => none) (fun _ => 0) cn vC) := ⟨(hb2.block Vb (Array.getElem?_eq_some_iff.1 HW1.out.2.1).1).trans HW1.out.2.1, by omega, HW1.out.2.2.over hb2, row_low hr2 hwa, HW1.out.1.trans (hb2.mono hwa), Nat.le_trans hwa hb2.size, fun _ => by decide⟩
  obtain ⟨aC, cC, rfl, hcC, haC⟩ := row_form hr2
  clear HW1 HCone hr2 hb2 hwa
  have HU2 : Hid (∀ W, Below H0 w W → U32s W ad ls) := fun W hW => HU.out.below (by rw [hH0]; exact hW)
  clear HU
  generalize hcl : cn.length = c at *
  have HCL : Hid (cn.length = c) := hcl
  clear hcl
  have hc9 := HCl.out
  go_wp2_with fail
  go_loopg [23] c (fun gk v23 wr => ∃ k pg f, v23 = .int .i64 ((k : Nat) : Int) ∧ k + gk = c ∧ Aside (WV H0 w wr Vb P nt pg f cn (.slice aC c cC)) ∧ Aside (f = valW ns inp (cn.take k)))
  case atStart => exact ⟨0, _, _, rfl, by omega, HS.out, by rw [List.take_zero]; rfl⟩
  case round =>
    clear HS
    obtain ⟨k, pg, f, rfl, hk, HS, HF⟩ := hrel
    by_cases hlt : k < c
    · have q1 : (k : Int) < (c : Int) := by omega
      obtain ⟨gC, rfl⟩ := haC (by omega)
      have hmem : cn.getD k 0 ∈ cn := by rw [List.getD_eq_getElem?_getD, List.getElem?_eq_getElem (by rw [HCL.out]; exact hlt)]; exact List.getElem_mem _
      have ck : wr.cell? ⟨gC, k, none⟩ = some (.int .i64 ((cn.getD k 0 : Nat) : Int)) := by
        have h7 := HS.out.cr
        rw [HCL.out] at h7
        rw [h7.cellAt k (by omega)]
        unfold natV
        rw [List.getElem?_map, List.getD_eq_getElem?_getD, List.getElem?_eq_getElem (by rw [HCL.out]; exact hlt)]
        rfl
      have HV : Hid (valW ns inp (cn.take (k + 1)) = valStep ns inp f (cn.getD k 0)) := by
        show _ = _
        rw [List.take_succ_eq_append_getElem (by rw [HCL.out]; exact hlt)]
        unfold valW
        rw [List.foldl_append, List.getD_eq_getElem?_getD, List.getElem?_eq_getElem (by rw [HCL.out]; exact hlt), HF.out]
        rfl
      have hy := HCb.out _ hmem
      clear hmem HF
      generalize cn.getD k 0 = y at *
      obtain ⟨hyn, h1, h2, HK⟩ := HGn.out y hy.1 hy.2
      have hm9 := HMl.out
      have HVs : Hid (valStep ns inp f y = updN f y (if (nodK ns y).1 = 1 then inp (nodK ns y).2.1 else wordN f (nodK ns y).2.1 &&& wordN f (nodK ns y).2.2)) := rfl
      go_wp2_with fail
      refine (HND.out wr y HS.out.bel hyn).mono ?_
      rintro e w3 ⟨rfl, hb3⟩
      have HS3 : Hid (WV H0 w w3 Vb P nt pg f cn (.slice (some ⟨gC, 0, none⟩) c cC)) := HS.out.over hb3
      clear hb3 HS ck
      generalize nodK ns y = NK at *
      obtain ⟨kd, ga, gb⟩ := NK
      simp only [] at HVs h1 h2 HK
      have HW4 : Hid (WV H0 w (w3.alloc (.cells #[.int .u32 (ga : Int), .int .u32 (gb : Int)] 96)) Vb P nt pg f cn (.slice (some ⟨gC, 0, none⟩) c cC) ∧ (w3.alloc (.cells #[.int .u32 (ga : Int), .int .u32 (gb : Int)] 96)).heap[w3.heap.size]? = some (.cells #[.int .u32 (ga : Int), .int .u32 (gb : Int)] 96 (0, 0))) := ⟨HS3.out.over (ag_bel1 _ _), heap_alloc_new _ _⟩
      rcases HK with ⟨rfl, hin⟩ | ⟨rfl, ha2, hb2⟩
      · go_wp2_with fail
        generalize hgb : w3.heap.size = gbk at *
        generalize w3.alloc (.cells #[.int .u32 (ga : Int), .int .u32 (gb : Int)] 96) = W4 at *
        have g0 : W4.cell? ⟨gbk, 0, none⟩ = some (.int .u32 (ga : Int)) := ag_cell HW4.out.2 0
        have g1 : W4.cell? ⟨gbk, 1, none⟩ = some (.int .u32 (gb : Int)) := ag_cell HW4.out.2 1
        have m0 : W4.cell? ⟨Vb, 0, none⟩ = some (.slice (some ⟨P, 0, none⟩) nt nt) := ag_cell HW4.out.1.q 0
        have HSet : Hid (∀ W v, Below W4.heap.size W4 W → v < 18446744073709551616 → Calls Try.prog 90 #[.agg #[.slice (some ⟨P, 0, none⟩) nt nt], .int .i64 (y : Int), .int .u64 ((v : Nat) : Int)] W fun e w' => e = .returned (.tuple #[]) ∧ ∃ pg', WV H0 w w' Vb P nt pg' (updN f y v) cn (.slice (some ⟨gC, 0, none⟩) c cC)) := fun W v hW hv =>
          (setW_any W (HW4.out.1.over hW).tb y (by omega) (Nat.lt_of_le_of_lt (Nat.div_le_div_right hy.2) (by rw [← HNT.out]; omega)) v).mono (by
            rintro e w' ⟨rfl, pg', h1, h2⟩
            exact ⟨rfl, pg', (HW4.out.1.over hW).mark hv h1 h2⟩)
        have bD : Below W4.heap.size W4 W4.drew := (Below.refl _ _).drew
        have HI1 : Hid (∀ W, Below W4.heap.size W4 W → Calls Try.prog F #[.int .u32 (ga : Int), .pointer (some ⟨I, 0, none⟩)] W fun e w' => e = .returned (.int .u64 ((inp ga : Nat) : Int)) ∧ w' = W) := fun W hW => HI.out W (HW4.out.1.over hW).bel ga hin (by omega)
        have HVf : Hid (valW ns inp (cn.take (k + 1)) = updN f y (inp ga)) := by show _ = _; rw [HV.out, HVs.out]; rfl
        have hgi := hinp ga
        generalize inp ga = ig at *
        clear HVs HV HW4 HS3
        refine (fun (KEY : Hid (∀ (pg5 : Nat → Option Nat) (w5 : World), Hid (WV H0 w w5 Vb P nt pg5 (updN f y ig) cn (.slice (some ⟨gC, 0, none⟩) c cC)) → (?PHI : World → Prop) w5)) => ?main) ?key
        case main =>
          go_region_law (first | (refine step_clo rfl F _ _ _ rfl (.pointer (some ⟨I, 0, none⟩)) (by rfl) (.int .u32 (ga : Int)) (by rfl) HcF.out (HI1.out _ (by assumption)) ?_; rintro e w' ⟨rfl, hw⟩; obtain rfl := hw.symm; refine ⟨_, rfl, ?_⟩) | (refine step_call3 rfl 90 _ _ _ _ rfl (.agg #[.slice (some ⟨P, 0, none⟩) nt nt]) (.int .i64 (y : Int)) (.int .u64 (ig : Int)) (by rfl) (by rfl) (by rfl) cfSetW (HSet.out _ ig (by assumption) (by assumption)) ?_; rintro e w5 ⟨rfl, pg5, hS5⟩; refine ⟨_, rfl, ?_⟩; have HS5 : Hid (WV H0 w w5 Vb P nt pg5 (updN f y ig) cn (.slice (some ⟨gC, 0, none⟩) c cC)) := hS5; clear hS5))
          all_goals exact KEY.out _ _ HS5
        case key =>
          intro pg5 w5 HS5
          go_wp2_with fail
          go_roundg (c - (k + 1))
          case measure => omega
          case rel => exact ⟨k + 1, _, _, by simp, by omega, HS5.out, HVf.out.symm⟩
      · go_wp2_with fail
        generalize hgb : w3.heap.size = gbk at *
        generalize w3.alloc (.cells #[.int .u32 (ga : Int), .int .u32 (gb : Int)] 96) = W4 at *
        have g0 : W4.cell? ⟨gbk, 0, none⟩ = some (.int .u32 (ga : Int)) := ag_cell HW4.out.2 0
        have g1 : W4.cell? ⟨gbk, 1, none⟩ = some (.int .u32 (gb : Int)) := ag_cell HW4.out.2 1
        have m0 : W4.cell? ⟨Vb, 0, none⟩ = some (.slice (some ⟨P, 0, none⟩) nt nt) := ag_cell HW4.out.1.q 0
        have HSet : Hid (∀ W v, Below W4.heap.size W4 W → v < 18446744073709551616 → Calls Try.prog 90 #[.agg #[.slice (some ⟨P, 0, none⟩) nt nt], .int .i64 (y : Int), .int .u64 ((v : Nat) : Int)] W fun e w' => e = .returned (.tuple #[]) ∧ ∃ pg', WV H0 w w' Vb P nt pg' (updN f y v) cn (.slice (some ⟨gC, 0, none⟩) c cC)) := fun W v hW hv =>
          (setW_any W (HW4.out.1.over hW).tb y (by omega) (Nat.lt_of_le_of_lt (Nat.div_le_div_right hy.2) (by rw [← HNT.out]; omega)) v).mono (by
            rintro e w' ⟨rfl, pg', h1, h2⟩
            exact ⟨rfl, pg', (HW4.out.1.over hW).mark hv h1 h2⟩)
        have bD : Below W4.heap.size W4 W4.drew := (Below.refl _ _).drew
        have HWd : Hid (∀ W l, Below W4.heap.size W4 W → l < 4294967296 → l / 2 ≤ mostN ls → Calls Try.prog 88 #[.int .u32 ((l : Nat) : Int), .pointer (some ⟨Vb, 0, none⟩)] W fun e w' => e = .returned (.int .u64 ((wordN f l : Nat) : Int)) ∧ Below W4.heap.size W4 w' ∧ w'.cell? ⟨gbk, 0, none⟩ = some (.int .u32 (ga : Int)) ∧ w'.cell? ⟨gbk, 1, none⟩ = some (.int .u32 (gb : Int)) ∧ w'.cell? ⟨Vb, 0, none⟩ = some (.slice (some ⟨P, 0, none⟩) nt nt)) := fun W l hW hl hl2 =>
          (word_any W (HW4.out.1.over hW).tb HW4.out.1.fl Vb (HW4.out.1.over hW).q l hl (Nat.lt_of_le_of_lt (Nat.div_le_div_right hl2) (by rw [← HNT.out]; omega))).mono (by
            rintro e w' ⟨rfl, h1⟩
            have h2 := ag_next hW h1
            have h3 := (h2.block _ (Array.getElem?_eq_some_iff.1 HW4.out.2).1).trans HW4.out.2
            exact ⟨rfl, h2, ag_cell h3 0, ag_cell h3 1, ag_cell (HW4.out.1.over h2).q 0⟩)
        have hwa2 : wordN f ga < 18446744073709551616 := wordN_lt HW4.out.1.fl ga
        have hwb2 : wordN f gb < 18446744073709551616 := wordN_lt HW4.out.1.fl gb
        have HVf : Hid (valW ns inp (cn.take (k + 1)) = updN f y (wordN f ga &&& wordN f gb)) := by show _ = _; rw [HV.out, HVs.out]; rfl
        have hand : bits .and .u64 ((wordN f ga : Nat) : Int) ((wordN f gb : Nat) : Int) = ((wordN f ga &&& wordN f gb : Nat) : Int) := and_u64 _ _ hwa2 hwb2
        have hxl : wordN f ga &&& wordN f gb < 18446744073709551616 := Nat.lt_of_le_of_lt Nat.and_le_left hwa2
        generalize wordN f ga &&& wordN f gb = xc at *
        clear HVs HV HW4 HS3
        refine (fun (KEY : Hid (∀ (pg5 : Nat → Option Nat) (w5 : World), Hid (WV H0 w w5 Vb P nt pg5 (updN f y xc) cn (.slice (some ⟨gC, 0, none⟩) c cC)) → (?PHI2 : World → Prop) w5)) => ?main) ?key
        case main =>
          go_region_law (first | (refine step_clo rfl 88 _ _ _ rfl (.pointer (some ⟨Vb, 0, none⟩)) (by rfl) (.int .u32 (ga : Int)) (by rfl) cfWord (HWd.out _ ga (by assumption) h1 ha2) ?_; rintro e w6 ⟨rfl, hb6, p0, p1, p2⟩; refine ⟨_, rfl, ?_⟩) | (refine step_clo rfl 88 _ _ _ rfl (.pointer (some ⟨Vb, 0, none⟩)) (by rfl) (.int .u32 (gb : Int)) (by rfl) cfWord (HWd.out _ gb (by assumption) h2 hb2) ?_; rintro e w6 ⟨rfl, hb6, p0, p1, p2⟩; refine ⟨_, rfl, ?_⟩) | (refine step_call3 rfl 90 _ _ _ _ rfl (.agg #[.slice (some ⟨P, 0, none⟩) nt nt]) (.int .i64 (y : Int)) (.int .u64 (xc : Int)) (by rfl) (by rfl) (by first | rfl | exact congrArg (Value.int .u64) hand) cfSetW (HSet.out _ xc (by assumption) (by assumption)) ?_; rintro e w5 ⟨rfl, pg5, hS5⟩; refine ⟨_, rfl, ?_⟩; have HS5 : Hid (WV H0 w w5 Vb P nt pg5 (updN f y xc) cn (.slice (some ⟨gC, 0, none⟩) c cC)) := hS5; clear hS5))
          all_goals exact KEY.out _ _ HS5
        case key =>
          intro pg5 w5 HS5
          go_wp2_with fail
          go_roundg (c - (k + 1))
          case measure => omega
          case rel => exact ⟨k + 1, _, _, by simp, by omega, HS5.out, HVf.out.symm⟩
    · obtain rfl : k = c := by omega
      have q1 : ¬ (k : Int) < (k : Int) := by omega
      have HFe : Hid (f = valW ns inp cn) := by show _ = _; rw [HF.out, List.take_of_length_le (by rw [HCL.out]; exact Nat.le_refl _)]
      obtain ⟨i1, hi1, hz1, hs1, hb1⟩ := info_parts (P := Try.prog) (e := 120) (z := .int .u64 0) (size := 1) (bytes := 8) (by kernel_rfl)
      have eM : ∀ W : World, (Instr.makeSlice 116 (.int .i64 (n : Int)) (.int .i64 (n : Int))).run Try.prog W = .ok (.slice (some ⟨W.heap.size, 0, none⟩) n n) (W.alloc (.cells (madeCells (Value.int .u64 0).cells (n * 1)) 120)) := fun W => by
        have := run_make (P := Try.prog) (w := W) 116 120 i1 (.int .u64 0) Try.underlying116 hi1 hz1 .i64 .i64 (n : Int) (n : Int) (by omega) (by omega) (by rw [hb1]; omega) (by omega)
        rw [this, hs1, show ((n : Int)).toNat = n by omega]
      have hsz : (madeCells (Value.int .u64 0).cells (n * 1)).size = n := by rw [size_madeCells]; omega
      clear hi1 hz1 hs1 hb1 HF HGn HND HI HCb
      generalize madeCells (Value.int .u64 0).cells (n * 1) = A at *
      go_wp2_with fail
      obtain ⟨w8, hw8⟩ : ∃ w8, w8 = wr := ⟨_, rfl⟩
      subst hw8
      obtain ⟨O, hO⟩ : ∃ O, w8.heap.size = O := ⟨_, rfl⟩
      have HO0 : Hid ((w8.alloc (.cells A 120)).heap[O]? = some (.cells A 120 (0, 0)) ∧ Below w8.heap.size w8 (w8.alloc (.cells A 120))) := ⟨by rw [← hO]; exact heap_alloc_new _ _, ag_bel1 _ _⟩
      rw [hO]
      generalize hwo : w8.alloc (.cells A 120) = wo at *
      have HSz : Hid (A.size = n) := hsz
      clear hsz hwo
      go_loopg [60] n (fun gk v60 wq => ∃ j A', v60 = .int .i64 ((j : Nat) : Int) ∧ j + gk = n ∧ Aside (wq.heap[O]? = some (.cells A' 120 (0, 0))) ∧ Aside (A'.size = n) ∧ Aside (∀ i, i < j → A'[i]? = some (.int .u64 ((wordN f (ls.getD i 0) : Nat) : Int))) ∧ Aside (Below w8.heap.size w8 wq))
      case atStart => exact ⟨0, A, rfl, by omega, HO0.out.1, HSz.out, fun i hi => by omega, HO0.out.2⟩
      case round =>
        clear HO0 HSz
        obtain ⟨j, A', rfl, hj, HA, HSz, HAt, HB⟩ := hrel
        have HS8 : Hid (WV H0 w wr Vb P nt pg f cn (.slice aC k cC)) := HS.out.over HB.out
        have hOl : O < wr.heap.size := (Array.getElem?_eq_some_iff.1 HA.out).1
        by_cases hlt : j < n
        · have q2 : (j : Int) < (n : Int) := by omega
          obtain ⟨b, off, rfl, hbb, hcc⟩ := HU2.out _ HS8.out.bel (by rw [HL.out]; omega)
          have ck := hcc j (by rw [HL.out]; exact hlt)
          have hmem : ls.getD j 0 ∈ ls := by rw [List.getD_eq_getElem?_getD, List.getElem?_eq_getElem (by rw [HL.out]; exact hlt)]; exact List.getElem_mem _
          have hx : ls.getD j 0 < 4294967296 := H32.out _ hmem
          have hx2 : ls.getD j 0 / 2 ≤ mostN ls := mostN_ge hmem
          have HWd : Hid (Calls Try.prog 88 #[.int .u32 ((ls.getD j 0 : Nat) : Int), .pointer (some ⟨Vb, 0, none⟩)] wr fun e w' => e = .returned (.int .u64 ((wordN f (ls.getD j 0) : Nat) : Int)) ∧ Below wr.heap.size wr w') :=
            word_any wr HS8.out.tb HS8.out.fl Vb HS8.out.q _ hx (Nat.lt_of_le_of_lt (Nat.div_le_div_right hx2) (by rw [← HNT.out]; omega))
          have HAt2 : Hid (∀ i, i < j + 1 → (A'.setIfInBounds j (.int .u64 ((wordN f (ls.getD j 0) : Nat) : Int)))[i]? = some (.int .u64 ((wordN f (ls.getD i 0) : Nat) : Int))) := fun i hi => by
            by_cases e : i = j
            · subst e
              rw [Array.getElem?_setIfInBounds_self_of_lt (by rw [HSz.out]; exact hlt)]
            · rw [Array.getElem?_setIfInBounds_ne (fun e2 => e e2.symm)]
              exact HAt.out i (by omega)
          clear hcc hmem hx2 HAt
          generalize wordN f (ls.getD j 0) = xv at *
          generalize ls.getD j 0 = x at *
          go_wp2_with fail
          refine HWd.out.mono ?_
          rintro e w9 ⟨rfl, hb9⟩
          have HA9 : Hid (w9.heap[O]? = some (.cells A' 120 (0, 0)) ∧ Below w8.heap.size w8 w9) := ⟨(hb9.block O hOl).trans HA.out, ag_next HB.out hb9⟩
          have k9 : w9.cell? ⟨O, j, none⟩ = some (A'[j]'(by rw [HSz.out]; exact hlt)) := by rw [ag_cell HA9.out.1 j, Array.getElem?_eq_getElem]
          have f9 : w9.frozen? ⟨O, j, none⟩ = false := ag_fz HA9.out.1 j
          clear hb9 HB HA HWd ck
          go_wp2_with fail
          go_roundg (n - (j + 1))
          case measure => omega
          case rel => exact ⟨j + 1, _, by simp, by omega, heap_setCell_same _ O j _ _ _ HA9.out.1, by show _ = _; rw [Array.size_setIfInBounds]; exact HSz.out, HAt2.out, by rw [← hO]; exact bel_set HA9.out.2 j _⟩
        · obtain rfl : j = n := by omega
          have q2 : ¬ (j : Int) < (j : Int) := by omega
          have HZ : Hid (PP (.returned (.slice (some ⟨O, 0, none⟩) j j)) wr) := HPP.out _ wr HS8.out.bel ⟨by unfold wrdV; rw [List.length_map, List.length_map, HL.out]; omega, Or.inr ⟨O, j, A', rfl, by have := HS.out.hs; omega, HA.out, Nat.le_refl _, by unfold maxLen; omega, by rw [HSz.out]; omega, by
            apply List.ext_getElem?
            intro i
            rw [← HFe.out]
            unfold wrdV
            by_cases hi : i < j
            · rw [List.getElem?_take_of_lt (by omega), Array.getElem?_toList, HAt.out i hi, List.getElem?_map, List.getElem?_map, List.getElem?_eq_getElem (by rw [HL.out]; exact hi), List.getD_eq_getElem?_getD, List.getElem?_eq_getElem (by rw [HL.out]; exact hi)]
              rfl
            · rw [List.getElem?_eq_none (by rw [List.length_take]; omega), List.getElem?_eq_none (by rw [List.length_map, List.length_map, HL.out]; omega)]⟩⟩
          clear HA HAt HB HS8 HPP
          go_wp2_with fail
          first | exact HZ.out | (go_ret; exact HZ.out)
end Go.Proofs.Ytkomadlmonhlhaa
