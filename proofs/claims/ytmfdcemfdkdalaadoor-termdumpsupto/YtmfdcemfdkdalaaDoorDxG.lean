import Derived.Test.YtmfdcemfdkdalaaDoorDxF
import Derived.Deep.RegionLaw
import Derived.Test.YtmfdcemfdkdalaaDoorDxP
namespace Go.Proofs.YtmfdcemfdkdalaaDoor
open Go.ChangeShapes Go.WideShapes Go.ChangeAt Go.RowKit Go.Lib Go.Tm Go.Bw Go.Bn Go.WideMaps Go.Maps Go.ChangeMaps

theorem made_int (n : Nat) : (madeCells #[Value.int .i64 0] n).toList = intV (List.replicate n 0) := by
  unfold madeCells intV
  refine List.ext_getElem (by simp) fun i h1 h2 => ?_
  simp [Nat.mod_one]
theorem RD.start (w : World) (n : Nat) (hn : n ≤ 1000000000001) : RD w.heap.size w (List.replicate n 0) [] (.slice (some ⟨w.heap.size, 0, none⟩) n n) (.slice none 0 0) (w.alloc (.cells (madeCells #[.int .i64 0] n) 3)) := by
  have hsz : (madeCells #[Value.int .i64 0] n).size = n := size_madeCells _ _
  refine ⟨⟨by unfold intV; simp, Or.inr ⟨w.heap.size, n, madeCells #[.int .i64 0] n, by simp, Nat.le_refl _, heap_alloc_new w _, by simp, by unfold maxLen; omega, by omega, ?_⟩⟩, World.ownsRow_nil _ _ _ _, bel1 _ _, by simp⟩
  rw [List.take_of_length_le (by simp [hsz])]
  exact made_int n
/-- the numbers of the lines, as a row -/
def atsO (O : List Nat) (i n : Nat) : List Int := (List.range n).map fun x : Nat => lnO O i (x : Int)
theorem atsO_len (O : List Nat) (i n : Nat) : (atsO O i n).length = n := by unfold atsO; simp
theorem atsO_zero (O : List Nat) (n : Nat) : atsO O 0 n = List.replicate n 0 := by
  unfold atsO
  refine List.ext_getElem (by simp) fun k h1 h2 => ?_
  simp [lnO, pf]
theorem atsO_next (O : List Nat) (i n : Nat) : (atsO O i n).set (O.getD i 0) ((i : Int) + 1) = atsO O (i + 1) n := by
  refine List.ext_getElem (by simp [atsO_len]) fun k h1 h2 => ?_
  rw [List.getElem_set]
  have e1 : (atsO O i n)[k]'(by simpa using h1) = lnO O i k := by unfold atsO; simp
  have e2 : (atsO O (i + 1) n)[k]'h2 = lnO O (i + 1) k := by simp [atsO]
  rw [e1, e2]
  unfold lnO
  show _ = (if (k : Int) = ((O.getD i 0 : Nat) : Int) then some ((i : Int) + 1) else pf O i k).getD 0
  by_cases h : O.getD i 0 = k
  · rw [if_pos h, if_pos (by omega)]
    rfl
  · rw [if_neg h, if_neg (by omega)]
theorem atsO_at (O : List Nat) (i n k : Nat) (h : k < n) : (intV (atsO O i n))[k]? = some (.int .i64 (lnO O i (k : Int))) := by
  unfold intV atsO
  simp [h]
theorem step_append_str {ops : Array Oper} {o : Oper} {a : Act} {w : World} {K : Act → World → Prop} {Q : Exit → Act → World → Prop} {E : Prop} (hgd : o.guard = none) (sl x : Operand) (t u : TypeId)
    (ho : o.op = .call { callee := .builtin .append, args := #[sl, x], argTypes := #[t, u] })
    (base : Nat) (e : TypeId) (i : TypeInfo) (ht : Tryd.prog.underlying t = some (.slice e)) (hu : Tryd.prog.underlying u = some .string) (hi : Tryd.prog.info? e = some i) (hz : i.zero = some (.int .u8 0))
    (hsize : i.size = 1) (hby : i.bytes = 1)
    (v : Value) (n : Nat) (xs : List Value) (hs : a.eval sl = v) (hown : w.ownsRow base e 1 v n xs) (s : ByteArray) (hx : a.eval x = .string s)
    (h63 : n + s.size ≤ maxLen) (hbytes : n + s.size ≤ 140737488355328) (hbase : base ≤ w.heap.size)
    (h : ∀ v' w', w'.ownsRow base e 1 v' (n + s.size) (xs ++ strCells s) → w.grownBy w' v.ownBlock → K (a.put o.dst v') w') :
    if Region.wanted o (yielded ops a.tmps) = true then Oper.wp Tryd.prog o a w K Q else E := by
  have hw : Region.wanted o (yielded ops a.tmps) = true := by simp [Region.wanted, hgd]
  rw [if_pos hw]
  obtain ⟨v', w', hr, h2, h3, h4⟩ := run_append_own_string (P := Tryd.prog) w base t u o.type e i ht hu hi hz hsize hby v n xs hown s h63 hbytes hbase
  unfold Oper.wp execOp
  simp only [ho, resolve, invoke, builtin, Sem.run_bind, Sem.run_pure, Result.andThen_ok, List.map_toArray, List.map_cons, List.map_nil, hs, hx, hr]
  exact h v' w' h2 h3
theorem step_call1 {ops : Array Oper} {o : Oper} {a : Act} {w : World} {K : Act → World → Prop} {Q : Exit → Act → World → Prop} {E : Prop} (hgd : o.guard = none) (f : FuncId) (x : Operand) (ts : Array TypeId)
    (ho : o.op = .call { callee := .value (.func f), args := #[x], argTypes := ts }) (xv : Value) (hx : a.eval x = xv) {R : Ending → World → Prop} (hcf : ∀ args W, (callFunc f args).run Tryd.prog W = .ok (.enter f args) W) (hc : Calls Tryd.prog f #[xv] w R)
    (h : ∀ e w', R e w' → ∃ v, e = .returned v ∧ K (a.put o.dst v) w') :
    if Region.wanted o (yielded ops a.tmps) = true then Oper.wp Tryd.prog o a w K Q else E := by
  have hw : Region.wanted o (yielded ops a.tmps) = true := by simp [Region.wanted, hgd]
  rw [if_pos hw]
  have hr : (execOp a.eval o).run Tryd.prog w = .ok (.enter f #[xv]) w := by
    unfold execOp
    have ef : a.eval (.func f) = .func (.func f) #[] #[] := rfl
    simp [ho, resolve, Deferred.ofValue, invoke, hx, ef, hcf]
  unfold Oper.wp
  rw [hr, Oper.upon_enter]
  refine hc.mono fun e w' hR => ?_
  obtain ⟨v, rfl, hk⟩ := h e w' hR
  exact hk
theorem cf_of {f : FuncId} {fn : Func} (h : Tryd.prog.funcs[f]? = some fn) (h1 : (fn.name == "runtime.NumGoroutine") = false) (h2 : fn.body.isNone = false) (args : Array Value) (W : World) : (callFunc f args).run Tryd.prog W = .ok (.enter f args) W := by
  have e1 : ¬ fn.name = "runtime.NumGoroutine" := fun e => by rw [e] at h1; simp at h1
  have e2 : ¬ fn.body = none := fun e => by rw [e] at h2; cases h2
  unfold callFunc
  simp [h, e1, e2]
theorem cfItoa (args : Array Value) (W : World) : (callFunc 15 args).run Tryd.prog W = .ok (.enter 15 args) W := cf_of Tryd.func15 (by kernel_rfl) (by kernel_rfl) args W
theorem cfWord (args : Array Value) (W : World) : (callFunc 16 args).run Tryd.prog W = .ok (.enter 16 args) W := cf_of Tryd.func16 (by kernel_rfl) (by kernel_rfl) args W
theorem cfText (args : Array Value) (W : World) : (callFunc 18 args).run Tryd.prog W = .ok (.enter 18 args) W := cf_of Tryd.func18 (by kernel_rfl) (by kernel_rfl) args W
theorem str_at {fl : List UInt8} (q : Nat) (hq : q < fl.length) (W : World) : (Instr.index 9 (.string ⟨fl.toArray⟩) (.int .i64 (q : Int))).run Tryd.prog W = .ok (.int .u8 ((fl.getD q 0).toNat : Int)) W := by
  have hs : (⟨fl.toArray⟩ : ByteArray).size = fl.length := by rw [Lib.size_eq]
  rw [run_index_string _ _ _ _ _ Tryd.underlying9, dif_pos ⟨by omega, by rw [hs]; omega⟩]
  simp [hq]
  rfl
/-- what is not of bytes stands -/
def KU (w w' : World) : Prop := ∀ (k : Nat) (cs : Array Value) (t : TypeId) (fr : Nat × Nat), w.heap[k]? = some (Obj.cells cs t fr) → t ≠ 5 → w'.heap[k]? = some (Obj.cells cs t fr)
theorem KU.refl (w : World) : KU w w := fun _ _ _ _ h _ => h
theorem KU.trans {a b c : World} (h : KU a b) (h2 : KU b c) : KU a c := fun k cs t fr h3 h4 => h2 k cs t fr (h k cs t fr h3 h4) h4
theorem KU.below {w w' : World} (h : Below w.heap.size w w') : KU w w' := fun k _ _ _ h1 _ => (h.block k (Array.getElem?_eq_some_iff.1 h1).1).trans h1
theorem KU.str {H0 n : Nat} {w w' : World} {vO : Value} {L : List Value} (hr : w.ownsRow H0 5 1 vO n L) (hg : w.grownBy w' vO.ownBlock) : KU w w' := fun k cs t fr h1 h2 => by
  refine (hg.block k (Array.getElem?_eq_some_iff.1 h1).1 (fun e => ?_)).trans h1
  obtain ⟨c2, f2, e2⟩ := row_ty hr e.symm
  rw [h1] at e2
  injection e2 with e2
  injection e2 with _ e3
  exact h2 e3
theorem KU.cell {w w' : World} (h : KU w w') {k : Nat} {cs : Array Value} {t : TypeId} {fr : Nat × Nat} (h1 : w.heap[k]? = some (.cells cs t fr)) (h2 : t ≠ 5) (j : Nat) : w'.cell? ⟨k, j, none⟩ = cs[j]? := by
  simp [World.cell?, h k cs t fr h1 h2]
/-- a text appended -/
theorem RD.app {H0 : Nat} {w0 w w' : World} {ats : List Int} {txt : List UInt8} {vA v' : Value} {a : Option Addr} {z c : Nat} {s : ByteArray} (h : RD H0 w0 ats txt vA (.slice a z c) w) (hz : txt.length = z) (hr : w'.ownsRow H0 5 1 v' (z + s.size) (Lib.byteCells txt ++ Lib.strCells s)) (hg : w.grownBy w' (Value.slice a z c).ownBlock) : RD H0 w0 ats (txt ++ s.data.toList) vA v' w' ∧ KU w w' ∧ ∃ a2 c2, v' = .slice a2 (z + s.size) c2 := by
  refine ⟨h.str hg ?_, KU.str h.ol hg, own_form hr⟩
  rw [bc_app, List.length_append, hz]
  exact hr
theorem str_app (a b : List UInt8) : ((⟨a.toArray⟩ : ByteArray) ++ (⟨b.toArray⟩ : ByteArray)).data.toList = a ++ b := by simp
set_option maxHeartbeats 8000000 in
set_option maxRecDepth 100000 in
theorem rdump_ok (B0 B : Nat) (lim : Int) (L : List Nd) (v : Value) (M1 M2 : Option Nat) {ad : Option Addr} {cp : Nat} {xs : List Int} (w : World) (hS : SM 60 w B0 B lim L v M1 M2) (hPA : PAR L) (hsh : ∀ n ∈ L, SHP n) (h : IR w ad xs) (hxl : xs.length ≤ 1048576) (hxI : ∀ j, j < xs.length → isT L (xs.getD j 0) = true) (O : List Nat) (hO : ∀ j, j < O.length → 1 ≤ O.getD j 0 ∧ O.getD j 0 ≤ L.length) (hOl : O.length ≤ 1048576) (hE : ENVG w)
    (hOr : Calls Tryd.prog 14 #[.pointer (some ⟨B, 0, none⟩), .slice ad xs.length cp] w fun e w' => ∃ a c, e = .returned (.tuple #[.slice a O.length c, .int .i64 0]) ∧ Below w.heap.size w w' ∧ w'.ownsRow w.heap.size 3 1 (.slice a O.length c) O.length (natV O)) :
    Calls Tryd.prog 6 #[.pointer (some ⟨B, 0, none⟩), .slice ad xs.length cp] w fun e w' => e = .returned (.tuple #[.string ⟨(dumpT L O xs).toArray⟩, .int .i64 0]) ∧ Below w.heap.size w w' := by
  generalize hPP : (fun (e : Ending) (w' : World) => e = .returned (.tuple #[.string ⟨(dumpT L O xs).toArray⟩, .int .i64 0]) ∧ Below w.heap.size w w') = PP
  have HPP : Hid (∀ w', Below w.heap.size w w' → PP (.returned (.tuple #[.string ⟨(dumpT L O xs).toArray⟩, .int .i64 0])) w') := fun w' h => by rw [← hPP]; exact ⟨rfl, h⟩
  clear hPP
  have HO : Hid (Calls Tryd.prog 14 #[.pointer (some ⟨B, 0, none⟩), .slice ad xs.length cp] w fun e w' => ∃ a c, e = .returned (.tuple #[.slice a O.length c, .int .i64 0]) ∧ Below w.heap.size w w' ∧ w'.ownsRow w.heap.size 3 1 (.slice a O.length c) O.length (natV O)) := hOr
  have HS : Hid (SM 60 w B0 B lim L v M1 M2) := hS
  have HSH : Hid (∀ n ∈ L, SHP n) := hsh
  have HPA : Hid (PAR L) := hPA
  have HI : Hid (IR w ad xs) := h
  have HXI : Hid (∀ j, j < xs.length → isT L (xs.getD j 0) = true) := hxI
  have HOB : Hid (∀ j, j < O.length → 1 ≤ O.getD j 0 ∧ O.getD j 0 ≤ L.length) := hO
  have HE : Hid (ENVG w) := hE
  clear hOr hsh h hxI hO hE hPA
  obtain ⟨k, hk⟩ : ∃ k, xs.length = k := ⟨_, rfl⟩
  have HK : Hid (xs.length = k) := hk
  obtain ⟨m, hm⟩ : ∃ m, O.length = m := ⟨_, rfl⟩
  have HM : Hid (O.length = m) := hm
  rw [hk] at hxl HO ⊢
  rw [hm] at hOl HO
  clear hk hm
  obtain ⟨adL, cL, hv, hcL, hcell⟩ := hS.form
  subst hv
  obtain ⟨n, hn⟩ : ∃ n, L.length = n := ⟨_, rfl⟩
  have HN : Hid (L.length = n) := hn
  have hnb : n ≤ 1000000000000 := by have := hS.len; omega
  have HCB : Hid (∀ W, Below w.heap.size w W → W.cell? ⟨B, 1, none⟩ = some (.slice adL n cL)) := fun W hb => by
    rw [← hn]
    exact cell_keep (blk_cell HS.out.blk 1) hb
  clear hS hcell
  go_enter Tryd.func6, Tryd.ntmps6
  go_wp2_with fail
  refine HO.out.mono ?_
  rintro e w1 ⟨a1, c1, rfl, hb1, ho1⟩
  have HB1 : Hid (Below w.heap.size w w1) := hb1
  have HR1 : Hid (w1.ownsRow w.heap.size 3 1 (.slice a1 m c1) m (natV O)) := ho1
  have k1 := HCB.out _ hb1
  clear hb1 ho1 HO
  obtain ⟨i1, hi1, hz1, hs1, hby1⟩ := info_parts (P := Tryd.prog) (e := 3) (z := .int .i64 0) (size := 1) (bytes := 8) (by kernel_rfl)
  have e1 : ∀ W : World, (Instr.makeSlice 23 (.int .i64 ((n : Int) + 1)) (.int .i64 ((n : Int) + 1))).run Tryd.prog W = .ok (.slice (some ⟨W.heap.size, 0, none⟩) (n + 1) (n + 1)) (W.alloc (.cells (madeCells (Value.int .i64 0).cells ((n + 1) * 1)) 3)) := fun W => by
    have := run_make (P := Tryd.prog) (w := W) 23 3 i1 (.int .i64 0) Tryd.underlying23 hi1 hz1 .i64 .i64 ((n : Int) + 1) ((n : Int) + 1) (by omega) (by omega) (by rw [hby1]; omega) (by omega)
    rw [hs1] at this
    exact this
  go_wp2_with fail
  have HBB : Hid (∀ ats txt vA vO W, RD w1.heap.size w1 ats txt vA vO W → Below w.heap.size w W) := fun ats txt vA vO W hD => HB1.out.trans (below_le hD.bel HB1.out.size)
  have HEN : Hid (∀ ats txt vA vO W, RD w1.heap.size w1 ats txt vA vO W → ENVG W) := fun ats txt vA vO W hD => HE.out.on (HBB.out _ _ _ _ _ hD)
  have HOC : Hid (0 < m → ∃ g, a1 = some ⟨g, 0, none⟩ ∧ ∀ W, Below w1.heap.size w1 W → ∀ j, j < m → W.cell? ⟨g, j, none⟩ = some (.int .i64 ((O.getD j 0 : Nat) : Int))) := fun h0 => by
    have hr := HR1.out
    rcases hr.2 with ⟨e, e0⟩ | ⟨g, cap, cur, e, h2, h3, h4⟩
    · omega
    · have e2 : a1 = some ⟨g, 0, none⟩ := by injection e
      refine ⟨g, e2, fun W hb j hj => ?_⟩
      rw [e] at hr
      refine cell_keep ?_ hb
      rw [hr.cellAt j (by omega), natV_at (by rw [HM.out]; exact hj)]
  have HTL : Hid (∀ i, i ≤ m → (tx L O i).length ≤ 419430400) := fun i hi => by
    have := tx_len L O HSH.out HS.out.okL HOB.out i (by rw [HM.out]; exact hi) (by omega)
    omega
  have HD0 : Hid (RD w1.heap.size w1 (atsO O 0 (n + 1)) (tx L O 0) (.slice (some ⟨w1.heap.size, 0, none⟩) (n + 1) (n + 1)) (.slice none 0 0) (w1.alloc (.cells (madeCells #[Value.int .i64 0] (n + 1)) 3))) := by
    rw [atsO_zero]
    exact RD.start w1 (n + 1) (by omega)
  obtain ⟨W0, hW0⟩ : ∃ W0, w1.alloc (.cells (madeCells #[Value.int .i64 0] (n + 1)) 3) = W0 := ⟨_, rfl⟩
  rw [hW0] at HD0 ⊢
  obtain ⟨M, hMs⟩ : ∃ M, w1.heap.size = M := ⟨_, rfl⟩
  rw [hMs] at HBB HEN HD0 HOC ⊢
  clear hW0 HR1 e1 k1 hMs
  go_loopg [9, 10] m (fun gk s9 s10 wr => ∃ i : Nat, s10 = .int .i64 (i : Int) ∧ i + gk = m ∧ Aside (RD M w1 (atsO O i (n + 1)) (tx L O i) (.slice (some ⟨M, 0, none⟩) (n + 1) (n + 1)) s9 wr))
  case atStart => exact ⟨0, rfl, by omega, HD0.out⟩
  case round =>
    obtain ⟨i, rfl, hi, HJ⟩ := hrel
    clear HD0
    by_cases hlt : i < m
    · obtain ⟨a9, c9, e9⟩ := own_form HJ.out.ol
      subst e9
      obtain ⟨z9, hz9⟩ : ∃ z, (tx L O i).length = z := ⟨_, rfl⟩
      have HZ9 : Hid ((tx L O i).length = z9) := hz9
      have hD9 : RD M w1 (atsO O i (n + 1)) (tx L O i) (.slice (some ⟨M, 0, none⟩) (n + 1) (n + 1)) (.slice a9 z9 c9) wr := by rw [← hz9]; exact HJ.out
      have hzl : z9 ≤ 419430400 := by have := HTL.out i (by omega); omega
      rw [hz9]
      clear hz9 HJ
      obtain ⟨g, rfl, hgc⟩ := HOC.out (by omega)
      have hOi := HOB.out i (by rw [HM.out]; exact hlt)
      rw [HN.out] at hOi
      obtain ⟨s, hs⟩ : ∃ s, O.getD i 0 = s + 1 := ⟨O.getD i 0 - 1, by omega⟩
      have c1 : wr.cell? ⟨g, i, none⟩ = some (.int .i64 ((s : Int) + 1)) := by
        have := hgc wr hD9.bel i hlt
        rw [hs] at this
        exact this
      have hsL : s < n := by omega
      obtain ⟨fz, oc, hoc⟩ : wr.frozen? ⟨M, s + 1, none⟩ = false ∧ ∃ z, wr.cell? ⟨M, s + 1, none⟩ = some z := by
        have r := hD9.al
        rw [atsO_len] at r
        rcases r.2 with ⟨e, _⟩ | ⟨b', cap, cur, e, _, hb, _⟩
        · cases e
        · cases e
          refine ⟨by simp [World.frozen?, hb], ?_⟩
          rw [r.cellAt (s + 1) (by omega), atsO_at O i (n + 1) (s + 1) (by omega)]
          exact ⟨_, rfl⟩
      have hD2 : RD M w1 (atsO O (i + 1) (n + 1)) (tx L O i) (.slice (some ⟨M, 0, none⟩) (n + 1) (n + 1)) (.slice a9 z9 c9) (wr.setCell ⟨M, s + 1, none⟩ (.int .i64 ((i : Int) + 1))) := by
        have h7 := hD9.set (by rw [atsO_len]) (j := s + 1) ((i : Int) + 1)
        rw [← hs, atsO_next, hs] at h7
        exact h7
      have q1 : (i : Int) < (m : Int) := by omega
      obtain ⟨W2, hW2⟩ : ∃ W2, wr.setCell ⟨M, s + 1, none⟩ (.int .i64 ((i : Int) + 1)) = W2 := ⟨_, rfl⟩
      have HW2 : Hid (wr.setCell ⟨M, s + 1, none⟩ (.int .i64 ((i : Int) + 1)) = W2) := hW2
      rw [hW2] at hD2
      have hb2 := HBB.out _ _ _ _ _ hD2
      have c2 : W2.cell? ⟨g, i, none⟩ = some (.int .i64 ((s : Int) + 1)) := by
        have := hgc W2 hD2.bel i hlt
        rw [hs] at this
        exact this
      obtain ⟨adL2, cL2, hv2, hcL2, hcell⟩ := HS.out.form
      rw [HN.out] at hv2
      cases hv2
      obtain ⟨gL, rfl, hgL⟩ := hcell (by rw [HN.out]; omega)
      have kB := HCB.out _ hb2
      obtain ⟨nd, hn⟩ : ∃ nd, L.getD s z0 = nd := ⟨_, rfl⟩
      have hnc : ∀ j u, j < 7 → (ndC nd)[j]? = some u → W2.cell? ⟨gL, s * 7 + j, none⟩ = some u := fun j u hj hu => cell_keep (by rw [hgL s j (by rw [HN.out]; omega) hj, hn]; exact hu) hb2
      have n0 := hnc 0 _ (by omega) rfl
      have n1 := hnc 1 _ (by omega) rfl
      have n2 := hnc 2 _ (by omega) rfl
      have n3 := hnc 3 _ (by omega) rfl
      have n4 := hnc 4 _ (by omega) rfl
      have n5 := hnc 5 _ (by omega) rfl
      have n6 := hnc 6 _ (by omega) rfl
      simp only [Nat.add_zero] at n0
      have hnL : nd ∈ L := by rw [← hn]; exact getD_mem' (by rw [HN.out]; exact hsL)
      have hnk := HS.out.okL nd hnL
      have hnS := HSH.out nd hnL
      have HD2 : Hid (RD M w1 (atsO O (i + 1) (n + 1)) (tx L O i) (.slice (some ⟨M, 0, none⟩) (n + 1) (n + 1)) (.slice a9 z9 c9) W2) := hD2
      have HTx : Hid (tx L O (i + 1) = tx L O i ++ (Lib.itoa ((i : Int) + 1) ++ 32 :: wordB nd.op.toNat ++ ftx (lnO O (i + 1)) nd (flB nd.op).length ++ [10])) := by
        show tx L O i ++ ndT (lnO O (i + 1)) ((i : Int) + 1) (L.getD (O.getD i 0 - 1) z0) = _
        rw [hs, Nat.add_sub_cancel, hn, ndT_ftx _ _ _ hnS hnk]
      have HNK : Hid (nd.ok) := hnk
      have HPB : Hid (∀ p, 0 ≤ nth3 nd p ∧ nth3 nd p ≤ (n : Int)) := fun p => by
        have h7 := HPA.out s (by rw [HN.out]; exact hsL)
        rw [hn] at h7
        unfold nth3
        split
        · omega
        · split <;> omega
      have bl1 := cell_lt c2
      have bl2 := cell_lt kB
      have bl3 := cell_lt n1
      have HNS : Hid (SHP nd) := hnS
      clear hD9 hgc hOi hs hgL hcell hD2 hn hnc hnL hnk hnS hcL2 hW2 hb2
      go_wp2_with fail
      rw [HW2.out]
      go_region
      generalize hat2 : atsO O (i + 1) (n + 1) = ats at *
      generalize htx9 : tx L O i = txt at *
      have H3 : Hid (RD M w1 ats txt (.slice (some ⟨M, 0, none⟩) (n + 1) (n + 1)) (.slice a9 z9 c9) (W2.alloc (.cells #[.int .i64 nd.op, .int .i64 nd.w, .int .i64 nd.a, .int .i64 nd.b, .int .i64 nd.c, .int .u64 nd.num, .string nd.name] 41)).drew) := HD2.out.over (Below.drew (bel1 _ _))
      have H3b : Hid ((W2.alloc (.cells #[.int .i64 nd.op, .int .i64 nd.w, .int .i64 nd.a, .int .i64 nd.b, .int .i64 nd.c, .int .u64 nd.num, .string nd.name] 41)).drew.heap[W2.heap.size]? = some (.cells #[.int .i64 nd.op, .int .i64 nd.w, .int .i64 nd.a, .int .i64 nd.b, .int .i64 nd.c, .int .u64 nd.num, .string nd.name] 41 (0, 0))) := heap_alloc_new _ _
      generalize (W2.alloc (.cells #[.int .i64 nd.op, .int .i64 nd.w, .int .i64 nd.a, .int .i64 nd.b, .int .i64 nd.c, .int .u64 nd.num, .string nd.name] 41)).drew = W3 at *
      generalize W2.heap.size = bx at *
      clear n0 n1 n2 n3 n4 n5 n6 kB c2 c1 fz hoc HW2 HD2 bl1 bl2 bl3
      have HNB : Hid (∀ W, KU W3 W → W.heap[bx]? = some (.cells #[.int .i64 nd.op, .int .i64 nd.w, .int .i64 nd.a, .int .i64 nd.b, .int .i64 nd.c, .int .u64 nd.num, .string nd.name] 41 (0, 0))) := fun W hK => hK _ _ _ _ H3b.out (by decide)
      have hwr : IntKind.i64.wrap ((i : Int) + 1) = (i : Int) + 1 := by
        simp [IntKind.wrap, IntKind.bits, IntKind.signed]
        omega
      have HIt : Hid (Calls Tryd.prog 15 #[.int .i64 ((i : Int) + 1)] W3.drew fun e w' => e = .returned (.string ⟨(Lib.itoa ((i : Int) + 1)).toArray⟩) ∧ Below W3.heap.size W3 w') :=
        (itoa_any ((i : Int) + 1) (by omega) (by omega) W3.drew ⟨(HEN.out _ _ _ _ _ H3.out).tab, (HEN.out _ _ _ _ _ H3.out).deb⟩).mono fun e w' h7 => ⟨h7.1, (Below.drew (Below.refl _ _)).trans h7.2⟩
      obtain ⟨hop1, hop2⟩ := HNS.out.op
      obtain ⟨op, hop⟩ : ∃ op : Nat, nd.op = (op : Int) := ⟨nd.op.toNat, by omega⟩
      have HWd : Hid (∀ W, Calls Tryd.prog 16 #[.int .i64 (op : Int)] W fun e w' => e = .returned (.string ⟨(wordB op).toArray⟩) ∧ Below W.heap.size W w') := fun W => rword_any op (by omega) W
      have c0 : W3.cell? ⟨bx, 0, none⟩ = some (.int .i64 (op : Int)) := by
        have := KU.cell (KU.refl W3) H3b.out (by decide) 0
        rw [hop] at this
        exact this
      have hil := itoa_len (x := (i : Int) + 1) (by omega) (by omega)
      have hwl := wordB_len op
      obtain ⟨i0, hi0, hz0, hz1, hz2⟩ := info_parts Tryd.info5
      obtain ⟨S1, hS1⟩ : ∃ S1, (⟨(Lib.itoa ((i : Int) + 1)).toArray⟩ : ByteArray) = S1 := ⟨_, rfl⟩
      have HS1 : Hid (S1.data.toList = Lib.itoa ((i : Int) + 1) ∧ S1.size ≤ 21) := by rw [← hS1]; exact ⟨by simp, by rw [Lib.size_eq]; simpa using hil⟩
      obtain ⟨S2, hS2⟩ : ∃ S2, (⟨(wordB op).toArray⟩ : ByteArray) = S2 := ⟨_, rfl⟩
      have HS2 : Hid (S2.data.toList = wordB op ∧ S2.size ≤ 5) := by rw [← hS2]; exact ⟨by simp, by rw [Lib.size_eq]; simpa using hwl⟩
      rw [hS1] at HIt
      rw [hS2] at HWd
      clear hS1 hS2 hil hwl
      have l1 : ¬ 9223372036854775807 < S1.size + 1 := by have := HS1.out.2; omega
      have l2 : ¬ 9223372036854775807 < S1.size + 1 + S2.size := by have := HS1.out.2; have := HS2.out.2; omega
      have hsz8 : z9 + (S1 ++ ⟨#[32]⟩ ++ S2).size ≤ 419430500 := by
        have h7 : (⟨#[32]⟩ : ByteArray).size = 1 := rfl
        have := HS1.out.2
        have := HS2.out.2
        rw [ByteArray.size_append, ByteArray.size_append, h7]
        omega
      go_wp2_with fail
      refine (fun (KEY : Hid (∀ (w8 : World) (v8 : Value), Hid (RD M w1 ats (txt ++ (S1 ++ ⟨#[32]⟩ ++ S2).data.toList) (.slice (some ⟨M, 0, none⟩) (n + 1) (n + 1)) v8 w8 ∧ KU W3 w8 ∧ ∃ a2 c2, v8 = .slice a2 (z9 + (S1 ++ ⟨#[32]⟩ ++ S2).size) c2) → (?PHI : World → Value → Prop) w8 v8)) => ?main) ?key
      case main =>
        go_region_law (first
          | (refine step_call1 rfl 15 _ _ rfl (.int .i64 ((i : Int) + 1)) (by rfl) cfItoa HIt.out ?_; rintro e w6 ⟨rfl, hb6⟩; refine ⟨_, rfl, ?_⟩; have HB6 : Hid (Below W3.heap.size W3 w6) := hb6; have c06 : w6.cell? ⟨bx, 0, none⟩ = some (.int .i64 (op : Int)) := cell_keep c0 hb6; clear hb6)
          | (refine step_call1 rfl 16 _ _ rfl (.int .i64 (op : Int)) (by rfl) cfWord (HWd.out _) ?_; rintro e w7 ⟨rfl, hb7⟩; refine ⟨_, rfl, ?_⟩; have H7 : Hid (RD M w1 ats txt (.slice (some ⟨M, 0, none⟩) (n + 1) (n + 1)) (.slice a9 z9 c9) w7 ∧ KU W3 w7) := ⟨(H3.out.over HB6.out).over hb7, (KU.below HB6.out).trans (KU.below hb7)⟩; clear hb7)
          | (refine step_append_str rfl _ _ 48 9 rfl M 5 i0 Tryd.underlying48 Tryd.underlying9 hi0 hz0 hz1 hz2 _ z9 (Lib.byteCells txt) rfl (by have h7 := H7.out.1.ol; rw [HZ9.out] at h7; exact h7) (S1 ++ ⟨#[32]⟩ ++ S2) rfl (by unfold maxLen; omega) (by omega) H7.out.1.sz ?_; intro v8 w8 hown8 hgrow8; have H8 : Hid (RD M w1 ats (txt ++ (S1 ++ ⟨#[32]⟩ ++ S2).data.toList) (.slice (some ⟨M, 0, none⟩) (n + 1) (n + 1)) v8 w8 ∧ KU W3 w8 ∧ ∃ a2 c2, v8 = .slice a2 (z9 + (S1 ++ ⟨#[32]⟩ ++ S2).size) c2) := (by obtain ⟨q1, q2, q3⟩ := H7.out.1.app HZ9.out hown8 hgrow8; exact ⟨q1, H7.out.2.trans q2, q3⟩); clear hown8 hgrow8))
        all_goals exact KEY.out _ _ H8
      case key =>
        intro w8 v8 H8
        obtain ⟨hD8, hK8, a8, c8, rfl⟩ := H8.out
        obtain ⟨z8, hz8⟩ : ∃ z, z9 + (S1 ++ ⟨#[32]⟩ ++ S2).size = z := ⟨_, rfl⟩
        obtain ⟨T1, hT1⟩ : ∃ T, txt ++ (S1 ++ ⟨#[32]⟩ ++ S2).data.toList = T := ⟨_, rfl⟩
        have HT1 : Hid (T1 = txt ++ (Lib.itoa ((i : Int) + 1) ++ 32 :: wordB op)) := by
          show _ = _
          rw [← hT1]
          simp [HS1.out.1, HS2.out.1]
        have HZ8 : Hid (T1.length = z8) := by
          show _ = _
          have e7 := (hD8.ol).1
          rw [← hz8, ← hT1, List.length_append, HZ9.out, ← Lib.size_eq]
        rw [hT1, hz8] at hD8
        rw [hz8] at hsz8 ⊢
        have HD8 : Hid (RD M w1 ats T1 (.slice (some ⟨M, 0, none⟩) (n + 1) (n + 1)) (.slice a8 z8 c8) w8) := hD8
        have HK8 : Hid (KU W3 w8) := hK8
        clear hD8 hK8 H8 hz8 hT1 l1 l2 HIt HWd HS1 HS2 c0
        have d0 : w8.cell? ⟨bx, 0, none⟩ = some (.int .i64 (op : Int)) := by
          have h7 := KU.cell HK8.out H3b.out (by decide) 0
          rw [hop] at h7
          exact h7
        have d2 : w8.cell? ⟨bx, 2, none⟩ = some (.int .i64 nd.a) := KU.cell HK8.out H3b.out (by decide) 2
        have d3 : w8.cell? ⟨bx, 3, none⟩ = some (.int .i64 nd.b) := KU.cell HK8.out H3b.out (by decide) 3
        have d4 : w8.cell? ⟨bx, 4, none⟩ = some (.int .i64 nd.c) := KU.cell HK8.out H3b.out (by decide) 4
        have bl8 := cell_lt d0
        have HFl : Hid (∀ W, Calls Tryd.prog 17 #[.int .i64 (op : Int)] W fun e w' => e = .returned (.string ⟨(flB (op : Int)).toArray⟩) ∧ w' = W) := fun W => rfields_any (op : Int) (by omega) (by omega) W
        go_wp2_with (go_at_call 17; refine (HFl.out _).mono ?_; rintro e w' ⟨rfl, hw⟩; obtain rfl := hw.symm)
        have H9 : Hid (RD M w1 ats T1 (.slice (some ⟨M, 0, none⟩) (n + 1) (n + 1)) (.slice a8 z8 c8) (w8.alloc (.cells #[.int .i64 nd.a, .int .i64 nd.b, .int .i64 nd.c] 62)) ∧ KU W3 (w8.alloc (.cells #[.int .i64 nd.a, .int .i64 nd.b, .int .i64 nd.c] 62))) := ⟨HD8.out.over (bel1 _ _), HK8.out.trans (KU.below (bel1 _ _))⟩
        have H9b : Hid ((w8.alloc (.cells #[.int .i64 nd.a, .int .i64 nd.b, .int .i64 nd.c] 62)).heap[w8.heap.size]? = some (.cells #[.int .i64 nd.a, .int .i64 nd.b, .int .i64 nd.c] 62 (0, 0))) := heap_alloc_new _ _
        generalize (w8.alloc (.cells #[.int .i64 nd.a, .int .i64 nd.b, .int .i64 nd.c] 62)) = W9 at *
        generalize w8.heap.size = bl at *
        clear d0 d2 d3 d4 bl8 HFl HD8 HK8
        obtain ⟨fl, hfl⟩ : ∃ fl, (flB (op : Int)).length = fl := ⟨_, rfl⟩
        have HFL : Hid ((flB (op : Int)).length = fl) := hfl
        have hfs : (⟨(flB (op : Int)).toArray⟩ : ByteArray).size = fl := by rw [← hfl, Lib.size_eq]
        have HIX : Hid (∀ (q : Nat), q < fl → ∀ W : World, (Instr.index 9 (.string ⟨(flB (op : Int)).toArray⟩) (.int .i64 (q : Int))).run Tryd.prog W = .ok (.int .u8 (((flB (op : Int)).getD q 0).toNat : Int)) W) := fun q hq W => str_at q (by rw [hfl]; exact hq) W
        have hfl3 : fl ≤ 3 := by rw [← hfl]; exact flB_len _
        clear hfl
        generalize hSF : (⟨(flB (op : Int)).toArray⟩ : ByteArray) = SF at *
        clear hSF
        have HfB : Hid (∀ x, 0 ≤ lnO O (i + 1) x ∧ lnO O (i + 1) x ≤ 1000000000000) := fun x => by have := lnO_bd O x (i + 1); omega
        have HXL : Hid (∀ q, q ≤ 3 → (T1 ++ ftx (lnO O (i + 1)) nd q).length ≤ 419430600) := fun q hq => by
          have := ftx_len (lnO O (i + 1)) HfB.out nd HNS.out q
          rw [List.length_append, HZ8.out]
          omega
        go_loopg [9, 13, 15] fl (fun gk s9 s13 s15 wr => ∃ q : Nat, s15 = .int .i64 (q : Int) ∧ s13 = .int .i64 ((pcs (op : Int) q : Nat) : Int) ∧ q + gk = fl ∧ Aside (RD M w1 ats (T1 ++ ftx (lnO O (i + 1)) nd q) (.slice (some ⟨M, 0, none⟩) (n + 1) (n + 1)) s9 wr ∧ KU W9 wr))
        case atStart => exact ⟨0, rfl, rfl, by omega, by simpa [ftx] using H9.out.1, KU.refl _⟩
        case round =>
          obtain ⟨q, rfl, rfl, hq, HJ⟩ := hrel
          obtain ⟨aA, cA, e9⟩ := own_form HJ.out.1.ol
          subst e9
          obtain ⟨X, hX⟩ : ∃ X, T1 ++ ftx (lnO O (i + 1)) nd q = X := ⟨_, rfl⟩
          obtain ⟨zA, hzA⟩ : ∃ z, X.length = z := ⟨_, rfl⟩
          have HZA : Hid (X.length = zA) := hzA
          have hJ1 := HJ.out.1
          rw [hX, hzA] at hJ1
          have HD : Hid (RD M w1 ats X (.slice (some ⟨M, 0, none⟩) (n + 1) (n + 1)) (.slice aA zA cA) wr) := hJ1
          have HK9 : Hid (KU W9 wr) := HJ.out.2
          have hzl9 : zA ≤ 419430600 := by have h7 := HXL.out q (by omega); rw [hX, hzA] at h7; exact h7
          rw [hX, hzA]
          have HXn : Hid (∀ S : ByteArray, S.data.toList = fpc (lnO O (i + 1)) nd ((flB (op : Int)).getD q 0) (pcs (op : Int) q) → T1 ++ ftx (lnO O (i + 1)) nd (q + 1) = X ++ S.data.toList) := fun S hS => by
            rw [hS, ← hX]
            show T1 ++ (ftx (lnO O (i + 1)) nd q ++ fpc (lnO O (i + 1)) nd ((flB nd.op).getD q 0) (pcs nd.op q)) = _
            rw [hop, List.append_assoc]
          have HXe : Hid (X = T1 ++ ftx (lnO O (i + 1)) nd q) := hX.symm
          clear hJ1 HJ hzA hX
          by_cases hlq : q < fl
          · have hix := HIX.out q hlq
            have q1 : (q : Int) < (fl : Int) := by omega
            have hpn := pcs_next (op : Int) q (by rw [HFL.out]; exact hlq)
            have hE7 := HEN.out _ _ _ _ _ HD.out
            rcases flB_at (op : Int) q (by rw [HFL.out]; exact hlq) with hc | hc | hc | hc
            · have hp3 := pcs_lt (op : Int) (by omega) q (by rw [HFL.out]; exact hlq) hc
              have hp4 := (pt_lo (op : Int)).2
              rw [hc] at hix HXn hpn
              rw [if_pos rfl] at hpn
              obtain ⟨p, hp⟩ : ∃ p, pcs (op : Int) q = p := ⟨_, rfl⟩
              rw [hp] at hp3 HXn hpn ⊢
              have hp5 : p < 3 := by omega
              obtain ⟨x, hx⟩ : ∃ x : Nat, nth3 nd p = (x : Int) := ⟨(nth3 nd p).toNat, by have := (HPB.out p).1; omega⟩
              have hxn : x ≤ n := by have := (HPB.out p).2; omega
              have cl : wr.cell? ⟨bl, p, none⟩ = some (.int .i64 (x : Int)) := by
                rw [KU.cell HK9.out H9b.out (by decide) p, ← hx]
                have : p = 0 ∨ p = 1 ∨ p = 2 := by omega
                rcases this with rfl | rfl | rfl <;> rfl
              have ca : wr.cell? ⟨M, x, none⟩ = some (.int .i64 (lnO O (i + 1) (x : Int))) := by
                have r := HD.out.al
                rw [← hat2, atsO_len] at r
                rw [r.cellAt x (by omega)]
                exact atsO_at O (i + 1) (n + 1) x (by omega)
              obtain ⟨y, hy⟩ : ∃ y, lnO O (i + 1) (x : Int) = y := ⟨_, rfl⟩
              have hyb := HfB.out (x : Int)
              rw [hy] at ca hyb
              have hil := itoa_len hyb.1 hyb.2
              obtain ⟨S1, hS1⟩ : ∃ S1, (⟨(Lib.itoa y).toArray⟩ : ByteArray) = S1 := ⟨_, rfl⟩
              have hSz : S1.size ≤ 24 := by rw [← hS1]; rw [Lib.size_eq]; simp; omega
              have HSd : Hid ((⟨#[32]⟩ ++ S1 : ByteArray).data.toList = fpc (lnO O (i + 1)) nd 112 p) := by
                show _ = _
                rw [← hS1]
                simp [fpc, hx, hy]
              have l1 : ¬ 9223372036854775807 < 1 + S1.size := by omega
              have l3 : zA + (⟨#[32]⟩ ++ S1 : ByteArray).size ≤ 419430700 := by
                have h7 : (⟨#[32]⟩ : ByteArray).size = 1 := rfl
                rw [ByteArray.size_append, h7]
                omega
              have HIt : Hid (Calls Tryd.prog 15 #[.int .i64 y] wr fun e w' => e = .returned (.string S1) ∧ Below wr.heap.size wr w') := by
                rw [← hS1]
                exact itoa_any y (by omega) (by omega) wr ⟨hE7.tab, hE7.deb⟩
              clear hS1 hil hx hy hE7
              go_wp2_with (first
                | (at_builtin; refine wpList_append_own_string _ rfl _ _ 48 9 rfl M 5 i0 Tryd.underlying48 Tryd.underlying9 hi0 hz0 hz1 hz2 _ zA (Lib.byteCells X) rfl (by have h7 := H6.out.1.ol; rw [HZA.out] at h7; exact h7) (⟨#[32]⟩ ++ S1) rfl (by unfold maxLen; omega) (by omega) H6.out.1.sz ?_; intro v8 wB hown8 hgrow8 _; have H8 : Hid (RD M w1 ats (X ++ (⟨#[32]⟩ ++ S1 : ByteArray).data.toList) (.slice (some ⟨M, 0, none⟩) (n + 1) (n + 1)) v8 wB ∧ KU W9 wB) := (by obtain ⟨q1, q2, q3⟩ := RD.app H6.out.1 HZA.out hown8 hgrow8; exact ⟨q1, H6.out.2.trans q2⟩); clear hown8 hgrow8; refine Hid.out ?_)
                | (go_at_call 15; refine HIt.out.mono ?_; rintro e w6 ⟨rfl, hb6⟩; have H6 : Hid (RD M w1 ats X (.slice (some ⟨M, 0, none⟩) (n + 1) (n + 1)) (.slice aA zA cA) w6 ∧ KU W9 w6) := ⟨HD.out.over hb6, HK9.out.trans (KU.below hb6)⟩; clear hb6))
              refine Lib.hid ?_
              have HN8 : Aside (RD M w1 ats (T1 ++ ftx (lnO O (i + 1)) nd (q + 1)) (.slice (some ⟨M, 0, none⟩) (n + 1) (n + 1)) v8 wB ∧ KU W9 wB) := ⟨by rw [HXn.out _ HSd.out]; exact H8.out.1, H8.out.2⟩
              clear H8
              go_wp2
              go_roundg (gk - 1)
              case measure => omega
              case rel => exact ⟨q + 1, by simp, by rw [hpn]; simp, by omega, HN8⟩
            · rw [hc] at hix HXn hpn
              rw [if_neg (by decide)] at hpn
              have d5 : wr.cell? ⟨bx, 5, none⟩ = some (.int .u64 nd.num) := KU.cell (H9.out.2.trans HK9.out) H3b.out (by decide) 5
              obtain ⟨hu0, hu1⟩ := HNK.out.num
              obtain ⟨X7, hX7⟩ : ∃ X7 : Nat, nd.num = (X7 : Int) := ⟨nd.num.toNat, by omega⟩
              have hil := txB_len X7
              rw [hX7] at d5
              obtain ⟨S1, hS1⟩ : ∃ S1, (⟨(txB X7).toArray⟩ : ByteArray) = S1 := ⟨_, rfl⟩
              have hSz : S1.size ≤ 24 := by rw [← hS1]; rw [Lib.size_eq]; simp; omega
              have HSd : Hid ((⟨#[32]⟩ ++ S1 : ByteArray).data.toList = fpc (lnO O (i + 1)) nd 110 (pcs (op : Int) q)) := by
                show _ = _
                rw [← hS1]
                simp [fpc, hX7]
              have l1 : ¬ 9223372036854775807 < 1 + S1.size := by omega
              have l3 : zA + (⟨#[32]⟩ ++ S1 : ByteArray).size ≤ 419430700 := by
                have h7 : (⟨#[32]⟩ : ByteArray).size = 1 := rfl
                rw [ByteArray.size_append, h7]
                omega
              have HIt : Hid (Calls Tryd.prog 18 #[.int .u64 (X7 : Int)] wr fun e w' => e = .returned (.string S1) ∧ Below wr.heap.size wr w') := by
                rw [← hS1]
                refine (rtext_any X7 wr (by omega)).mono ?_
                rintro e w' ⟨rfl, rfl⟩
                exact ⟨rfl, Below.refl _ _⟩
              clear hS1 hil hE7 hX7
              go_wp2_with (first
                | (at_builtin; refine wpList_append_own_string _ rfl _ _ 48 9 rfl M 5 i0 Tryd.underlying48 Tryd.underlying9 hi0 hz0 hz1 hz2 _ zA (Lib.byteCells X) rfl (by have h7 := H6.out.1.ol; rw [HZA.out] at h7; exact h7) (⟨#[32]⟩ ++ S1) rfl (by unfold maxLen; omega) (by omega) H6.out.1.sz ?_; intro v8 wB hown8 hgrow8 _; have H8 : Hid (RD M w1 ats (X ++ (⟨#[32]⟩ ++ S1 : ByteArray).data.toList) (.slice (some ⟨M, 0, none⟩) (n + 1) (n + 1)) v8 wB ∧ KU W9 wB) := (by obtain ⟨q1, q2, q3⟩ := RD.app H6.out.1 HZA.out hown8 hgrow8; exact ⟨q1, H6.out.2.trans q2⟩); clear hown8 hgrow8; refine Hid.out ?_)
                | (go_at_call 18; refine HIt.out.mono ?_; rintro e w6 ⟨rfl, hb6⟩; have H6 : Hid (RD M w1 ats X (.slice (some ⟨M, 0, none⟩) (n + 1) (n + 1)) (.slice aA zA cA) w6 ∧ KU W9 w6) := ⟨HD.out.over hb6, HK9.out.trans (KU.below hb6)⟩; clear hb6))
              refine Lib.hid ?_
              have HN8 : Aside (RD M w1 ats (T1 ++ ftx (lnO O (i + 1)) nd (q + 1)) (.slice (some ⟨M, 0, none⟩) (n + 1) (n + 1)) v8 wB ∧ KU W9 wB) := ⟨by rw [HXn.out _ HSd.out]; exact H8.out.1, H8.out.2⟩
              clear H8
              go_wp2
              go_roundg (gk - 1)
              case measure => omega
              case rel => exact ⟨q + 1, by simp, by rw [hpn]; simp, by omega, HN8⟩
            · rw [hc] at hix HXn hpn
              rw [if_neg (by decide)] at hpn
              have d1 : wr.cell? ⟨bx, 1, none⟩ = some (.int .i64 nd.w) := KU.cell (H9.out.2.trans HK9.out) H3b.out (by decide) 1
              obtain ⟨hu0, hu1⟩ := HNS.out.w
              have hil := itoa_len hu0 (by omega)
              obtain ⟨S1, hS1⟩ : ∃ S1, (⟨(Lib.itoa nd.w).toArray⟩ : ByteArray) = S1 := ⟨_, rfl⟩
              have hSz : S1.size ≤ 24 := by rw [← hS1]; rw [Lib.size_eq]; simp; omega
              have HSd : Hid ((⟨#[32]⟩ ++ S1 : ByteArray).data.toList = fpc (lnO O (i + 1)) nd 119 (pcs (op : Int) q)) := by
                show _ = _
                rw [← hS1]
                simp [fpc]
              have l1 : ¬ 9223372036854775807 < 1 + S1.size := by omega
              have l3 : zA + (⟨#[32]⟩ ++ S1 : ByteArray).size ≤ 419430700 := by
                have h7 : (⟨#[32]⟩ : ByteArray).size = 1 := rfl
                rw [ByteArray.size_append, h7]
                omega
              have HIt : Hid (Calls Tryd.prog 15 #[.int .i64 nd.w] wr fun e w' => e = .returned (.string S1) ∧ Below wr.heap.size wr w') := by
                rw [← hS1]
                exact itoa_any nd.w (by omega) (by omega) wr ⟨hE7.tab, hE7.deb⟩
              clear hS1 hil hE7
              go_wp2_with (first
                | (at_builtin; refine wpList_append_own_string _ rfl _ _ 48 9 rfl M 5 i0 Tryd.underlying48 Tryd.underlying9 hi0 hz0 hz1 hz2 _ zA (Lib.byteCells X) rfl (by have h7 := H6.out.1.ol; rw [HZA.out] at h7; exact h7) (⟨#[32]⟩ ++ S1) rfl (by unfold maxLen; omega) (by omega) H6.out.1.sz ?_; intro v8 wB hown8 hgrow8 _; have H8 : Hid (RD M w1 ats (X ++ (⟨#[32]⟩ ++ S1 : ByteArray).data.toList) (.slice (some ⟨M, 0, none⟩) (n + 1) (n + 1)) v8 wB ∧ KU W9 wB) := (by obtain ⟨q1, q2, q3⟩ := RD.app H6.out.1 HZA.out hown8 hgrow8; exact ⟨q1, H6.out.2.trans q2⟩); clear hown8 hgrow8; refine Hid.out ?_)
                | (go_at_call 15; refine HIt.out.mono ?_; rintro e w6 ⟨rfl, hb6⟩; have H6 : Hid (RD M w1 ats X (.slice (some ⟨M, 0, none⟩) (n + 1) (n + 1)) (.slice aA zA cA) w6 ∧ KU W9 w6) := ⟨HD.out.over hb6, HK9.out.trans (KU.below hb6)⟩; clear hb6))
              refine Lib.hid ?_
              have HN8 : Aside (RD M w1 ats (T1 ++ ftx (lnO O (i + 1)) nd (q + 1)) (.slice (some ⟨M, 0, none⟩) (n + 1) (n + 1)) v8 wB ∧ KU W9 wB) := ⟨by rw [HXn.out _ HSd.out]; exact H8.out.1, H8.out.2⟩
              clear H8
              go_wp2
              go_roundg (gk - 1)
              case measure => omega
              case rel => exact ⟨q + 1, by simp, by rw [hpn]; simp, by omega, HN8⟩
            · rw [hc] at hix HXn hpn
              rw [if_neg (by decide)] at hpn
              have d6 : wr.cell? ⟨bx, 6, none⟩ = some (.string nd.name) := KU.cell (H9.out.2.trans HK9.out) H3b.out (by decide) 6
              have hu0 := HNS.out.name
              obtain ⟨S1, hS1⟩ : ∃ S1, (nd.name : ByteArray) = S1 := ⟨_, rfl⟩
              have hSz : S1.size ≤ 24 := by rw [← hS1]; exact hu0
              have HSd : Hid ((⟨#[32]⟩ ++ S1 : ByteArray).data.toList = fpc (lnO O (i + 1)) nd 115 (pcs (op : Int) q)) := by
                show _ = _
                rw [← hS1]
                simp [fpc]
              have l1 : ¬ 9223372036854775807 < 1 + S1.size := by omega
              have l3 : zA + (⟨#[32]⟩ ++ S1 : ByteArray).size ≤ 419430700 := by
                have h7 : (⟨#[32]⟩ : ByteArray).size = 1 := rfl
                rw [ByteArray.size_append, h7]
                omega
              rw [hS1] at d6
              clear hS1 hE7
              go_wp2_with (first
                | (at_builtin; refine wpList_append_own_string _ rfl _ _ 48 9 rfl M 5 i0 Tryd.underlying48 Tryd.underlying9 hi0 hz0 hz1 hz2 _ zA (Lib.byteCells X) rfl (by have h7 := HD.out.ol; rw [HZA.out] at h7; exact h7) (⟨#[32]⟩ ++ S1) rfl (by unfold maxLen; omega) (by omega) HD.out.sz ?_; intro v8 wB hown8 hgrow8 _; have H8 : Hid (RD M w1 ats (X ++ (⟨#[32]⟩ ++ S1 : ByteArray).data.toList) (.slice (some ⟨M, 0, none⟩) (n + 1) (n + 1)) v8 wB ∧ KU W9 wB) := (by obtain ⟨q1, q2, q3⟩ := RD.app HD.out HZA.out hown8 hgrow8; exact ⟨q1, HK9.out.trans q2⟩); clear hown8 hgrow8; refine Hid.out ?_)
                | fail)
              refine Lib.hid ?_
              have HN8 : Aside (RD M w1 ats (T1 ++ ftx (lnO O (i + 1)) nd (q + 1)) (.slice (some ⟨M, 0, none⟩) (n + 1) (n + 1)) v8 wB ∧ KU W9 wB) := ⟨by rw [HXn.out _ HSd.out]; exact H8.out.1, H8.out.2⟩
              clear H8
              go_wp2
              go_roundg (gk - 1)
              case measure => omega
              case rel => exact ⟨q + 1, by simp, by rw [hpn]; simp, by omega, HN8⟩
          · obtain rfl : q = fl := by omega
            have HNx : Hid (tx L O (i + 1) = X ++ [10]) := by
              show _ = _
              have e7 : nd.op.toNat = op := by omega
              rw [HTx.out, HXe.out, HT1.out, hop, HFL.out]
              simp
            have HRF : Hid (wr.ownsRow M 5 1 (.slice aA zA cA) zA (Lib.byteCells X)) := by have h7 := HD.out.ol; rw [HZA.out] at h7; exact h7
            have hsF := HD.out.sz
            have q1 : ¬ (q : Int) < (q : Int) := by omega
            go_wp2_with (at_builtin; refine wpList_append_lies _ rfl _ _ 48 rfl M 5 i0 (.int .u8 0) 1 1 Tryd.underlying48 hi0 hz0 hz1 hz2 rfl (by decide) _ _ _ rfl (HRF.out.alloc _) ⟨wr.heap.size, 0, none⟩ 1 1 [.int .u8 10] rfl rfl (one_newD _ _ _) (by intro u hu; simp at hu; subst hu; rfl) (by omega) (by unfold maxLen; omega) (by omega) (by simp; omega) (wr.heap.size + 1) (by simp) ?_; intro gG capG wG hownG hgrowG hatG hltG; have HOG : Hid (RD M w1 ats (X ++ [10]) (.slice (some ⟨M, 0, none⟩) (n + 1) (n + 1)) (.slice (some ⟨gG, 0, none⟩) (zA + 1) capG) wG) := HD.out.one hgrowG (by rw [bc_app, List.length_append, HZA.out]; exact hownG); clear hownG hgrowG hatG hltG; refine Hid.out ?_)
            refine Lib.hid ?_
            have HA : Aside (RD M w1 (atsO O (i + 1) (n + 1)) (tx L O (i + 1)) (.slice (some ⟨M, 0, none⟩) (n + 1) (n + 1)) (.slice (some ⟨gG, 0, none⟩) (zA + 1) capG) wG) := by
              show RD _ _ _ _ _ _ _
              rw [hat2, HNx.out]
              exact HOG.out
            clear HOG
            go_wp2
            go_roundg (m - (i + 1))
            case measure => omega
            case rel => exact ⟨i + 1, by simp, by omega, HA⟩
    · obtain rfl : i = m := by omega
      obtain ⟨a9, c9, e9⟩ := own_form HJ.out.ol
      subst e9
      obtain ⟨X, hX⟩ : ∃ X, tx L O i = X := ⟨_, rfl⟩
      obtain ⟨z9, hz9⟩ : ∃ z, X.length = z := ⟨_, rfl⟩
      have HZ9 : Hid (X.length = z9) := hz9
      have HX : Hid (tx L O i = X) := hX
      have hJ1 := HJ.out
      rw [hX, hz9] at hJ1
      have HD : Hid (RD M w1 (atsO O i (n + 1)) X (.slice (some ⟨M, 0, none⟩) (n + 1) (n + 1)) (.slice a9 z9 c9) wr) := hJ1
      have hzl : z9 ≤ 419430400 := by have := HTL.out i (by omega); rw [hX, hz9] at this; exact this
      rw [hX, hz9]
      clear hJ1 HJ hX hz9
      obtain ⟨i0, hi0, hz0, hz1, hz2⟩ := info_parts Tryd.info5
      have q1 : ¬ (i : Int) < (i : Int) := by omega
      have h5 : (⟨#[114, 111, 111, 116, 115]⟩ : ByteArray).size = 5 := rfl
      go_wp2_with (at_builtin; refine wpList_append_own_string _ rfl _ _ 48 9 rfl M 5 i0 Tryd.underlying48 Tryd.underlying9 hi0 hz0 hz1 hz2 _ z9 (Lib.byteCells X) rfl (by have h7 := HD.out.ol; rw [HZ9.out] at h7; exact h7) ⟨#[114, 111, 111, 116, 115]⟩ rfl (by unfold maxLen; omega) (by omega) HD.out.sz ?_; intro v8 w8 hown8 hgrow8 _; have H8 : Hid (RD M w1 (atsO O i (n + 1)) (X ++ [114, 111, 111, 116, 115]) (.slice (some ⟨M, 0, none⟩) (n + 1) (n + 1)) v8 w8) := (RD.app HD.out HZ9.out hown8 hgrow8).1; clear hown8 hgrow8; refine Hid.out ?_)
      refine Lib.hid ?_
      go_wp2_with fail
      go_loopg [9, 16] k (fun gk s9 s16 wr2 => ∃ j : Nat, s16 = .int .i64 (j : Int) ∧ j + gk = k ∧ Aside (RD M w1 (atsO O i (n + 1)) (X ++ [114, 111, 111, 116, 115] ++ rt (lnO O i) xs j) (.slice (some ⟨M, 0, none⟩) (n + 1) (n + 1)) s9 wr2))
      case atStart => exact ⟨0, rfl, by omega, by show RD _ _ _ (_ ++ []) _ _ _; rw [List.append_nil]; exact H8.out⟩
      case round =>
        obtain ⟨j, rfl, hj, HJ⟩ := hrel
        obtain ⟨aA, cA, e9⟩ := own_form HJ.out.ol
        subst e9
        have hrl := rt_len (lnO O i) (fun x => by have := lnO_bd O x i; omega) xs j
        obtain ⟨Y, hY⟩ : ∃ Y, X ++ [114, 111, 111, 116, 115] ++ rt (lnO O i) xs j = Y := ⟨_, rfl⟩
        obtain ⟨zA, hzA⟩ : ∃ z, Y.length = z := ⟨_, rfl⟩
        have HZA : Hid (Y.length = zA) := hzA
        have hzl9 : zA ≤ 500000000 := by
          rw [← hzA, ← hY]
          simp only [List.length_append, List.length_cons, List.length_nil, HZ9.out]
          omega
        have hJ1 := HJ.out
        rw [hY, hzA] at hJ1
        have HDj : Hid (RD M w1 (atsO O i (n + 1)) Y (.slice (some ⟨M, 0, none⟩) (n + 1) (n + 1)) (.slice aA zA cA) wr) := hJ1
        have HYe : Hid (X ++ [114, 111, 111, 116, 115] ++ rt (lnO O i) xs j = Y) := hY
        rw [hY, hzA]
        clear hJ1 HJ hzA hY hrl
        by_cases hlj : j < k
        · obtain ⟨b, o, rfl, hbl, hc⟩ := (HI.out.below (HBB.out _ _ _ _ _ HDj.out)) (by rw [HK.out]; omega)
          have hT : 1 ≤ xs.getD j 0 ∧ xs.getD j 0 ≤ (L.length : Int) := of_decide_eq_true (HXI.out j (by rw [HK.out]; exact hlj))
          rw [HN.out] at hT
          obtain ⟨x, hx⟩ : ∃ x : Nat, xs.getD j 0 = (x : Int) := ⟨(xs.getD j 0).toNat, by omega⟩
          have c1 : wr.cell? ⟨b, o + j, none⟩ = some (.int .i64 (x : Int)) := by rw [← hx]; exact hc j (by rw [HK.out]; exact hlj)
          have ca : wr.cell? ⟨M, x, none⟩ = some (.int .i64 (lnO O i (x : Int))) := by
            have r := HDj.out.al
            rw [atsO_len] at r
            rw [r.cellAt x (by omega)]
            exact atsO_at O i (n + 1) x (by omega)
          have hxn : x ≤ n := by omega
          obtain ⟨y, hy⟩ : ∃ y, lnO O i (x : Int) = y := ⟨_, rfl⟩
          have hyb := lnO_bd O (x : Int) i
          rw [hy] at ca hyb
          have hil := itoa_len hyb.1 (by omega)
          obtain ⟨S1, hS1⟩ : ∃ S1, (⟨(Lib.itoa y).toArray⟩ : ByteArray) = S1 := ⟨_, rfl⟩
          have hSz : S1.size ≤ 24 := by rw [← hS1, Lib.size_eq]; simp; omega
          have HSd : Hid (X ++ [114, 111, 111, 116, 115] ++ rt (lnO O i) xs (j + 1) = Y ++ (⟨#[32]⟩ ++ S1 : ByteArray).data.toList) := by
            show X ++ [114, 111, 111, 116, 115] ++ (rt (lnO O i) xs j ++ 32 :: Lib.itoa (lnO O i (xs.getD j 0))) = _
            rw [← HYe.out, ← hS1, hx, hy]
            simp
          have l1 : ¬ 9223372036854775807 < 1 + S1.size := by omega
          have l3 : zA + (⟨#[32]⟩ ++ S1 : ByteArray).size ≤ 500000700 := by
            have h7 : (⟨#[32]⟩ : ByteArray).size = 1 := rfl
            rw [ByteArray.size_append, h7]
            omega
          have hE7 := HEN.out _ _ _ _ _ HDj.out
          have HIt : Hid (Calls Tryd.prog 15 #[.int .i64 y] wr fun e w' => e = .returned (.string S1) ∧ Below wr.heap.size wr w') := by
            rw [← hS1]
            exact itoa_any y (by omega) (by omega) wr ⟨hE7.tab, hE7.deb⟩
          have q2 : (j : Int) < (k : Int) := by omega
          clear hS1 hil hx hy hE7 hc hT
          go_wp2_with (first
            | (at_builtin; refine wpList_append_own_string _ rfl _ _ 48 9 rfl M 5 i0 Tryd.underlying48 Tryd.underlying9 hi0 hz0 hz1 hz2 _ zA (Lib.byteCells Y) rfl (by have h7 := H6.out.ol; rw [HZA.out] at h7; exact h7) (⟨#[32]⟩ ++ S1) rfl (by unfold maxLen; omega) (by omega) H6.out.sz ?_; intro v8 wB hown8 hgrow8 _; have H8 : Hid (RD M w1 (atsO O i (n + 1)) (Y ++ (⟨#[32]⟩ ++ S1 : ByteArray).data.toList) (.slice (some ⟨M, 0, none⟩) (n + 1) (n + 1)) v8 wB) := (RD.app H6.out HZA.out hown8 hgrow8).1; clear hown8 hgrow8; refine Hid.out ?_)
            | (go_at_call 15; refine HIt.out.mono ?_; rintro e w6 ⟨rfl, hb6⟩; have H6 : Hid (RD M w1 (atsO O i (n + 1)) Y (.slice (some ⟨M, 0, none⟩) (n + 1) (n + 1)) (.slice aA zA cA) w6) := HDj.out.over hb6; clear hb6))
          refine Lib.hid ?_
          have HN8 : Aside (RD M w1 (atsO O i (n + 1)) (X ++ [114, 111, 111, 116, 115] ++ rt (lnO O i) xs (j + 1)) (.slice (some ⟨M, 0, none⟩) (n + 1) (n + 1)) v8 wB) := by
            show RD _ _ _ _ _ _ _
            rw [HSd.out]
            exact H8.out
          clear H8
          go_wp2
          go_roundg (gk - 1)
          case measure => omega
          case rel => exact ⟨j + 1, by simp, by omega, HN8⟩
        · obtain rfl : j = k := by omega
          have HZ : Hid (dumpT L O xs = Y ++ [10]) := by
            show dumpT L O xs = _
            unfold dumpT
            rw [HM.out, HK.out, HX.out, HYe.out]
          have HRF : Hid (wr.ownsRow M 5 1 (.slice aA zA cA) zA (Lib.byteCells Y)) := by have h7 := HDj.out.ol; rw [HZA.out] at h7; exact h7
          have hsF := HDj.out.sz
          have q2 : ¬ (j : Int) < (j : Int) := by omega
          go_wp2_with (at_builtin; refine wpList_append_lies _ rfl _ _ 48 rfl M 5 i0 (.int .u8 0) 1 1 Tryd.underlying48 hi0 hz0 hz1 hz2 rfl (by decide) _ _ _ rfl (HRF.out.alloc _) ⟨wr.heap.size, 0, none⟩ 1 1 [.int .u8 10] rfl rfl (one_newD _ _ _) (by intro u hu; simp at hu; subst hu; rfl) (by omega) (by unfold maxLen; omega) (by omega) (by simp; omega) (wr.heap.size + 1) (by simp) ?_; intro gG capG wG hownG hgrowG hatG hltG; have HOG : Hid (RD M w1 (atsO O i (n + 1)) (Y ++ [10]) (.slice (some ⟨M, 0, none⟩) (n + 1) (n + 1)) (.slice (some ⟨gG, 0, none⟩) (zA + 1) capG) wG) := HDj.out.one hgrowG (by rw [bc_app, List.length_append, HZA.out]; exact hownG); clear hownG hgrowG hatG hltG; refine Hid.out ?_)
          refine Lib.hid ?_
          have hcv : (convert 48 9 (.slice (some ⟨gG, 0, none⟩) (zA + 1) capG)).run Tryd.prog wG = .ok (.string ⟨(dumpT L O xs).toArray⟩) wG := by
            rw [HZ.out]
            exact conv_text HOG.out.ol
          have HBe : Hid (Below w.heap.size w wG) := HBB.out _ _ _ _ _ HOG.out
          clear HOG
          go_wp2_with fail
          exact HPP.out _ HBe.out
end Go.Proofs.YtmfdcemfdkdalaaDoor
