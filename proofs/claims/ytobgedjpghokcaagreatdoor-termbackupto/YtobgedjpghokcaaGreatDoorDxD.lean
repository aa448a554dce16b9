import Derived.Test.YtobgedjpghokcaaGreatDoorDxC
import Derived.Test.YtobgedjpghokcaaGreatDoorTbG
import Derived.Test.YtobgedjpghokcaaGreatDoorTmPg
import Derived.Test.YtobgedjpghokcaaGreatDoorTmPn
import Derived.Test.YtobgedjpghokcaaGreatDoorTmPi
namespace Go.Proofs.YtobgedjpghokcaaGreatDoor
open Go.ChangeShapes Go.WideShapes Go.ChangeAt Go.RowKit Go.Lib Go.Tm Go.Bw Go.Bn Go.WideMaps Go.Maps Go.ChangeMaps

theorem plO_bd (O : List Nat) (x : Int) : ∀ i : Nat, 0 ≤ plO O i x ∧ plO O i x ≤ (i : Int)
  | 0 => by unfold plO pfO; simp
  | i + 1 => by
    have ih := plO_bd O x i
    unfold plO at *
    unfold pfO
    split
    · simp; omega
    · omega
theorem plO_here (O : List Nat) (i : Nat) : plO O (i + 1) ((O.getD i 0 : Nat) : Int) = (i : Int) + 1 := by
  unfold plO pfO
  rw [if_pos rfl]
  rfl
/-- the lines of the terms -/
def tx (L : List Nd) (O : List Nat) : Nat → List UInt8
  | 0 => []
  | i + 1 => tx L O i ++ ndT (plO O (i + 1)) ((i : Int) + 1) (L.getD (O.getD i 0 - 1) z0)
/-- the roots -/
def rt (g : Int → Int) (xs : List Int) : Nat → List UInt8
  | 0 => []
  | j + 1 => rt g xs j ++ 32 :: Lib.itoa (g (xs.getD j 0))
def dumpT (L : List Nd) (O : List Nat) (xs : List Int) : List UInt8 := tx L O O.length ++ [114, 111, 111, 116, 115] ++ rt (plO O O.length) xs xs.length ++ [10]
theorem itoa_len {x : Int} (h0 : 0 ≤ x) (h1 : x ≤ 1000000000000) : (Lib.itoa x).length ≤ 21 := by
  have := Lib.itoa_length_le x (by omega) (by omega)
  omega
theorem tailT_len (n : Nd) (hs : SHP n) (hn : n.ok) : (tailT n).length ≤ 50 := by
  have h1 := itoa_len hs.w.1 (by have := hs.w.2; omega)
  have h2 := txB_len n.num.toNat
  unfold tailT
  split
  · simp; omega
  · split
    · simp; omega
    · split
      · next h3 =>
        have h4 := itoa_len (x := n.num) hn.num.1 (by have := hs.num h3; omega)
        simp
        omega
      · simp
theorem ndT_len (f : Int → Int) (hf : ∀ x, 0 ≤ f x ∧ f x ≤ 1000000000000) (li : Int) (h0 : 0 ≤ li) (h1 : li ≤ 1000000000000) (n : Nd) (hs : SHP n) (hn : n.ok) : (ndT f li n).length ≤ 400 := by
  have q1 := itoa_len h0 h1
  have q2 := wordB_len n.op.toNat
  have q3 := prtT_len f hf n.a
  have q4 := prtT_len f hf n.b
  have q5 := prtT_len f hf n.c
  have q6 := tailT_len n hs hn
  have q7 := hs.name
  have q8 := Lib.size_eq n.name
  unfold ndT
  simp only [List.length_append, List.length_cons, List.length_nil]
  split
  · simp only [List.length_cons]
    omega
  · simp only [List.length_nil]
    omega
theorem tx_len (L : List Nd) (O : List Nat) (hs : ∀ n ∈ L, SHP n) (hn : ∀ n ∈ L, n.ok) (hO : ∀ j, j < O.length → 1 ≤ O.getD j 0 ∧ O.getD j 0 ≤ L.length) : ∀ i, i ≤ O.length → i ≤ 1000000000000 → (tx L O i).length ≤ 400 * i
  | 0, _, _ => by unfold tx; simp
  | i + 1, h1, h2 => by
    have ih := tx_len L O hs hn hO i (by omega) (by omega)
    have hm : L.getD (O.getD i 0 - 1) z0 ∈ L := getD_mem' (by have := hO i (by omega); omega)
    have := ndT_len (plO O (i + 1)) (fun x => by have := plO_bd O x (i + 1); omega) ((i : Int) + 1) (by omega) (by omega) _ (hs _ hm) (hn _ hm)
    unfold tx
    rw [List.length_append]
    omega
theorem rt_len (g : Int → Int) (hg : ∀ x, 0 ≤ g x ∧ g x ≤ 1000000000000) (xs : List Int) : ∀ j, (rt g xs j).length ≤ 22 * j
  | 0 => by unfold rt; simp
  | j + 1 => by
    have ih := rt_len g hg xs j
    have := itoa_len (hg (xs.getD j 0)).1 (hg (xs.getD j 0)).2
    unfold rt
    rw [List.length_append, List.length_cons]
    omega
/-- what the program's variables hold -/
structure ENVG (w : World) : Prop where
  tab : Lib.TabIs Tryz.prog w "internal/strconv.uint64pow10" .u64 Lib.pow10Tab
  deb : w.cell? ⟨4, 15, none⟩ = some (.int .u8 4)
  wds : ∀ op : Nat, op < 34 → w.cell? ⟨0, op, none⟩ = some (.string ⟨(wordB op).toArray⟩)
theorem cell_lt {w : World} {b o : Nat} {v : Value} (h : w.cell? ⟨b, o, none⟩ = some v) : b < w.heap.size := by
  by_cases hb : b < w.heap.size
  · exact hb
  · have e : w.heap[b]? = none := Array.getElem?_eq_none (by omega)
    simp [World.cell?, e] at h
theorem cell_keep {w w' : World} {b o : Nat} {v : Value} (h : w.cell? ⟨b, o, none⟩ = some v) (hb : Below w.heap.size w w') : w'.cell? ⟨b, o, none⟩ = some v :=
  (World.cell?_of_block (w' := w') (w := w) (a := ⟨b, o, none⟩) (hb.block b (cell_lt h))).trans h
theorem ENVG.on {w w' : World} (h : ENVG w) (hb : Below w.heap.size w w') : ENVG w' := ⟨Lib.tabBelow_of_tabIs h.tab w' hb, cell_keep h.deb hb, fun op ho => cell_keep (h.wds op ho) hb⟩
theorem below_le {B B' : Nat} {w w' : World} (h : Below B w w') (hl : B' ≤ B) : Below B' w w' := ⟨h.os, h.tape, h.output, h.size, fun k hk => h.block k (by omega)⟩
theorem ENVG.envd {w w' : World} {Bd : Nat} (h : ENVG w) (hb : Below w.heap.size w w') (hB : w.heap.size ≤ Bd) : ENVD Bd w' :=
  ⟨fun _ h2 => (h.on (hb.trans (below_le h2 hB))).tab, ⟨(h.on hb).tab, (h.on hb).deb⟩, (h.on hb).wds⟩
theorem DST.below {w w0 W : World} {Bd Q M : Nat} {om : Obj} {txt : List UInt8} {v : Value} (h : DST Bd w0 Q M om txt v W) (hb : Below w.heap.size w w0) (hQ : w.heap.size ≤ Q) (hM : w.heap.size ≤ M) : Below w.heap.size w W :=
  ⟨h.os.trans hb.os, h.tape.trans hb.tape, h.output.trans hb.output, by have := h.sz; have := h.qB; omega, fun k hk => (h.kp k (by have := h.qB; omega) (by omega) (by omega)).trans (hb.block k hk)⟩
/-- the map written -/
theorem DST.put {w0 w w' : World} {Bd Q M : Nat} {om : Obj} {txt : List UInt8} {v : Value} (h : DST Bd w0 Q M om txt v w) (hg : w.grownBy w' (some M)) : ∃ om', DST Bd w0 Q M om' txt v w' := by
  have hs := h.sz
  have hMl : M < w'.heap.size := by have := h.mB; have := hg.size; omega
  refine ⟨w'.heap[M], ?_, ?_, by simp [hMl], h.qB, h.mB, h.qm, by have := hg.size; omega, hg.os.trans h.os, hg.tape.trans h.tape, hg.output.trans h.output, fun k hk h1 h2 => ?_⟩
  · exact (hg.block Q (by have := h.qB; omega) (fun e => h.qm (by injection e))).trans h.blk
  · refine ⟨h.row.1, ?_⟩
    rcases h.row.2 with h0 | ⟨g, cap, cur, e, h2, h3, h4⟩
    · exact Or.inl h0
    · refine Or.inr ⟨g, cap, cur, e, h2, (hg.block g (Array.getElem?_eq_some_iff.1 h3).1 (fun e => ?_)).trans h3, h4⟩
      have e2 : g = M := by injection e
      have := h.mB
      omega
  · exact (hg.block k (by omega) (fun e => h2 (by injection e))).trans (h.kp k hk h1 h2)
theorem conv_text {w : World} {B : Nat} {v : Value} {l : List UInt8} (h : w.ownsRow B 5 1 v l.length (Lib.byteCells l)) : (convert 52 9 v).run Tryz.prog w = .ok (.string ⟨l.toArray⟩) w := by
  rcases h.2 with ⟨e, h0⟩ | ⟨g, cap, cur, rfl, hb, hg, h1, h2, h3, h4⟩
  · subst e
    have hl : l = [] := List.eq_nil_of_length_eq_zero h0
    subst hl
    exact run_convert_bytes_string w 52 9 5 none 0 0 Tryz.underlying52 Tryz.underlying5 Tryz.underlying9
  · exact run_convert_bytes_back (P := Tryz.prog) w 52 9 5 ⟨g, 0, none⟩ cap l Tryz.underlying52 Tryz.underlying5 Tryz.underlying9 (fun j hj => h.cells (g := g) rfl j _ (by simp [Lib.byteCells, hj]))
theorem make_hint (n : Int) (w : World) : (Instr.makeMap 51 (some (.int .i64 n))).run Tryz.prog w = .ok (.map (some w.heap.size)) (w.alloc (.map #[] 0)) := by
  simp [Instr.makeMap, run_underlying Tryz.underlying51, asInt, asIntOf, Result.andThen]
set_option maxHeartbeats 8000000 in
set_option maxRecDepth 100000 in
theorem dump_ok (B0 B : Nat) (lim : Int) (L : List Nd) (v : Value) (M1 M2 : Option Nat) {ad : Option Addr} {cp : Nat} {xs : List Int} (w : World) (hS : SM 60 w B0 B lim L v M1 M2) (hsh : ∀ n ∈ L, SHP n) (h : IR w ad xs) (hxl : xs.length ≤ 1048576) (hxI : ∀ j, j < xs.length → I64 (xs.getD j 0)) (O : List Nat) (hO : ∀ j, j < O.length → 1 ≤ O.getD j 0 ∧ O.getD j 0 ≤ L.length) (hOl : O.length ≤ 1048576) (hE : ENVG w)
    (hOr : Calls Tryz.prog 7 #[.pointer (some ⟨B, 0, none⟩), .slice ad xs.length cp] w fun e w' => ∃ a c, e = .returned (.tuple #[.slice a O.length c, .int .i64 0]) ∧ Below w.heap.size w w' ∧ w'.ownsRow w.heap.size 3 1 (.slice a O.length c) O.length (natV O)) :
    Calls Tryz.prog 6 #[.pointer (some ⟨B, 0, none⟩), .slice ad xs.length cp] w fun e w' => e = .returned (.tuple #[.string ⟨(dumpT L O xs).toArray⟩, .int .i64 0]) ∧ Below w.heap.size w w' := by
  generalize hPP : (fun (e : Ending) (w' : World) => e = .returned (.tuple #[.string ⟨(dumpT L O xs).toArray⟩, .int .i64 0]) ∧ Below w.heap.size w w') = PP
  have HPP : Hid (∀ w', Below w.heap.size w w' → PP (.returned (.tuple #[.string ⟨(dumpT L O xs).toArray⟩, .int .i64 0])) w') := fun w' h => by rw [← hPP]; exact ⟨rfl, h⟩
  clear hPP
  have HO : Hid (Calls Tryz.prog 7 #[.pointer (some ⟨B, 0, none⟩), .slice ad xs.length cp] w fun e w' => ∃ a c, e = .returned (.tuple #[.slice a O.length c, .int .i64 0]) ∧ Below w.heap.size w w' ∧ w'.ownsRow w.heap.size 3 1 (.slice a O.length c) O.length (natV O)) := hOr
  have HS : Hid (SM 60 w B0 B lim L v M1 M2) := hS
  have HSH : Hid (∀ n ∈ L, SHP n) := hsh
  have HI : Hid (IR w ad xs) := h
  have HXI : Hid (∀ j, j < xs.length → I64 (xs.getD j 0)) := hxI
  have HOB : Hid (∀ j, j < O.length → 1 ≤ O.getD j 0 ∧ O.getD j 0 ≤ L.length) := hO
  have HE : Hid (ENVG w) := hE
  clear hOr hS hsh h hxI hO hE
  obtain ⟨k, hk⟩ : ∃ k, xs.length = k := ⟨_, rfl⟩
  have HK : Hid (xs.length = k) := hk
  obtain ⟨m, hm⟩ : ∃ m, O.length = m := ⟨_, rfl⟩
  have HM : Hid (O.length = m) := hm
  rw [hk] at hxl HO ⊢
  rw [hm] at hOl HO
  clear hk hm
  go_enter Tryz.func6, Tryz.ntmps6
  go_wp2_with fail
  refine HO.out.mono ?_
  rintro e w1 ⟨a1, c1, rfl, hb1, ho1⟩
  have HB1 : Hid (Below w.heap.size w w1) := hb1
  have HR1 : Hid (w1.ownsRow w.heap.size 3 1 (.slice a1 m c1) m (natV O)) := ho1
  clear hb1 ho1 HO
  have hmm := make_hint (m : Int) w1
  go_wp2_with fail
  obtain ⟨W0, hW0⟩ : ∃ W0, (w1.alloc (Obj.map #[] 0)).alloc (Obj.cells #[Value.slice none 0 0, Value.map (some w1.heap.size)] 54) = W0 := ⟨_, rfl⟩
  obtain ⟨M, hMs⟩ : ∃ M, w1.heap.size = M := ⟨_, rfl⟩
  have HB0 : Hid (Below M w1 W0) := by rw [← hW0, ← hMs]; exact bel2 _ _ _
  have HDS : Hid (DST (M + 2) W0 (M + 1) M (.map #[] 0) [] (.slice none 0 0) W0) := by
    have e1 : W0.heap[M + 1]? = some (Obj.cells #[Value.slice none 0 0, Value.map (some M)] 54 (0, 0)) := by
      rw [← hW0, ← hMs]
      have := heap_alloc_new (w1.alloc (Obj.map #[] 0)) (Obj.cells #[Value.slice none 0 0, Value.map (some w1.heap.size)] 54)
      simpa using this
    have e2 : W0.heap[M]? = some (Obj.map #[] 0) := by
      rw [← hW0, ← hMs, Below.heap_alloc _ _ _ (by simp)]
      exact heap_alloc_new _ _
    exact ⟨e1, World.ownsRow_nil _ _ _ _, e2, by omega, by omega, by omega, by rw [← hW0, ← hMs]; simp, rfl, rfl, rfl, fun _ _ _ _ => rfl⟩
  have HBW : Hid (∀ W om txt v, DST (M + 2) W0 (M + 1) M om txt v W → Below w1.heap.size w1 W) := fun W om txt v hD => by
    have := HB0.out
    rw [← hMs] at this
    exact hD.below this (by omega) (by omega)
  have HBw : Hid (∀ W om txt v, DST (M + 2) W0 (M + 1) M om txt v W → Below w.heap.size w W) := fun W om txt v hD =>
    HB1.out.trans (below_le (HBW.out W om txt v hD) HB1.out.size)
  have HEN : Hid (∀ W om txt v, DST (M + 2) W0 (M + 1) M om txt v W → ENVD (M + 2) W) := fun W om txt v hD =>
    HE.out.envd (HBw.out W om txt v hD) (by have := HB1.out.size; omega)
  have HOC : Hid (0 < m → ∃ g, a1 = some ⟨g, 0, none⟩ ∧ ∀ W, Below w1.heap.size w1 W → ∀ j, j < m → W.cell? ⟨g, j, none⟩ = some (.int .i64 ((O.getD j 0 : Nat) : Int))) := fun h0 => by
    have hr := HR1.out
    rcases hr.2 with ⟨e, e0⟩ | ⟨g, cap, cur, e, h2, h3, h4⟩
    · omega
    · have e2 : a1 = some ⟨g, 0, none⟩ := by injection e
      refine ⟨g, e2, fun W hb j hj => ?_⟩
      rw [e] at hr
      refine cell_keep ?_ hb
      rw [hr.cellAt j (by omega), natV_at (by rw [HM.out]; exact hj)]
  have HIM : Hid (IMP W0 M 0 (pfO O 0)) := IMP.made HDS.out.mo
  have HTL : Hid (∀ i, i ≤ m → (tx L O i).length ≤ 419430400) := fun i hi => by
    have := tx_len L O HSH.out HS.out.okL HOB.out i (by rw [HM.out]; exact hi) (by omega)
    omega
  rw [hW0, hMs]
  clear hW0
  rw [hMs] at HBW
  clear hmm HR1
  go_loopg [28] m (fun gk s28 wr => ∃ i : Nat, s28 = .int .i64 (i : Int) ∧ i + gk = m ∧ Aside (∃ om v, DST (M + 2) W0 (M + 1) M om (tx L O i) v wr ∧ IMP wr M i (pfO O i)))
  case atStart => exact ⟨0, rfl, by omega, _, _, HDS.out, HIM.out⟩
  case round =>
    obtain ⟨i, rfl, hi, HJ⟩ := hrel
    clear HDS HIM
    by_cases hlt : i < m
    · obtain ⟨om, v9, hD9, hM9⟩ := HJ.out
      obtain ⟨g, rfl, hgc⟩ := HOC.out (by omega)
      have hOi := HOB.out i (by rw [HM.out]; exact hlt)
      obtain ⟨s, hs⟩ : ∃ s, O.getD i 0 = s + 1 := ⟨O.getD i 0 - 1, by omega⟩
      have c1 : wr.cell? ⟨g, i, none⟩ = some (.int .i64 ((s : Int) + 1)) := by
        have := hgc wr (by rw [hMs]; exact HBW.out _ _ _ _ hD9) i hlt
        rw [hs] at this
        exact this
      have hsL : s < L.length := by omega
      obtain ⟨adL, cL, hv, hcL, hcell⟩ := HS.out.form
      subst hv
      obtain ⟨gL, rfl, hgL⟩ := hcell (by omega)
      have hLl := HS.out.len
      obtain ⟨wq, hput, hMq, hgq⟩ := hM9.put (by omega) ((s : Int) + 1) ((i : Int) + 1) (by unfold I64; omega) (by unfold I64; omega)
      obtain ⟨om2, hD2⟩ := hD9.put hgq
      have hbq := HBw.out _ _ _ _ hD2
      have kB : wq.cell? ⟨B, 1, none⟩ = some (.slice (some ⟨gL, 0, none⟩) L.length cL) := cell_keep (blk_cell HS.out.blk 1) hbq
      obtain ⟨n, hn⟩ : ∃ n, L.getD s z0 = n := ⟨_, rfl⟩
      have hnc : ∀ j u, j < 7 → (ndC n)[j]? = some u → wq.cell? ⟨gL, s * 7 + j, none⟩ = some u := fun j u hj hu => cell_keep (by rw [hgL s j hsL hj, hn]; exact hu) hbq
      have n0 := hnc 0 _ (by omega) rfl
      have n1 := hnc 1 _ (by omega) rfl
      have n2 := hnc 2 _ (by omega) rfl
      have n3 := hnc 3 _ (by omega) rfl
      have n4 := hnc 4 _ (by omega) rfl
      have n5 := hnc 5 _ (by omega) rfl
      have n6 := hnc 6 _ (by omega) rfl
      simp only [Nat.add_zero] at n0
      obtain ⟨x0, x1, x2, hQ9⟩ := hD9.cell
      have q1 : (i : Int) < (m : Int) := by omega
      have hMq2 : IMP wq M (i + 1) (pfO O (i + 1)) := by
        have e : pfO O (i + 1) = fun y => if y = (s : Int) + 1 then some ((i : Int) + 1) else pfO O i y := by
          funext y
          show (if y = ((O.getD i 0 : Nat) : Int) then _ else _) = _
          rw [hs]
          rfl
        rw [e]
        exact hMq
      have hnL : n ∈ L := by rw [← hn]; exact getD_mem' hsL
      have hnk := HS.out.okL n hnL
      have hnS := HSH.out n hnL
      have hfs : plO O (i + 1) ((s : Int) + 1) = (i : Int) + 1 := by
        have := plO_here O i
        rw [hs] at this
        exact this
      have HTm : Hid (Calls Tryz.prog 20 #[.pointer (some ⟨M + 1, 0, none⟩), .int .i64 ((s : Int) + 1), .agg #[.int .i64 n.op, .int .i64 n.w, .int .i64 n.a, .int .i64 n.b, .int .i64 n.c, .int .u64 n.num, .string n.name]] wq fun e w' => e = .returned (.tuple #[]) ∧ ∃ v', DST (M + 2) W0 (M + 1) M om2 (tx L O i ++ ndT (plO O (i + 1)) (plO O (i + 1) ((s : Int) + 1)) n) v' w' ∧ KO (M + 1) wq w') :=
        term_any (M + 2) W0 (M + 1) M om2 (tx L O i) v9 wq ((s : Int) + 1) n (plO O (i + 1)) (fun x => by have := plO_bd O x (i + 1); omega) hnk hnS.op.1 hnS.op.2 hnS.name hnS.num hD2 (fun W v t hD => HEN.out W _ t v hD) (by have := HTL.out i (by omega); omega) (fun W v t hD x hx h0 => (hMq2.keep (hD.mo.trans hD2.mo.symm)).look x (by
          rcases hx with rfl | rfl | rfl | rfl
          · unfold I64; omega
          · exact hnk.a
          · exact hnk.b
          · exact hnk.c)) (by omega)
      have HMq : Hid (∀ W v t, DST (M + 2) W0 (M + 1) M om2 t v W → IMP W M (i + 1) (pfO O (i + 1))) := fun W v t hD => hMq2.keep (hD.mo.trans hD2.mo.symm)
      have HTx : Hid (tx L O (i + 1) = tx L O i ++ ndT (plO O (i + 1)) (plO O (i + 1) ((s : Int) + 1)) n) := by
        show tx L O i ++ ndT (plO O (i + 1)) ((i : Int) + 1) (L.getD (O.getD i 0 - 1) z0) = _
        rw [hs, hfs, Nat.add_sub_cancel, hn]
      clear hD9 hM9 hgc hOi hs hgL hcell hMq hMq2 hgq hD2 hbq hn hnc hnL hnk hnS hfs
      go_wp2_with fail
      refine HTm.out.mono ?_
      rintro e w3 ⟨rfl, v3, hD3, -⟩
      have HA : Aside (∃ om v, DST (M + 2) W0 (M + 1) M om (tx L O (i + 1)) v w3 ∧ IMP w3 M (i + 1) (pfO O (i + 1))) := ⟨om2, v3, by rw [HTx.out]; exact hD3, HMq.out _ _ _ hD3⟩
      clear hD3 HTm HMq HTx HJ
      go_wp2_with fail
      go_roundg (gk - 1)
      case measure => omega
      case rel => exact ⟨i + 1, by simp, by omega, HA⟩
    · obtain rfl : i = m := by omega
      obtain ⟨om, v9, hD9, hM9⟩ := HJ.out
      have HD9 : Hid (DST (M + 2) W0 (M + 1) M om (tx L O i) v9 wr) := hD9
      have HM9 : Hid (IMP wr M i (pfO O i)) := hM9
      obtain ⟨a9, c9, rfl⟩ := hD9.form
      obtain ⟨x0, x1, x2, hQ9⟩ := hD9.cell
      have hs9 := hD9.sz
      obtain ⟨z9, hz9⟩ : ∃ z, (tx L O i).length = z := ⟨_, rfl⟩
      have HR9 : Hid (wr.ownsRow (M + 2) 5 1 (.slice a9 z9 c9) z9 (Lib.byteCells (tx L O i))) := by have := hD9.row; rw [hz9] at this; exact this
      have hzl : z9 ≤ 419430400 := by have := HTL.out i (Nat.le_refl _); omega
      rw [hz9] at x0
      have q1 : ¬ (i : Int) < (i : Int) := by omega
      obtain ⟨i0, hi0, hz0, hz1, hz2⟩ := info_parts Tryz.info5
      clear hD9 hM9 HJ
      have h5 : (⟨#[114, 111, 111, 116, 115]⟩ : ByteArray).size = 5 := rfl
      go_wp2_with (at_builtin; refine wpList_append_own_string _ rfl _ _ 52 9 rfl (M + 2) 5 i0 Tryz.underlying52 Tryz.underlying9 hi0 hz0 hz1 hz2 _ _ _ rfl HR9.out ⟨#[114, 111, 111, 116, 115]⟩ rfl (by unfold maxLen; omega) (by omega) hs9 ?_; intro v6 w6 hown6 hgrow6 hnil6; have HO6 : Hid ((∃ a6 c6, v6 = .slice a6 (z9 + 5) c6) ∧ (w6.cell? ⟨M + 1, 0, none⟩ = some (.slice a9 z9 c9) ∧ w6.frozen? ⟨M + 1, 0, none⟩ = false ∧ M + 1 < w6.heap.size) ∧ DST (M + 2) W0 (M + 1) M om (tx L O i ++ [114, 111, 111, 116, 115]) v6 (w6.setCell ⟨M + 1, 0, none⟩ v6)) := ⟨own_form hown6, (by have h7 := HD9.out; rw [hz9] at h7; exact h7.text (below_gs hs9 HR9.out hgrow6) (by rw [bc_app, List.length_append, hz9]; exact hown6))⟩; clear hown6 hgrow6 hnil6; refine Hid.out ?_)
      refine Lib.hid ?_
      clear x0 x1 x2
      obtain ⟨⟨a6, c6, rfl⟩, ⟨x0, x1, hQ6⟩, hD6⟩ := HO6.out
      have HD6 : Hid (DST (M + 2) W0 (M + 1) M om (tx L O i ++ [114, 111, 111, 116, 115]) (.slice a6 (z9 + 5) c6) (w6.setCell ⟨M + 1, 0, none⟩ (.slice a6 (z9 + 5) c6))) := hD6
      have HMk : Hid (∀ W v t, DST (M + 2) W0 (M + 1) M om t v W → ∀ x, I64 x → (Instr.lookup 51 (.map (some M)) (.int .i64 x) false).run Tryz.prog W = .ok (.int .i64 (plO O i x)) W) := fun W v t hD x hx => (HM9.out.keep (hD.mo.trans HD9.out.mo.symm)).look x hx
      clear hD6 HO6 HR9 HM9 HD9
      go_wp2_with fail
      generalize w6.setCell ⟨M + 1, 0, none⟩ (.slice a6 (z9 + 5) c6) = W6 at *
      clear x0 x1
      go_loopg [55] k (fun gk s55 wr2 => ∃ j : Nat, s55 = .int .i64 (j : Int) ∧ j + gk = k ∧ Aside (∃ v, DST (M + 2) W0 (M + 1) M om (tx L O i ++ [114, 111, 111, 116, 115] ++ rt (plO O i) xs j) v wr2))
      case atStart => exact ⟨0, rfl, by omega, _, by show DST _ _ _ _ _ (_ ++ []) _ _; rw [List.append_nil]; exact HD6.out⟩
      case round =>
        obtain ⟨j, rfl, hj, HJ⟩ := hrel
        clear HD6
        have hrl := rt_len (plO O i) (fun x => by have := plO_bd O x i; omega) xs j
        have HYl : Hid ((tx L O i ++ [114, 111, 111, 116, 115] ++ rt (plO O i) xs j).length ≤ 1000000000000) := by
          show _ ≤ _
          simp only [List.length_append, List.length_cons, List.length_nil, hz9]
          omega
        by_cases hlj : j < k
        · obtain ⟨v9, hD9⟩ := HJ.out
          obtain ⟨b, o, rfl, hbl, hc⟩ := (HI.out.below (HBw.out _ _ _ _ hD9)) (by rw [HK.out]; omega)
          have c1 : wr.cell? ⟨b, o + j, none⟩ = some (.int .i64 (xs.getD j 0)) := hc j (by rw [HK.out]; exact hlj)
          have HL9 : Hid (Calls Tryz.prog 21 #[.pointer (some ⟨M + 1, 0, none⟩), .int .i64 (xs.getD j 0)] wr fun e w' => e = .returned (.tuple #[]) ∧ ∃ v', DST (M + 2) W0 (M + 1) M om (tx L O i ++ [114, 111, 111, 116, 115] ++ rt (plO O i) xs j ++ 32 :: Lib.itoa (plO O i (xs.getD j 0))) v' w' ∧ KO (M + 1) wr w') :=
            line_any (M + 2) W0 (M + 1) M om _ v9 wr (xs.getD j 0) _ (by have := plO_bd O (xs.getD j 0) i; omega) (by have := plO_bd O (xs.getD j 0) i; omega) hD9 (fun W v t hD => (HEN.out W _ t v hD).pow) (by have := HYl.out; omega) (HMk.out _ _ _ hD9 _ (HXI.out j (by rw [HK.out]; exact hlj)))
          have HRt : Hid (rt (plO O i) xs (j + 1) = rt (plO O i) xs j ++ 32 :: Lib.itoa (plO O i (xs.getD j 0))) := rfl
          have q2 : (j : Int) < (k : Int) := by omega
          clear hD9 hc HJ HYl hrl
          generalize xs.getD j 0 = y at *
          go_wp2_with fail
          refine HL9.out.mono ?_
          rintro e w3 ⟨rfl, v3, hD3, -⟩
          have HA : Aside (∃ v, DST (M + 2) W0 (M + 1) M om (tx L O i ++ [114, 111, 111, 116, 115] ++ rt (plO O i) xs (j + 1)) v w3) := ⟨v3, by rw [HRt.out, ← List.append_assoc]; exact hD3⟩
          clear hD3 HL9 HRt
          go_wp2_with fail
          go_roundg (gk - 1)
          case measure => omega
          case rel => exact ⟨j + 1, by simp, by omega, HA⟩
        · obtain rfl : j = k := by omega
          obtain ⟨v9, hD9⟩ := HJ.out
          obtain ⟨Z, hZ⟩ : ∃ Z, tx L O i ++ [114, 111, 111, 116, 115] ++ rt (plO O i) xs j = Z := ⟨_, rfl⟩
          have HZ : Hid (dumpT L O xs = Z ++ [10]) := by
            show dumpT L O xs = _
            unfold dumpT
            rw [HM.out, HK.out, hZ]
          rw [hZ] at hD9
          have hzl2 := HYl.out
          rw [hZ] at hzl2
          obtain ⟨aF, cF, hvF⟩ := hD9.form
          obtain ⟨zF, hzF⟩ : ∃ z, Z.length = z := ⟨_, rfl⟩
          rw [hzF] at hvF hzl2
          subst hvF
          have HDF : Hid (DST (M + 2) W0 (M + 1) M om Z (.slice aF zF cF) wr) := hD9
          obtain ⟨g0, g1, g2, hQF⟩ := hD9.cell
          have HRF : Hid (wr.ownsRow (M + 2) 5 1 (.slice aF zF cF) zF (Lib.byteCells Z)) := by have h7 := hD9.row; rw [hzF] at h7; exact h7
          have hsF := hD9.sz
          have q2 : ¬ (j : Int) < (j : Int) := by omega
          clear hD9 HJ HYl hrl hZ
          go_wp2_with (at_builtin; refine wpList_append_lies _ rfl _ _ 52 rfl (M + 2) 5 i0 (.int .u8 0) 1 1 Tryz.underlying52 hi0 hz0 hz1 hz2 rfl (by decide) _ _ _ rfl (HRF.out.alloc _) ⟨wr.heap.size, 0, none⟩ 1 1 [.int .u8 10] rfl rfl (one_newD _ _ _) (by intro u hu; simp at hu; subst hu; rfl) (by omega) (by unfold maxLen; omega) (by omega) (by simp; omega) (wr.heap.size + 1) (by simp) ?_; intro gG capG wG hownG hgrowG hatG hltG; have HOG : Hid ((wG.cell? ⟨M + 1, 0, none⟩ = some (.slice aF zF cF) ∧ wG.frozen? ⟨M + 1, 0, none⟩ = false ∧ M + 1 < wG.heap.size) ∧ DST (M + 2) W0 (M + 1) M om (Z ++ [10]) (.slice (some ⟨gG, 0, none⟩) (zF + 1) capG) (wG.setCell ⟨M + 1, 0, none⟩ (.slice (some ⟨gG, 0, none⟩) (zF + 1) capG))) := HDF.out.text (below_gr hsF HRF.out hgrowG) (by rw [bc_app, List.length_append, hzF]; exact hownG); clear hownG hgrowG hatG hltG; refine Hid.out ?_)
          refine Lib.hid ?_
          obtain ⟨⟨g5, g6, hQG⟩, hPG⟩ := HOG.out
          have HBe : Hid (Below w.heap.size w (wG.setCell ⟨M + 1, 0, none⟩ (.slice (some ⟨gG, 0, none⟩) (zF + 1) capG))) := HBw.out _ _ _ _ hPG
          have hcv := conv_text hPG.row
          rw [← HZ.out] at hcv
          clear HOG hPG g0 g1 g2 HDF
          go_wp2_with fail
          exact HPP.out _ HBe.out
set_option maxHeartbeats 8000000 in
set_option maxRecDepth 100000 in
theorem dump_no (B : Nat) {v : Value} (w : World)
    (hOr : Calls Tryz.prog 7 #[.pointer (some ⟨B, 0, none⟩), v] w fun e w' => e = .returned (.tuple #[.slice none 0 0, .int .i64 70]) ∧ w' = w) :
    Calls Tryz.prog 6 #[.pointer (some ⟨B, 0, none⟩), v] w fun e w' => e = .returned (.tuple #[.string ⟨#[]⟩, .int .i64 70]) ∧ Below w.heap.size w w' := by
  have HO : Hid (Calls Tryz.prog 7 #[.pointer (some ⟨B, 0, none⟩), v] w fun e w' => e = .returned (.tuple #[.slice none 0 0, .int .i64 70]) ∧ w' = w) := hOr
  clear hOr
  generalize hPP : (fun (e : Ending) (w' : World) => e = .returned (.tuple #[.string ⟨#[]⟩, .int .i64 70]) ∧ Below w.heap.size w w') = PP
  have HPP : Hid (PP (.returned (.tuple #[.string ⟨#[]⟩, .int .i64 70])) w) := by rw [← hPP]; exact ⟨rfl, Below.refl _ _⟩
  clear hPP
  go_enter Tryz.func6, Tryz.ntmps6
  go_wp2_with fail
  refine HO.out.mono ?_
  rintro e w1 ⟨rfl, rfl⟩
  go_wp2_with fail
  exact HPP.out
end Go.Proofs.YtobgedjpghokcaaGreatDoor
