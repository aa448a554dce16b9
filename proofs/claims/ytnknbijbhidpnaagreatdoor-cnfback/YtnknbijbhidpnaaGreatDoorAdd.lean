import Derived.Test.YtnknbijbhidpnaaGreatDoorApp
import Derived.Maps.OwnSet
namespace Go.Proofs.YtnknbijbhidpnaaGreatDoor
open Go.ChangeShapes Go.WideShapes Go.ChangeAt Go.RowKit Go.Cn Go.WideMaps Go.Maps

def cellsP (ps : List (Value × Int)) : List Value := ps.flatMap fun p => [p.1, .int .i64 p.2]
theorem cellsP_len (ps : List (Value × Int)) : (cellsP ps).length = ps.length * 2 := by
  induction ps with
  | nil => rfl
  | cons p r ih =>
    have : cellsP (p :: r) = p.1 :: .int .i64 p.2 :: cellsP r := rfl
    rw [this]; simp [ih]; omega
theorem cellsP_snoc (ps : List (Value × Int)) (v : Value) (i : Int) : cellsP (ps ++ [(v, i)]) = cellsP ps ++ [v, .int .i64 i] := by simp [cellsP, List.flatMap_append]
/-- a gathering in memory -/
structure Gath (w : World) (B G M : Nat) (v : Value) (ps : List (Value × Int)) (lits : Int) (over : Bool) (n : Nat) (D : DataW Unit) : Prop where
  blk : w.heap[G]? = some (.cells #[v, .map (some M), .int .i64 lits, .bool over] 100 (0, 0))
  row : w.ownsRow B 102 2 v ps.length (cellsP ps)
  map : w.ownsMap Tryz.prog 9 (plainElem Tryz.prog 3) M n D
  bg : B ≤ G
  bm : B ≤ M
/-- what an add may turn -/
structure GKept (w w' : World) (G M : Nat) (v : Value) : Prop where
  os : w'.os = w.os
  tape : w'.tape = w.tape
  output : w'.output = w.output
  size : w.heap.size ≤ w'.heap.size
  block : ∀ k, k < w.heap.size → k ≠ G → k ≠ M → some k ≠ v.ownBlock → w'.heap[k]? = w.heap[k]?
theorem GKept.below {w0 w w' : World} {B G M n : Nat} {v : Value} {ps : List (Value × Int)} {lits : Int} {over : Bool} {D : DataW Unit} (h : GKept w w' G M v) (hg : Gath w B G M v ps lits over n D) (hb : Below B w0 w) (hB : B ≤ w.heap.size) : Below B w0 w' := by
  refine ⟨h.os.trans hb.os, h.tape.trans hb.tape, h.output.trans hb.output, Nat.le_trans hb.size h.size, fun k hk => ?_⟩
  rw [h.block k (by omega) (by have := hg.bg; omega) (by have := hg.bm; omega) (fun e => by have := (hg.row.lt k e.symm).1; omega)]
  exact hb.block k hk
theorem blk_cell {w : World} {G : Nat} {cs : Array Value} {e : TypeId} (h : w.heap[G]? = some (.cells cs e (0, 0))) (j : Nat) : w.cell? ⟨G, j, none⟩ = cs[j]? := by
  simp [World.cell?, h]
theorem blk_frozen {w : World} {G : Nat} {cs : Array Value} {e : TypeId} (h : w.heap[G]? = some (.cells cs e (0, 0))) (j : Nat) : w.frozen? ⟨G, j, none⟩ = false := by
  simp [World.frozen?, h]
theorem conv_text {w : World} {B : Nat} {v : Value} {l : List UInt8} (h : w.ownsRow B 5 1 v l.length (Lib.byteCells l)) : (convert 48 9 v).run Tryz.prog w = .ok (.string ⟨l.toArray⟩) w := by
  rcases h.2 with ⟨e, h0⟩ | ⟨g, cap, cur, rfl, hb, hg, h1, h2, h3, h4⟩
  · subst e
    have hl : l = [] := List.eq_nil_of_length_eq_zero h0
    subst hl
    exact run_convert_bytes_string w 48 9 5 none 0 0 Tryz.underlying48 Tryz.underlying5 Tryz.underlying9
  · exact run_convert_bytes_back (P := Tryz.prog) w 48 9 5 ⟨g, 0, none⟩ cap l Tryz.underlying48 Tryz.underlying5 Tryz.underlying9 (fun j hj => h.cells (g := g) rfl j _ (by simp [Lib.byteCells, hj]))
theorem lawT : Keyed Tryz.prog 9 := string_keyed Tryz.underlying9
theorem zeroT (w : World) : (zeroValue 3).run Tryz.prog w = .ok (.int .i64 0) w := Tryz.zeroValue3 w
theorem Tryz.info102 : (Tryz.prog.info? 102).map (fun i => (i.zero, i.size, i.bytes)) = some (some (.agg #[.slice none 0 0, .int .i64 0]), 2, 32) := by kernel_rfl
theorem row_ne_map {w : World} {B e size n M m : Nat} {v : Value} {L : List Value} {P : Program} {k : TypeId} {R : Value → Option (DataW Unit × List MemPlace)} {D : DataW Unit} (h : w.ownsRow B e size v n L) (hm : w.ownsMap P k R M m D) : v.ownBlock ≠ some M := by
  intro e
  rcases h.2 with ⟨h0, _⟩ | ⟨g, cap, cur, h0, _, hg, _⟩
  · rw [h0] at e; cases e
  · rw [h0] at e
    have e2 : g = M := by simpa [Value.ownBlock] using e
    obtain ⟨es, clock, hb, _⟩ := hm
    rw [← e2, hg] at hb
    cases hb
theorem row_ne_blk {w : World} {B e size n G : Nat} {v : Value} {L : List Value} {cs : Array Value} {t : TypeId} {fr : Nat × Nat} (h : w.ownsRow B e size v n L) (hb : w.heap[G]? = some (.cells cs t fr)) (hne : e ≠ t) : v.ownBlock ≠ some G := by
  intro e1
  rcases h.2 with ⟨h0, _⟩ | ⟨g, cap, cur, h0, _, hg, _⟩
  · rw [h0] at e1; cases e1
  · rw [h0] at e1
    have e2 : g = G := by simpa [Value.ownBlock] using e1
    rw [← e2, hg] at hb
    cases hb
    exact hne rfl
theorem row_below {w w' : World} {B e size n : Nat} {v : Value} {L : List Value} (h : w.ownsRow B e size v n L) (hb : Below w.heap.size w w') : w'.ownsRow B e size v n L := by
  refine ⟨h.1, ?_⟩
  rcases h.2 with h0 | ⟨g, cap, cur, h1, h2, h3, h4⟩
  · exact Or.inl h0
  · exact Or.inr ⟨g, cap, cur, h1, h2, by rw [hb.block g (Array.getElem?_eq_some_iff.1 h3).1]; exact h3, h4⟩
theorem gb_set (w : World) (a : Addr) (u : Value) : w.grownBy (w.setCell a u) (some a.block) :=
  ⟨rfl, rfl, rfl, by simp, fun k _ hk => heap_setCell_other w a k u (fun e => hk (by rw [e]))⟩
theorem shape2 {w : World} {B m : Nat} {v : Value} {L : List Value} (h : w.ownsRow B 102 2 v (m + 1) L) :
    ∃ g cap, v = .slice (some ⟨g, 0, none⟩) (m + 1) cap := by
  rcases h.2 with ⟨e, h0⟩ | ⟨g, cap, cur, rfl, _⟩
  · omega
  · exact ⟨g, cap, rfl⟩
theorem two_new (w : World) (x y : Value) (t : TypeId) : ∀ j u, ([x, y] : List Value)[j]? = some u → (w.alloc (.cells #[x, y] t)).cell? ((⟨w.heap.size, 0, none⟩ : Addr).add j) = some u := by
  intro j u hj
  rw [Addr.add_lit]
  match j, hj with
  | 0, hj => simp at hj; subst hj; simp
  | 1, hj => simp at hj; subst hj; simp
set_option maxHeartbeats 4000000 in
set_option maxRecDepth 100000 in
theorem add_new (B G M n : Nat) (v : Value) (ps : List (Value × Int)) (lits place : Int) (over : Bool) (D : DataW Unit) (ad : Option Addr) (S : List Int) (c : Nat) (w : World)
    (hG : Gath w B G M v ps lits over n D) (hI : Ints w ad S) (hlit : ∀ x ∈ S, litB x = true) (hS : S.length ≤ 65536) (htab : PowT w.heap.size w) (hBw : B ≤ w.heap.size)
    (hhas : has D (.string (txtL S)) = false) (hps : ps.length < 1048576) (hl0 : 0 ≤ lits) (hl1 : lits + S.length ≤ 4194304) (hn : n ≤ 1048576) :
    Calls Tryz.prog 49 #[.pointer (some ⟨G, 0, none⟩), .slice ad S.length c, .int .i64 place] w fun e w' => e = .returned (.tuple #[]) ∧ ∃ v', Gath w' B G M v' (ps ++ [(.slice ad S.length c, place)]) (lits + S.length) over (n + 1) (D.put (.string (txtL S)) (.lit (.int .i64 ps.length))) ∧ GKept w w' G M v := by
  have hlt : (txtL S).length ≤ 22 * S.length := txtL_len S hlit
  have hne : ((ps.length : Int) == 1048576) = false := by simp; omega
  have HA : Hid (Calls Tryz.prog 16 #[.slice none 0 0, .slice ad S.length c] w fun e w' => ∃ v, e = .returned v ∧ w'.ownsRow w.heap.size 5 1 v (txtL S).length (Lib.byteCells (txtL S)) ∧ Below w.heap.size w w') :=
    appendLits_any w.heap.size (.slice none 0 0) [] ad S c w (World.ownsRow_nil _ _ _ _) (Nat.le_refl _) htab (fun W hW => hI.below hW) hlit (by simp; omega)
  have HG : Hid (Gath w B G M v ps lits over n D) := hG
  have HH : Hid (has D (.string (txtL S)) = false) := hhas
  clear hG hI hlit htab hhas
  go_enter Tryz.func49, Tryz.ntmps49
  go_wp2_with fail
  refine HA.out.mono ?_
  rintro e w1 ⟨v1, rfl, hown1, hb1⟩
  have hcv := conv_text hown1
  have hG1 : G < w.heap.size := (Array.getElem?_eq_some_iff.1 HG.out.blk).1
  have hM1 : M < w.heap.size := HG.out.map.lt
  have hblk1 : w1.heap[G]? = some (.cells #[v, .map (some M), .int .i64 lits, .bool over] 100 (0, 0)) := (hb1.block G hG1).trans HG.out.blk
  have c0 : w1.cell? ⟨G, 0, none⟩ = some v := blk_cell hblk1 0
  have c1 : w1.cell? ⟨G, 1, none⟩ = some (.map (some M)) := blk_cell hblk1 1
  have c2 : w1.cell? ⟨G, 2, none⟩ = some (.int .i64 lits) := blk_cell hblk1 2
  have hmap1 : w1.ownsMap Tryz.prog 9 (plainElem Tryz.prog 3) M n D := by
    obtain ⟨es, clock, h1, h2⟩ := HG.out.map
    exact ⟨es, clock, (hb1.block M hM1).trans h1, h2⟩
  have hkey : keyOf Tryz.prog 9 (.string ⟨(txtL S).toArray⟩) = some (.string (txtL S)) := by
    have h := keyOf_string_mk (P := Tryz.prog) (s := ⟨(txtL S).toArray⟩) Tryz.underlying9 (by show (txtL S).toArray.size ≤ maxLen; unfold maxLen; simp; omega)
    simpa using h
  obtain ⟨vv, pss, hrun, hR⟩ := hmap1.look_ok lawT Tryz.underlying97 (zeroT w1) (plainElem_int Tryz.underlying3 (by decide)) hkey
  obtain ⟨cc, rfl, -, -⟩ := plainElem_int_inv Tryz.underlying3 hR
  rw [HH.out] at hrun
  obtain ⟨adv, capv, hv⟩ : ∃ adv capv, v = .slice adv ps.length capv := by
    rcases HG.out.row.2 with ⟨e, h0⟩ | ⟨g, cap, cur, e, _⟩
    · exact ⟨none, 0, by rw [e, h0]⟩
    · exact ⟨_, _, e⟩
  subst hv
  have HK : Hid (keyOf Tryz.prog 9 (.string ⟨(txtL S).toArray⟩) = some (.string (txtL S))) := hkey
  have HX : Hid (w1.ownsMap Tryz.prog 9 (plainElem Tryz.prog 3) M n D ∧ Below w.heap.size w w1 ∧ w1.heap[G]? = some (.cells #[.slice adv ps.length capv, .map (some M), .int .i64 lits, .bool over] 100 (0, 0))) := ⟨hmap1, hb1, hblk1⟩
  clear hkey hmap1 hR hown1 hb1 hblk1
  generalize (⟨(txtL S).toArray⟩ : ByteArray) = tx at *
  go_wp2
  obtain ⟨w2, hup, hmap2, hgr2⟩ := (HX.out.1.drew).update lawT Tryz.underlying97 (by unfold maxLen; omega) HK.out (plainElem_int (H := Unit) (a := (ps.length : Int)) Tryz.underlying3 (WalkArith.wf_i64 (by omega)))
  have HM2 : Hid (w2.ownsMap Tryz.prog 9 (plainElem Tryz.prog 3) M (n + 1) (D.put (.string (txtL S)) (.lit (.int .i64 ps.length))) ∧ w1.drew.grownBy w2 (some M)) := ⟨hmap2, hgr2⟩
  clear hmap2 hgr2
  go_region
  have hw2sz : w1.heap.size ≤ w2.heap.size := HM2.out.2.size
  have hw1sz : w.heap.size ≤ w1.heap.size := HX.out.2.1.size
  have hGM : G ≠ M := by
    intro e
    obtain ⟨es, clock, hb, _⟩ := HX.out.1
    rw [← e, HX.out.2.2] at hb
    cases hb
  have hblk2 : w2.heap[G]? = some (.cells #[.slice adv ps.length capv, .map (some M), .int .i64 lits, .bool over] 100 (0, 0)) := (HM2.out.2.block G (Nat.lt_of_lt_of_le hG1 hw1sz) (fun e => hGM (by cases e; rfl))).trans HX.out.2.2
  have hrow1 : w1.ownsRow B 102 2 (.slice adv ps.length capv) ps.length (cellsP ps) := row_below HG.out.row HX.out.2.1
  have hrow2 : w2.ownsRow B 102 2 (.slice adv ps.length capv) ps.length (cellsP ps) := World.ownsRow.kept (w := w1.drew) hrow1 HM2.out.2 (Or.inr (row_ne_map hrow1 HX.out.1))
  have d0 : w2.cell? ⟨G, 0, none⟩ = some (.slice adv ps.length capv) := blk_cell hblk2 0
  have HY : Hid (w2.heap[G]? = some (.cells #[.slice adv ps.length capv, .map (some M), .int .i64 lits, .bool over] 100 (0, 0)) ∧ w2.ownsRow B 102 2 (.slice adv ps.length capv) ps.length (cellsP ps)) := ⟨hblk2, hrow2⟩
  obtain ⟨i0, hi, hz0, hz1, hz2⟩ := info_parts Tryz.info102
  clear hblk2 hrow1 hrow2 hup hrun hcv c0 c1 c2
  go_wp2_with (at_builtin; refine wpList_append_own _ rfl _ _ 98 rfl B 102 i0 (.agg #[.slice none 0 0, .int .i64 0]) 2 32 Tryz.underlying98 hi hz0 hz1 hz2 rfl (by decide) _ _ _ rfl (HY.out.2.alloc _) ⟨w2.heap.size, 0, none⟩ 1 1 [.slice ad S.length c, .int .i64 place] rfl rfl (two_new _ _ _ _) (by intro u hu; simp at hu; rcases hu with rfl | rfl <;> rfl) (by unfold maxLen; omega) (by omega) (by simp; omega) ?_; intro v3 w3 hown3 hgrow3 hnil3; obtain ⟨g3, cap3, rfl⟩ := shape2 hown3; have HO3 : Hid (w3.ownsRow B 102 2 (.slice (some ⟨g3, 0, none⟩) (ps.length + 1) cap3) (ps.length + 1) (cellsP ps ++ [.slice ad S.length c, .int .i64 place])) := hown3; have HG3 : Hid ((w2.alloc (.cells #[.slice ad S.length c, .int .i64 place] 102)).grownBy w3 (Value.ownBlock (.slice adv ps.length capv))) := hgrow3; clear hown3 hgrow3 hnil3; refine Hid.out ?_)
  refine Lib.hid ?_
  have hG2 : G < w2.heap.size := by omega
  have hblk3 : w3.heap[G]? = some (.cells #[.slice adv ps.length capv, .map (some M), .int .i64 lits, .bool over] 100 (0, 0)) :=
    (HG3.out.block G (by simp; omega) (fun e => row_ne_blk HY.out.2 HY.out.1 (by decide) e.symm)).trans ((Below.heap_alloc _ _ G hG2).trans HY.out.1)
  have e0 : w3.cell? ⟨G, 0, none⟩ = some (.slice adv ps.length capv) := blk_cell hblk3 0
  have e2 : w3.cell? ⟨G, 2, none⟩ = some (.int .i64 lits) := blk_cell hblk3 2
  have f0 : w3.frozen? ⟨G, 0, none⟩ = false := blk_frozen hblk3 0
  have f2 : w3.frozen? ⟨G, 2, none⟩ = false := blk_frozen hblk3 2
  have HB3 : Hid (w3.heap[G]? = some (.cells #[.slice adv ps.length capv, .map (some M), .int .i64 lits, .bool over] 100 (0, 0))) := hblk3
  clear hblk3 d0
  go_wp2
  go_end0
  refine ⟨rfl, .slice (some ⟨g3, 0, none⟩) (ps.length + 1) cap3, ⟨?_, ?_, ?_, HG.out.bg, HG.out.bm⟩, ?_⟩
  · rw [heap_setCell_same _ G 2 _ _ _ (heap_setCell_same _ G 0 _ _ _ HB3.out)]
    rfl
  · have h1 : w3.ownsRow B 102 2 (.slice (some ⟨g3, 0, none⟩) (ps.length + 1) cap3) (ps ++ [(Value.slice ad S.length c, place)]).length (cellsP (ps ++ [(Value.slice ad S.length c, place)])) := by
      rw [cellsP_snoc, List.length_append]; exact HO3.out
    have hne := row_ne_blk HO3.out HB3.out (by decide)
    exact World.ownsRow.kept (World.ownsRow.kept h1 (gb_set w3 ⟨G, 0, none⟩ _) (Or.inr hne)) (gb_set _ ⟨G, 2, none⟩ _) (Or.inr hne)
  · have hm3 : w3.ownsMap Tryz.prog 9 (plainElem Tryz.prog 3) M (n + 1) (D.put (.string (txtL S)) (.lit (.int .i64 ps.length))) :=
      World.ownsMap.kept (HM2.out.1.alloc _) HG3.out (fun e => row_ne_map HY.out.2 HM2.out.1 e.symm)
    exact World.ownsMap.kept (World.ownsMap.kept hm3 (gb_set w3 ⟨G, 0, none⟩ _) (fun e => hGM (by cases e; rfl))) (gb_set _ ⟨G, 2, none⟩ _) (fun e => hGM (by cases e; rfl))
  · have t1 := HX.out.2.1
    have t2 := HM2.out.2
    have t3 := HG3.out
    refine ⟨t3.os.trans (t2.os.trans t1.os), t3.tape.trans (t2.tape.trans t1.tape), t3.output.trans (t2.output.trans t1.output), ?_, ?_⟩
    · have := t3.size
      simp at this ⊢
      omega
    · intro k hk hkG hkM hkv
      rw [heap_setCell_other _ _ k _ hkG, heap_setCell_other _ _ k _ hkG, t3.block k (by simp; omega) hkv, Below.heap_alloc _ _ k (by omega)]
      exact (t2.block k (by simp; omega) (fun e => hkM (by cases e; rfl))).trans (t1.block k hk)
end Go.Proofs.YtnknbijbhidpnaaGreatDoor
