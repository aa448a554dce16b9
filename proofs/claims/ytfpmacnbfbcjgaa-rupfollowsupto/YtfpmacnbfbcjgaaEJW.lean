import Derived.Test.YtfpmacnbfbcjgaaEK2
namespace Go.Proofs.Ytfpmacnbfbcjgaa
open Go.ChangeShapes Go.WideShapes Go.ChangeAt Go.RowKit
open Go.Pr
/-- what holds at each round of sift -/
structure SiR (w : World) (g : Nat) (O : Nat → Prop) (S : ES) (l : Nat) (pl : Value) (P : ES × List (Nat × Nat)) (wr : World) (i : Nat) (kept : List (Nat × Nat)) (S' : ES) (O' : Nat → Prop) (p' : Nat → Value) : Prop where
  mem : Mem wr g O' (S'.putW l (laid kept (S.watch l))) p'
  fr : Fr O w wr O'
  hpl : p' (l + 12) = pl
  wf : WF S'
  n : S'.n = S.n
  cl : S'.cls.length = S.cls.length
  val : S'.val l = -1
  wat : S'.watch l = S.watch l
  kp : ∀ e ∈ kept, e.1 < S'.cls.length ∧ e.2 < 2 * S'.n + 2 ∧ e.2 ≠ 1
  le : kept.length ≤ i
  len : ∀ x, x ≠ l → (S'.watch x).length ≤ (S.watch x).length + i
  res : P = ES.sift l S' ((S.watch l).drop i) kept
theorem Fr.drew {O O' : Nat → Prop} {w w' : World} (h : Fr O w w' O') : Fr O w w'.drew O' := ⟨h.os, h.tape, h.output, h.size, h.kept, h.new⟩
theorem SiR.keep {w : World} {g : Nat} {O : Nat → Prop} {S : ES} {l : Nat} {pl : Value} {P : ES × List (Nat × Nat)} {wr w2 : World} {i : Nat} {kept : List (Nat × Nat)} {S' : ES} {O' : Nat → Prop} {p' : Nat → Value} (h : SiR w g O S l pl P wr i kept S' O' p') {k o : Nat} (hk : k < S'.cls.length ∧ o < 2 * S'.n + 2 ∧ o ≠ 1) (hres : P = ES.sift l S' ((k, o) :: (S.watch l).drop (i + 1)) kept) (hv : 0 < S'.val o) (hm : Mem w2 g O' (S'.putW l (laid (kept ++ [(k, o)]) (S.watch l))) p') (hf : Fr O' wr w2 O') : SiR w g O S l pl P w2 (i + 1) (kept ++ [(k, o)]) S' O' p' :=
  ⟨hm, h.fr.trans hf, h.hpl, h.wf, h.n, h.cl, h.val, h.wat, fun e he => by
    rcases List.mem_append.1 he with he | he
    · exact h.kp e he
    · have e1 : e = (k, o) := by simpa using he
      rw [e1]; exact hk, by have := h.le; simp; omega, fun x hx => Nat.le_trans (h.len x hx) (by omega), by rw [hres, sift_true hv]⟩
theorem setC_id {S : ES} {k : Nat} (hk : k < S.cls.length) : S.setC k (S.clause k) = S := by
  have e : S.cls.set k (S.clause k) = S.cls := by
    unfold ES.clause
    rw [getD_of _ _ _ hk, List.set_getElem_self]
  unfold ES.setC
  rw [e]
theorem SiR.found {w : World} {g : Nat} {O : Nat → Prop} {S : ES} {l : Nat} {pl : Value} {P : ES × List (Nat × Nat)} {wr w3 : World} {i : Nat} {kept : List (Nat × Nat)} {S' : ES} {O' O3 : Nat → Prop} {p' p3 : Nat → Value} (h : SiR w g O S l pl P wr i kept S' O' p') (hl1 : 2 ≤ l) (hl : l < 2 * S.n + 2) {k o f x : Nat} {c1 : CL} (hk : k < S'.cls.length) (hvo : ¬ 0 < S'.val o) (hc1 : ES.turned (S'.clause k) l = c1) (hs : (S'.setC k c1).seek ((S'.setC k c1).inside k) c1.a ((S'.setC k c1).inside k).length c1.f = some (f, x)) (hres : P = ES.sift l S' ((k, o) :: (S.watch l).drop (i + 1)) kept) (hm : Mem w3 g O3 ((((S'.setC k c1).setC k { c1 with f := f, b := x }).addW x k c1.a).putW l (laid kept (S.watch l))) p3) (hf : Fr O w w3 O3) (hp : p3 (l + 12) = pl) :
    SiR w g O S l pl P w3 (i + 1) kept (((S'.setC k c1).setC k { c1 with f := f, b := x }).addW x k c1.a) O3 p3 := by
  have hck := h.wf.clause_ok hk
  have hn := h.n
  have ht := turned_ok (c := S'.clause k) (l := l) (n := 2 * S'.n + 2) hck.2.2.2.2.1 hck.2.2.2.2.2.1 (by omega) hck.2.2.2.2.2.2.1 hck.2.2.2.2.2.2.2 (by omega)
  rw [hc1] at ht
  obtain ⟨w1, s1⟩ := h.wf.setC (k := k) (c := c1) ht.1 ht.2.1 hk (by rw [ht.2.2.1]; exact hck.2.2.2.1) ht.2.2.2.1 ht.2.2.2.2.1 ht.2.2.2.2.2.1 ht.2.2.2.2.2.2
  have hl0 : 0 < ((S'.setC k c1).inside k).length := by
    rcases Nat.eq_zero_or_pos ((S'.setC k c1).inside k).length with e | e
    · rw [e] at hs
      cases hs
    · exact e
  have hk1 : k < (S'.setC k c1).cls.length := by rw [s1.len]; exact hk
  have ho := seek_ok _ _ _ _ _ _ _ hl0 hs
  have hx := w1.inside_mem ho.2.1
  have hcc : (S'.setC k c1).clause k = c1 := clause_setC hk
  have hil := w1.inside_len hk1
  have hck1 := w1.clause_ok hk1
  rw [hcc] at hil hck1
  obtain ⟨w2, s2⟩ := w1.setC (k := k) (c := { c1 with f := f, b := x }) (by rw [hcc]) (by rw [hcc]) hk1 (by show f ≤ _; omega) ht.2.2.2.1 hx.2 ht.2.2.2.2.2.1 (by show x ≠ 1; omega)
  obtain ⟨w3', s3⟩ := w2.addW (c := x) (k := k) (o := c1.a) (by rw [s2.len]; exact hk1) (by rw [s2.n, s1.n]; exact ht.2.2.2.1) ht.2.2.2.2.2.1
  have hxl : x ≠ l := fun e => by
    have h1 : 0 ≤ S'.val x := ho.2.2.2
    rw [e, h.val] at h1
    exact absurd h1 (by decide)
  have hlen : (((S'.setC k c1).setC k { c1 with f := f, b := x }).addW x k c1.a).cls.length = S'.cls.length := by rw [s3.len, s2.len, s1.len]
  refine ⟨hm, hf, hp, w3', h.n, by rw [hlen, h.cl], h.val, ?_, fun e he => ?_, by have := h.le; omega, fun y hy => ?_, ?_⟩
  · rw [addW_ne (fun e => hxl e.symm)]
    exact h.wat
  · rw [hlen]
    exact h.kp e he
  · have h1 := watch_addW_len ((S'.setC k c1).setC k { c1 with f := f, b := x }) x k c1.a y
    have h2 := h.len y hy
    have h3 : (((S'.setC k c1).setC k { c1 with f := f, b := x }).watch y).length = (S'.watch y).length := rfl
    omega
  · rw [hres, sift_found hvo hc1 rfl hs]
theorem settle_val {S : ES} (h : WF S) {k c l : Nat} (hc : c < 2 * S.n + 2) (hc1 : c ≠ 1) (hv : S.val l = -1) : (S.settle k c).val l = -1 := by
  unfold ES.settle
  split
  · rename_i h0
    have hc0 : c ≠ 0 := fun e => by rw [e, h.val0] at h0; exact absurd h0 (by decide)
    have ho := opp_lt (n := S.n) (c := c) (by omega) hc
    have e := getD_set2 S.vals c (opp c) l 1 (-1) (by rw [h.vall]; exact hc) (by rw [h.vall]; exact ho.2.1)
    show ((S.vals.set c 1).set (opp c) (-1)).getD l 0 = -1
    rw [e]
    split
    · rfl
    · split
      · rename_i e2
        rw [e2, h0] at hv
        exact absurd hv (by decide)
      · exact hv
  · split
    · exact hv
    · exact hv
theorem settle_watch (S : ES) (k c x : Nat) : (S.settle k c).watch x = S.watch x := by
  unfold ES.settle
  split
  · rfl
  · split <;> rfl
theorem SiR.settled {w : World} {g : Nat} {O : Nat → Prop} {S : ES} {l : Nat} {pl : Value} {P : ES × List (Nat × Nat)} {wr w3 : World} {i : Nat} {kept : List (Nat × Nat)} {S' : ES} {O' O3 : Nat → Prop} {p' p3 : Nat → Value} (h : SiR w g O S l pl P wr i kept S' O' p') (hl1 : 2 ≤ l) (hl : l < 2 * S.n + 2) {k o : Nat} {c1 : CL} (hk : k < S'.cls.length) (hvo : ¬ 0 < S'.val o) (hc1 : ES.turned (S'.clause k) l = c1) (hs : (S'.setC k c1).seek ((S'.setC k c1).inside k) c1.a ((S'.setC k c1).inside k).length c1.f = none) (hres : P = ES.sift l S' ((k, o) :: (S.watch l).drop (i + 1)) kept) (hcl : ((S'.setC k c1).settle k c1.a).clash = none) (hm : Mem w3 g O3 (((S'.setC k c1).settle k c1.a).putW l (laid (kept ++ [(k, c1.a)]) (S.watch l))) p3) (hf : Fr O w w3 O3) (hp : p3 (l + 12) = pl) :
    SiR w g O S l pl P w3 (i + 1) (kept ++ [(k, c1.a)]) ((S'.setC k c1).settle k c1.a) O3 p3 := by
  have hck := h.wf.clause_ok hk
  have hn := h.n
  have ht := turned_ok (c := S'.clause k) (l := l) (n := 2 * S'.n + 2) hck.2.2.2.2.1 hck.2.2.2.2.2.1 (by omega) hck.2.2.2.2.2.2.1 hck.2.2.2.2.2.2.2 (by omega)
  rw [hc1] at ht
  obtain ⟨w1, s1⟩ := h.wf.setC (k := k) (c := c1) ht.1 ht.2.1 hk (by rw [ht.2.2.1]; exact hck.2.2.2.1) ht.2.2.2.1 ht.2.2.2.2.1 ht.2.2.2.2.2.1 ht.2.2.2.2.2.2
  have hk1 : k < (S'.setC k c1).cls.length := by rw [s1.len]; exact hk
  obtain ⟨w2, s2⟩ := w1.settle (k := k) (l := c1.a) hk1 (by rw [s1.n]; exact ht.2.2.2.1) ht.2.2.2.2.2.1
  have hlen : ((S'.setC k c1).settle k c1.a).cls.length = S'.cls.length := by rw [s2.len, s1.len]
  have hnn : ((S'.setC k c1).settle k c1.a).n = S'.n := by rw [s2.n, s1.n]
  refine ⟨hm, hf, hp, w2, by rw [hnn, h.n], by rw [hlen, h.cl], ?_, ?_, fun e he => ?_, by have := h.le; simp; omega, fun y hy => ?_, ?_⟩
  · exact settle_val w1 (by rw [s1.n]; exact ht.2.2.2.1) ht.2.2.2.2.2.1 h.val
  · rw [settle_watch]; exact h.wat
  · rw [hlen, hnn]
    rcases List.mem_append.1 he with he | he
    · exact h.kp e he
    · have e1 : e = (k, c1.a) := by simpa using he
      rw [e1]
      exact ⟨hk, ht.2.2.2.1, ht.2.2.2.2.2.1⟩
  · rw [settle_watch]
    have := h.len y hy
    exact Nat.le_trans this (by omega)
  · rw [hres, sift_next hvo hc1 rfl hs (by rw [hcl]; simp)]
theorem seek_step {S : ES} {all : List Nat} {o m i j : Nat} (hj : (if all.length ≤ i then 0 else i) = j) : S.seek all o (m + 1) i = if all.getD j 0 ≠ o ∧ 0 ≤ S.val (all.getD j 0) then some (j, all.getD j 0) else S.seek all o m (j + 1) := by
  rw [ES.seek, hj]
set_option maxHeartbeats 16000000 in
set_option maxRecDepth 100000 in
theorem sift_mem {w : World} {g : Nat} {O : Nat → Prop} {S : ES} {p : Nat → Value} (h : Mem w g O S p) (hw : WF S) {l : Nat} (hl1 : 2 ≤ l) (hl : l < 2 * S.n + 2) (hv : S.val l = -1) {al : Option Addr} {cx : Nat} (hpl : p (l + 12) = .slice al (S.watch l).length cx) (hW : ∀ x, (S.watch x).length + (S.watch l).length ≤ 8388608) :
    Calls Try.prog 46 #[.pointer (some ⟨g, 0, none⟩), .int .i32 (l : Int), .slice al (S.watch l).length (S.watch l).length] w fun r w' => ∃ junk O' p', r = .returned (.int .i64 ((ES.sift l S (S.watch l) []).2.length : Int)) ∧ ((ES.sift l S (S.watch l) []).2 ++ junk).length = (S.watch l).length ∧ Mem w' g O' ((ES.sift l S (S.watch l) []).1.putW l ((ES.sift l S (S.watch l) []).2 ++ junk)) p' ∧ Fr O w w' O' ∧ p' (l + 12) = p (l + 12) := by
  have hnn := hw.n
  have hwl := hw.wtl
  have hml := hW l
  generalize hP : ES.sift l S (S.watch l) [] = P at *
  have HP0 : Hid (SiR w g O S l (p (l + 12)) P w 0 [] S O p) := by
    refine ⟨?_, Fr.refl O w, rfl, hw, rfl, rfl, hv, rfl, fun e he => absurd he (by simp), Nat.le_refl _, fun x _ => by omega, by rw [List.drop_zero]; exact hP.symm⟩
    have e : S.putW l (laid [] (S.watch l)) = S := by
      unfold laid
      simp only [List.nil_append, List.length_nil, List.drop_zero]
      exact putW_id (by omega)
    rw [e]
    exact h
  have HOrig : Hid (∀ e ∈ S.watch l, e.1 < S.cls.length ∧ e.2 < 2 * S.n + 2 ∧ e.2 ≠ 1) := fun e he => hw.watch_ok he
  clear hP h hv hw
  generalize hm : (S.watch l).length = m at *
  have HLm : Hid ((S.watch l).length = m) := hm
  clear hm
  generalize hPP : (fun (r : Ending) (w' : World) => ∃ junk O' p', r = .returned (.int .i64 (P.2.length : Int)) ∧ (P.2 ++ junk).length = m ∧ Mem w' g O' (P.1.putW l (P.2 ++ junk)) p' ∧ Fr O w w' O' ∧ p' (l + 12) = p (l + 12)) = PP
  have HPP : Hid (∀ r w', (∃ junk O' p', r = .returned (.int .i64 (P.2.length : Int)) ∧ (P.2 ++ junk).length = m ∧ Mem w' g O' (P.1.putW l (P.2 ++ junk)) p' ∧ Fr O w w' O' ∧ p' (l + 12) = p (l + 12)) → PP r w') := fun r w' h => by rw [← hPP]; exact h
  clear hPP
  have HPL : Hid (p (l + 12) = .slice al m cx) := hpl
  clear hpl
  generalize p (l + 12) = pl at *
  go_enter Try.func46, Try.ntmps46
  go_wp2
  go_step3
  go_wp2
  go_step3
  go_wp2
  go_loopg [7, 17] m (fun gk s7 s17 wr => ∃ (i j : Nat), s7 = .int .i64 (j : Int) ∧ s17 = .int .i64 (i : Int) ∧ i + gk = m ∧ j ≤ i ∧ Aside (∃ kept S' O' p', kept.length = j ∧ SiR w g O S l pl P wr i kept S' O' p'))
  case atStart => exact ⟨0, 0, rfl, rfl, by omega, by omega, ⟨[], S, O, p, rfl, HP0.out⟩⟩
  case round =>
    obtain ⟨i, j, rfl, rfl, hi, hji, HA⟩ := hrel
    obtain ⟨kept, S', O', p', hkl, hR⟩ := HA.out
    by_cases hlt : i < m
    · have hil : i < (S.watch l).length := by rw [HLm.out]; exact hlt
      have hlw : l < (S'.putW l (laid kept (S.watch l))).wat.length := by rw [putW_len, hR.wf.wtl, hR.n]; omega
      have hwm : (S'.putW l (laid kept (S.watch l))).watch l = laid kept (S.watch l) := putW_self (by rw [hR.wf.wtl, hR.n]; omega)
      have hlen : (laid kept (S.watch l)).length = m := by rw [laid_len (by omega), HLm.out]
      have hp' : p' (l + 12) = .slice al ((S'.putW l (laid kept (S.watch l))).watch l).length cx := by rw [hR.hpl, HPL.out, hwm, hlen]
      obtain ⟨bl, rfl⟩ : ∃ bl, al = some ⟨bl, 0, none⟩ := by
        have h5 := hR.mem.row (l + 12) (by unfold used; omega)
        rw [hp'] at h5
        rcases h5.2 with ⟨e1, e2⟩ | ⟨b', cap, cur, e1, _⟩
        · have e3 : ((S'.putW l (laid kept (S.watch l))).watch l).length = 0 := e2
          rw [hwm, hlen] at e3
          omega
        · injection e1 with h7 _ _
          exact ⟨b', h7⟩
      obtain ⟨k, o, hko⟩ : ∃ k o, (S.watch l).getD i (0, 0) = (k, o) := ⟨_, _, rfl⟩
      have hvk : k < S'.cls.length ∧ o < 2 * S'.n + 2 ∧ o ≠ 1 := by
        have h6 := HOrig.out (k, o) (by rw [← hko, getD_of _ _ _ hil]; exact List.getElem_mem _)
        rw [hR.cl, hR.n]
        exact h6
      have hwt := hR.mem.watAt hlw hp' (i := i) (by rw [hwm, hlen]; exact hlt)
      rw [hwm, laid_get (by omega), hko] at hwt
      obtain ⟨a1, a2, _, _⟩ := hwt
      have hma := hR.mem.alloc (.cells #[.int .i32 (k : Int), .int .i32 (o : Int)] 87)
      obtain ⟨_, _, b3, b4⟩ := hma.watAt hlw hp' (i := j) (by rw [hwm, hlen]; omega)
      obtain ⟨⟨z3, b5⟩, _⟩ := hma.cellE (i := l + 12) (by unfold used; omega) hp' rfl (j := j * 2) (by show _ < ((S'.putW l _).watch l).length * 2; rw [hwm, hlen]; omega)
      have hw2 := hma.setW2 hlw hp' (i := j) (by rw [hwm, hlen]; omega)
      rw [hwm] at hw2
      simp only [putW_put] at hw2
      have hls : ∀ e, (laid kept (S.watch l)).set j e = laid (kept ++ [e]) (S.watch l) := fun e => by rw [← hkl]; exact laid_set e (by omega)
      simp only [hls] at hw2
      have hWM : WF (S'.putW l (laid kept (S.watch l))) := (hR.wf.setW (c := l) (ws := laid kept (S.watch l)) (fun e he => by
        unfold laid at he
        rcases List.mem_append.1 he with he | he
        · exact hR.kp e he
        · have := HOrig.out e (List.mem_of_mem_drop he)
          rw [hR.cl, hR.n]
          exact this)).1
      have hcl := hR.wf.cll
      have hres := hR.res
      rw [drop_consW _ _ hil, hko] at hres
      have HRes : Aside (P = ES.sift l S' ((k, o) :: (S.watch l).drop (i + 1)) kept) := hres
      obtain ⟨M, hM⟩ : ∃ M, S'.putW l (laid kept (S.watch l)) = M := ⟨_, rfl⟩
      have eVal : ∀ c, M.val c = S'.val c := fun c => by rw [← hM]; rfl
      rw [hM] at hma hWM hlw hp' hwm
      have hMn : M.n = S.n := by rw [← hM]; exact hR.n
      obtain ⟨bv, cv, hp3, hc3, _⟩ := hma.vals hWM
      have g3 : (wr.alloc (.cells #[.int .i32 (k : Int), .int .i32 (o : Int)] 87)).cell? ⟨g, 3, none⟩ = some (.slice (some ⟨bv, 0, none⟩) (2 * S.n + 2) cv) := (hma.gcell 3).trans (congrArg some (by rw [← hMn]; exact hp3))
      have v0 := hc3 o (by rw [hMn, ← hR.n]; exact hvk.2.1)
      rw [eVal] at v0
      have qo : (o : Int) < 2 * (S.n : Int) + 2 := by have := hvk.2.1; rw [hR.n] at this; omega
      have hwb0 : (wr.alloc (.cells #[.int .i32 (k : Int), .int .i32 (o : Int)] 87)).cell? ⟨wr.heap.size, 0, none⟩ = some (.int .i32 (k : Int)) := blk_cell (heap_alloc_at _ _) 0
      have hwb1 : (wr.alloc (.cells #[.int .i32 (k : Int), .int .i32 (o : Int)] 87)).cell? ⟨wr.heap.size, 1, none⟩ = some (.int .i32 (o : Int)) := blk_cell (heap_alloc_at _ _) 1
      have HR : Aside (SiR w g O S l pl P wr i kept S' O' p') := hR
      have HVK : Aside (k < S'.cls.length ∧ o < 2 * S'.n + 2 ∧ o ≠ 1) := hvk
      obtain ⟨hw3, hw4, ⟨z4, b6⟩, b7⟩ := hw2 k o
      clear hres hR hp3 hc3 hls hvk hko hw2
      by_cases hvo : 0 < S'.val o
      · have HFin : Aside (Mem (((wr.alloc (.cells #[.int .i32 (k : Int), .int .i32 (o : Int)] 87)).setCell ⟨bl, j * 2, none⟩ (.int .i32 (k : Int))).setCell ⟨bl, j * 2 + 1, none⟩ (.int .i32 (o : Int))) g O' (S'.putW l (laid (kept ++ [(k, o)]) (S.watch l))) p' ∧ Fr O' wr (((wr.alloc (.cells #[.int .i32 (k : Int), .int .i32 (o : Int)] 87)).setCell ⟨bl, j * 2, none⟩ (.int .i32 (k : Int))).setCell ⟨bl, j * 2 + 1, none⟩ (.int .i32 (o : Int))) O') := ⟨hw3, ((Fr.refl O' wr).alloc _).trans hw4⟩
        have q1 : (i : Int) < (m : Int) := by omega
        have q2 : (j : Int) < (m : Int) := by omega
        clear hw3 hw4 hma hWM hM
        go_wp2
        go_region
        go_wp2
        go_roundg (gk - 1)
        case measure => omega
        case rel => exact ⟨i + 1, j + 1, by simp, by simp, by omega, by omega, ⟨kept ++ [(k, o)], S', O', p', by simp [hkl], HR.out.keep HVK.out HRes.out hvo HFin.out.1.drew HFin.out.2.drew⟩⟩
      · clear hw3 hw4 b3 b4 b5 b6 b7
        have q1 : (i : Int) < (m : Int) := by omega
        have hvo' : ¬ (0 : Int) < S'.val o := hvo
        have hkM : k < M.cls.length := by rw [← hM]; exact HVK.out.1
        have hMl : M.cls.length = S'.cls.length := by rw [← hM]; rfl
        have hMc : M.clause k = S'.clause k := by rw [← hM]; rfl
        obtain ⟨bc, cc, hp1, d0, d1, d2, d3, d4, hfz⟩ := hma.clauses hkM
        have g1 : (wr.alloc (.cells #[.int .i32 (k : Int), .int .i32 (o : Int)] 87)).cell? ⟨g, 1, none⟩ = some (.slice (some ⟨bc, 0, none⟩) M.cls.length cc) := (hma.gcell 1).trans (congrArg some hp1)
        have qk : (k : Int) < (M.cls.length : Int) := by omega
        clear d0 d1 d2
        have hc1 := turned_ok (c := S'.clause k) (l := l) (n := 2 * S.n + 2) (by have := (HR.out.wf.clause_ok HVK.out.1).2.2.2.2.1; rw [HR.out.n] at this; exact this) (by have := (HR.out.wf.clause_ok HVK.out.1).2.2.2.2.2.1; rw [HR.out.n] at this; exact this) hl (HR.out.wf.clause_ok HVK.out.1).2.2.2.2.2.2.1 (HR.out.wf.clause_ok HVK.out.1).2.2.2.2.2.2.2 (by omega)
        have hOb : Aside (¬ O' wr.heap.size) := fun h => absurd (HR.out.mem.osz _ h) (by omega)
        have HFA : Aside (Fr O w (wr.alloc (.cells #[.int .i32 (k : Int), .int .i32 (o : Int)] 87)).drew.drew O' ∧ Mem (wr.alloc (.cells #[.int .i32 (k : Int), .int .i32 (o : Int)] 87)).drew.drew g O' M p' ∧ wr.heap.size < (wr.alloc (.cells #[.int .i32 (k : Int), .int .i32 (o : Int)] 87)).drew.drew.heap.size ∧ (wr.alloc (.cells #[.int .i32 (k : Int), .int .i32 (o : Int)] 87)).drew.drew.cell? ⟨wr.heap.size, 0, none⟩ = some (.int .i32 (k : Int))) := ⟨(HR.out.fr.alloc _).drew.drew, hma.drew.drew, by simp, hwb0⟩
        go_wp2
        go_region
        go_wp2
        go_region
        obtain ⟨wb, hwb⟩ : ∃ wb, wr.heap.size = wb := ⟨_, rfl⟩
        rw [hwb] at hOb HFA ⊢
        clear hwb
        obtain ⟨W0, hW0⟩ : ∃ W0, (wr.alloc (.cells #[.int .i32 (k : Int), .int .i32 (o : Int)] 87)).drew.drew = W0 := ⟨_, rfl⟩
        rw [hW0] at HFA ⊢
        clear hW0 hma g1 g3 v0 hwb0 hwb1 d3 d4 hfz a1 a2
        have hFA := HFA.out.2.1
        obtain ⟨bc2, cc2, hp12, _, _, _, d3, d4, hfz⟩ := hFA.clauses hkM
        have ebc : bc2 = bc := by rw [hp1] at hp12; injection hp12 with h1 _ _; injection h1 with h1; injection h1 with h1 _ _; exact h1.symm
        subst ebc
        rw [hMc] at d3 d4
        have z3 := hfz (k * 5 + 3)
        have z4 := hfz (k * 5 + 4)
        obtain ⟨m1, r1, m2, r2⟩ := hFA.setAB hkM hp1 (S'.clause k).b l
        rw [hMc] at m2
        have HAB : Aside (Mem ((W0.setCell ⟨bc2, k * 5 + 3, none⟩ (.int .i32 ((S'.clause k).b : Int))).setCell ⟨bc2, k * 5 + 3 + 1, none⟩ (.int .i32 (l : Int))) g O' (M.setC k { S'.clause k with a := (S'.clause k).b, b := l }) p' ∧ Fr O' W0 ((W0.setCell ⟨bc2, k * 5 + 3, none⟩ (.int .i32 ((S'.clause k).b : Int))).setCell ⟨bc2, k * 5 + 3 + 1, none⟩ (.int .i32 (l : Int))) O') := ⟨m2, r2⟩
        have HNo : Aside (Mem W0 g O' (M.setC k (S'.clause k)) p') := by show Mem _ _ _ _ _; rw [← hMc, setC_id hkM]; exact hFA
        clear hFA hp12 hfz m1 r1 m2 r2
        obtain ⟨c0, hc0⟩ : ∃ c0, S'.clause k = c0 := ⟨_, rfl⟩
        rw [hc0] at hc1 d3 d4 HAB HNo hMc
        go_upto_if 50 with fail
        go_cut [] (fun wx => Mem wx g O' (M.setC k (ES.turned c0 l)) p' ∧ Fr O' W0 wx O')
        case first =>
          by_cases hal : c0.a = l
          · have e1 : ES.turned c0 l = { c0 with a := c0.b, b := l } := by unfold ES.turned; rw [if_pos hal]
            have e2 : ((c0.a : Int) == (l : Int)) = true := by rw [hal]; simp
            go_wp2
            go_region
            go_wp2
            go_meet
            rw [e1]
            exact ⟨HAB.out.1.drew, HAB.out.2.drew⟩
          · have e1 : ES.turned c0 l = c0 := by unfold ES.turned; rw [if_neg hal]
            have e2 : ((c0.a : Int) == (l : Int)) = false := beq_eq_false_iff_ne.2 (by omega)
            go_wp2
            go_meet
            rw [e1]
            exact ⟨HNo.out, Fr.refl _ _⟩
        case rest =>
          obtain ⟨hm1, hf1⟩ := hcut
          obtain ⟨c1, hc1'⟩ : ∃ c1, ES.turned c0 l = c1 := ⟨_, rfl⟩
          rw [hc1'] at hm1 hc1
          have hMcl := hWM.clause_ok hkM
          rw [hMc] at hMcl
          obtain ⟨wM1, sM1⟩ := hWM.setC (k := k) (c := c1) (by rw [hMc]; exact hc1.1) (by rw [hMc]; exact hc1.2.1) hkM (by rw [hc1.2.2.1]; exact hMcl.2.2.2.1) (by rw [hMn]; exact hc1.2.2.2.1) (by rw [hMn]; exact hc1.2.2.2.2.1) hc1.2.2.2.2.2.1 hc1.2.2.2.2.2.2
          have hkM1 : k < (M.setC k c1).cls.length := by rw [sM1.len]; exact hkM
          have hc1c : (M.setC k c1).clause k = c1 := clause_setC hkM
          have HM1e : Aside ((S'.setC k c1).putW l (laid kept (S.watch l)) = M.setC k c1) := by show _ = _; rw [← hM]; rfl
          have hnM1 : (M.setC k c1).n = S.n := hMn
          have hlM1 : (M.setC k c1).cls.length = S'.cls.length := by rw [sM1.len, hMl]
          have hwM1l : (M.setC k c1).wat.length = 2 * S.n + 2 := by rw [wM1.wtl]; exact congrArg (fun x => 2 * x + 2) hMn
          obtain ⟨M1, hM1⟩ : ∃ M1, M.setC k c1 = M1 := ⟨_, rfl⟩
          rw [hM1] at hm1 wM1 hkM1 hc1c HM1e hnM1 hlM1 hwM1l
          have eV1 : ∀ c, M1.val c = S'.val c := fun c => by rw [← hM1]; exact eVal c
          have hp1' : p' 1 = .slice (some ⟨bc2, 0, none⟩) M1.cls.length cc := by rw [hlM1, ← hMl]; exact hp1
          have hwbk : wc.cell? ⟨wb, 0, none⟩ = some (.int .i32 (k : Int)) := (World.cell?_of_block (hf1.kept wb HFA.out.2.2.1 hOb.out)).trans HFA.out.2.2.2
          obtain ⟨bc3, cc3, hp13, _, _, _, d3', _, _⟩ := hm1.clauses hkM1
          have ebc : bc3 = bc2 := by rw [hp1'] at hp13; injection hp13 with h1 _ _; injection h1 with h1; injection h1 with h1 _ _; exact h1.symm
          subst ebc
          rw [hc1c] at d3'
          have HIn : Aside (Calls Try.prog 48 #[.pointer (some ⟨g, 0, none⟩), .int .i32 (k : Int)] wc fun r w' => ∃ ad cp, r = .returned (.slice ad (M1.inside k).length cp) ∧ Rd w' ad (M1.inside k) ∧ Mem w' g O' M1 p' ∧ Fr O' wc w' O') := inside_mem hm1 wM1 hkM1
          have hilen := wM1.inside_len hkM1
          have hcok := wM1.clause_ok hkM1
          rw [hc1c] at hcok hilen
          have HF1 : Aside (Fr O' W0 wc O') := hf1
          clear hm1 hf1 d3 d4 z3 z4 HAB HNo hMcl hp13 sM1
          go_wp2_with fail
          refine HIn.out.mono ?_
          rintro e W2 ⟨ad, cp, rfl, hrd, hm2, hf2⟩
          obtain ⟨bc4, cc4, hp14, _, _, d2, _, _, _⟩ := hm2.clauses hkM1
          have ebc : bc4 = bc3 := by rw [hp1'] at hp14; injection hp14 with h1 _ _; injection h1 with h1; injection h1 with h1 _ _; exact h1.symm
          subst ebc
          rw [hc1c] at d2
          have hf2' : Fr O' W0 W2 O' := HF1.out.trans hf2
          have H2 : Aside (Mem W2 g O' M1 p' ∧ Fr O' W0 W2 O' ∧ Rd W2 ad (M1.inside k)) := ⟨hm2, hf2', hrd⟩
          clear hrd hm2 hf2 hf2' HIn hp14 HF1 d3' hwbk
          have HS1i : Aside ((S'.setC k c1).inside k = M1.inside k) := by
            show _ = _
            rw [← HM1e.out]
            rfl
          obtain ⟨L, hL⟩ : ∃ L, M1.inside k = L := ⟨_, rfl⟩
          rw [hL] at H2 hilen HS1i
          have HLin : Aside (∀ y ∈ L, 2 ≤ y ∧ y < 2 * S.n + 2) := fun y hy => by
            rw [← hL] at hy
            have := wM1.inside_mem hy
            rw [hnM1] at this
            exact this
          obtain ⟨n, hn⟩ : ∃ n, L.length = n := ⟨_, rfl⟩
          rw [hn] at hilen
          rw [hL, hn]
          have HLn : Aside (L.length = n) := hn
          have hn64 : n ≤ 65536 := by omega
          have HC1 : Aside (c1.s = c0.s ∧ c1.e = c0.e ∧ c1.f = c0.f ∧ c1.a < 2 * S.n + 2 ∧ c1.b < 2 * S.n + 2 ∧ c1.a ≠ 1 ∧ c1.b ≠ 1) := hc1
          obtain ⟨SK, hSK⟩ : ∃ SK, (S'.setC k c1).seek L c1.a n c1.f = SK := ⟨_, rfl⟩
          have HSK : Aside ((S'.setC k c1).seek ((S'.setC k c1).inside k) c1.a ((S'.setC k c1).inside k).length c1.f = SK) := by show _ = _; rw [HS1i.out, HLn.out]; exact hSK
          have hf64 : c1.f ≤ 65536 := hcok.2.2.2.1
          have HcA : Aside (ES.turned (S'.clause k) l = c1) := by show _ = _; rw [hc0]; exact hc1'
          obtain ⟨gko, rfl⟩ : ∃ x, x = gk := ⟨gk, rfl⟩
          clear hL hn hcok hc1' hc0 hMc hc1 hilen
          go_wp2
          go_loopg [13, 81] n (fun gk2 s13 s81 wr2 => ∃ (x d : Nat), s13 = .int .i64 (x : Int) ∧ s81 = .int .i64 (d : Int) ∧ d + gk2 = n ∧ x ≤ 65536 ∧ W2 = wr2 ∧ Aside ((S'.setC k c1).seek L c1.a gk2 x = SK))
          case atStart => exact ⟨c1.f, 0, rfl, rfl, by omega, hf64, rfl, hSK⟩
          case round =>
            obtain ⟨x, d, rfl, rfl, hdn, hx64, rfl, HSx⟩ := hrel
            by_cases hdl : d < n
            · have q3 : (d : Int) < (n : Int) := by omega
              obtain ⟨x', hx'⟩ : ∃ x', (if n ≤ x then 0 else x) = x' := ⟨_, rfl⟩
              have hx'n : x' < n := by
                rw [← hx']
                split <;> omega
              obtain ⟨gk1, rfl⟩ : ∃ y, gk = y + 1 := ⟨gk - 1, by omega⟩
              have HSt : Aside (SK = if L.getD x' 0 ≠ c1.a ∧ 0 ≤ S'.val (L.getD x' 0) then some (x', L.getD x' 0) else (S'.setC k c1).seek L c1.a gk1 (x' + 1)) := by
                show _ = _
                rw [← HSx.out, seek_step (j := x') (by rw [HLn.out]; exact hx')]
                rfl
              have hLx : L.getD x' 0 ∈ L := by rw [getD_of _ _ _ (by rw [HLn.out]; exact hx'n)]; exact List.getElem_mem _
              obtain ⟨bo, oo, rfl, hcel⟩ := H2.out.2.2 (by rw [HLn.out]; omega)
              have c0' := hcel x' (by rw [HLn.out]; exact hx'n)
              obtain ⟨y, hy⟩ : ∃ y, L.getD x' 0 = y := ⟨_, rfl⟩
              rw [hy] at hLx c0' HSt
              have hyN := HLin.out y hLx
              obtain ⟨bv2, cv2, hp32, hc32, _⟩ := H2.out.1.vals wM1
              have g3 : W2.cell? ⟨g, 3, none⟩ = some (.slice (some ⟨bv2, 0, none⟩) (2 * S.n + 2) cv2) := (H2.out.1.gcell 3).trans (congrArg some (by rw [← hnM1]; exact hp32))
              have v0 := hc32 y (by rw [hnM1]; exact hyN.2)
              rw [eV1] at v0
              have qy : (y : Int) < 2 * (S.n : Int) + 2 := by omega
              have qx : (x' : Int) < (n : Int) := by omega
              clear hp32 hc32 hcel HSx
              go_upto_if 86 with fail
              go_cut [13] (fun s13 wx => s13 = .int .i64 (x' : Int) ∧ W2 = wx)
              case first =>
                by_cases hnx : n ≤ x
                · have e1 : x' = 0 := by rw [← hx', if_pos hnx]
                  have e2 : (n : Int) ≤ (x : Int) := by omega
                  go_wp2
                  go_meet
                  exact ⟨by rw [e1]; rfl, rfl⟩
                · have e1 : x' = x := by rw [← hx', if_neg hnx]
                  have e2 : ¬ (n : Int) ≤ (x : Int) := by omega
                  go_wp2
                  go_meet
                  exact ⟨by rw [e1], rfl⟩
              case rest =>
                obtain ⟨rfl, rfl⟩ := hcut
                by_cases hfd : y ≠ c1.a ∧ 0 ≤ S'.val y
                · have HSf : Aside ((S'.setC k c1).seek ((S'.setC k c1).inside k) c1.a ((S'.setC k c1).inside k).length c1.f = some (x', y)) := by show _ = _; rw [HSK.out, HSt.out, if_pos hfd]
                  have e3 : ((y : Int) != (c1.a : Int)) = true := by simp; omega
                  have e4 : 0 ≤ S'.val y := hfd.2
                  have hwb0 : W2.cell? ⟨wb, 0, none⟩ = some (.int .i32 (k : Int)) := (World.cell?_of_block (H2.out.2.1.kept wb HFA.out.2.2.1 hOb.out)).trans HFA.out.2.2.2
                  obtain ⟨bc5, cc5, hp15, _, _, f2, _, f4, hfz⟩ := H2.out.1.clauses hkM1
                  have ebc : bc5 = bc4 := by rw [hp1'] at hp15; injection hp15 with h1 _ _; injection h1 with h1; injection h1 with h1 _ _; exact h1.symm
                  subst ebc
                  rw [hc1c] at f2 f4
                  obtain ⟨m1, r1⟩ := H2.out.1.setCl hkM1 hp1' 2 (by omega) (.int .i32 (x' : Int)) { c1 with f := x' } (by rw [hc1c]; rfl)
                  have hk2 : k < (M1.setC k { c1 with f := x' }).cls.length := by show k < (M1.cls.set _ _).length; rw [List.length_set]; exact hkM1
                  obtain ⟨m2, r2⟩ := m1.setCl hk2 (by rw [hp1']; show _ = Value.slice _ (M1.cls.set _ _).length _; rw [List.length_set]) 4 (by omega) (.int .i32 (y : Int)) { c1 with f := x', b := y } (by rw [clause_setC hkM1]; rfl)
                  rw [setC_setC] at m2
                  obtain ⟨bc6, cc6, hp16, _, _, _, _, f4', hfz'⟩ := m1.clauses hk2
                  have ebc : bc6 = bc5 := by rw [hp1'] at hp16; injection hp16 with h1 _ _; injection h1 with h1; injection h1 with h1 _ _; exact h1.symm
                  subst ebc
                  have z2 := hfz (k * 5 + 2)
                  have z4 := hfz (k * 5 + 4)
                  have z4' := hfz' (k * 5 + 4)
                  have HA2 : Aside (Mem ((W2.setCell ⟨bc6, k * 5 + 2, none⟩ (.int .i32 (x' : Int))).setCell ⟨bc6, k * 5 + 3 + 1, none⟩ (.int .i32 (y : Int))) g O' (M1.setC k { c1 with f := x', b := y }) p' ∧ Fr O' W2 ((W2.setCell ⟨bc6, k * 5 + 2, none⟩ (.int .i32 (x' : Int))).setCell ⟨bc6, k * 5 + 3 + 1, none⟩ (.int .i32 (y : Int))) O') := ⟨m2, r1.trans r2⟩
                  clear hp15 hp16 hfz hfz' m1 r1 m2 r2
                  go_wp2
                  go_region
                  obtain ⟨M2, hM2⟩ : ∃ M2, M1.setC k { c1 with f := x', b := y } = M2 := ⟨_, rfl⟩
                  rw [hM2] at HA2
                  have hM2n : M2.n = S.n := by rw [← hM2]; exact hnM1
                  have HM2e : Aside (((S'.setC k c1).setC k { c1 with f := x', b := y }).putW l (laid kept (S.watch l)) = M2) := by show _ = _; rw [← hM2, ← HM1e.out]; rfl
                  obtain ⟨W3, hW3⟩ : ∃ W3, ((W2.setCell ⟨bc6, k * 5 + 2, none⟩ (.int .i32 (x' : Int))).setCell ⟨bc6, k * 5 + 3 + 1, none⟩ (.int .i32 (y : Int))).drew = W3 := ⟨_, rfl⟩
                  have HA3 : Hid (Mem W3 g O' M2 p') := by show Mem _ _ _ _ _; rw [← hW3]; exact HA2.out.1.drew
                  have HF3 : Hid (Fr O' W0 W3 O') := by show Fr _ _ _ _; rw [← hW3]; exact (H2.out.2.1.trans HA2.out.2).drew
                  have hwb3 : W3.cell? ⟨wb, 0, none⟩ = some (.int .i32 (k : Int)) := (World.cell?_of_block (HF3.out.kept wb HFA.out.2.2.1 hOb.out)).trans HFA.out.2.2.2
                  have hwb3a : ∀ ob, (W3.alloc ob).cell? ⟨wb, 0, none⟩ = some (.int .i32 (k : Int)) := fun ob => (World.cell?_of_block (Below.heap_alloc _ _ wb (Nat.lt_of_lt_of_le HFA.out.2.2.1 HF3.out.size))).trans hwb3
                  rw [hW3]
                  have hyl : y ≠ l := fun e => by rw [e, HR.out.val] at e4; exact absurd e4 (by decide)
                  have y1 : y < 2 * M2.n + 2 := by rw [hM2n]; exact hyN.2
                  have qy2 : (y : Int) < 2 * (M2.n : Int) + 2 := by omega
                  have HWL7 : Hid (M2.wat.length = 2 * M2.n + 2) := by show _ = _; rw [hM2n, ← hM2]; exact hwM1l
                  have hWL7 : Hid (∀ z, (M2.watch z).length ≤ 8388609) := fun z => by
                    by_cases hz : z = l
                    · rw [← HM2e.out, hz, putW_self (by show l < S'.wat.length; rw [HR.out.wf.wtl, HR.out.n]; exact hl), hlen]
                      omega
                    · rw [← HM2e.out, putW_ne hz]
                      have h1 := HR.out.len z hz
                      have h2 := hW z
                      have h3 : (((S'.setC k c1).setC k { c1 with f := x', b := y }).watch z).length = (S'.watch z).length := rfl
                      omega
                  clear hW3 HA2 hwb0 f2 f4 f4' z2 z4 z4' c0' v0 g3 hM2
                  have hM2n' : Hid (M2.n = S.n) := hM2n
                  clear hM2n
                  go_upto_region 21 with fail
                  go_cut [] (fun wx => ∃ O3 P3, Mem wx g O3 (M2.addW y k c1.a) P3 ∧ Fr O' W3 wx O3 ∧ P3 (l + 12) = p' (l + 12))
                  case first =>
                    obtain ⟨b57, c57, ax7, cx7, hp57, hpx7, hxc7, kx7, hrx7, hz57⟩ := HA3.out.wats HWL7.out y1
                    have k57 : W3.cell? ⟨g, 5, none⟩ = some (.slice (some ⟨b57, 0, none⟩) (2 * M2.n + 2) c57) := (HA3.out.gcell 5).trans (congrArg some hp57)
                    have k5a7 : ∀ o, (W3.alloc o).cell? ⟨g, 5, none⟩ = some (.slice (some ⟨b57, 0, none⟩) (2 * M2.n + 2) c57) := fun o => ((HA3.out.alloc o).gcell 5).trans (congrArg some hp57)
                    have hb57 : b57 < W3.heap.size := HA3.out.osz _ (HA3.out.own 5 (by unfold used; omega) b57 (by rw [hp57]; rfl))
                    have kxa7 : ∀ o, (W3.alloc o).cell? ⟨b57, y, none⟩ = some (.slice ax7 ((M2).watch y).length cx7) := fun o => (World.cell?_of_block (Below.heap_alloc _ _ b57 hb57)).trans kx7
                    have hlx7 : ((M2).watch y).length ≤ 8388609 := hWL7.out y
                    have HRx7 : Hid (W3.ownsRow 0 87 2 (.slice ax7 ((M2).watch y).length cx7) ((M2).watch y).length (((M2).watch y).flatMap watF)) := hrx7
                    have HP57 : Hid (p' 5 = .slice (some ⟨b57, 0, none⟩) (2 * M2.n + 2) c57) := hp57
                    have HPx7 : Hid (p' (y + 12) = .slice ax7 ((M2).watch y).length cx7) := hpx7
                    have HXL7 : Hid (y < 2 * (M2).n + 2) := y1
                    have hwlt : Hid (wb < W3.heap.size ∧ ¬ O' wb) := ⟨Nat.lt_of_lt_of_le HFA.out.2.2.1 HF3.out.size, hOb.out⟩
                    have HW1 : Hid (W3.cell? ⟨wb, 0, none⟩ = some (.int .i32 (k : Int))) := hwb3
                    have HSA : Hid (∀ o, (W3.alloc o).cell? ⟨g, 5, none⟩ = some (.slice (some ⟨b57, 0, none⟩) (2 * M2.n + 2) c57) ∧ (W3.alloc o).cell? ⟨wb, 0, none⟩ = some (.int .i32 (k : Int))) := fun o => ⟨k5a7 o, hwb3a o⟩
                    clear hp57 hpx7 hxc7 hrx7 hz57 hb57
                    obtain ⟨wx7, hwx7⟩ : ∃ l, ((M2).watch y).length = l := ⟨_, rfl⟩
                    have HWX7 : Hid (((M2).watch y).length = wx7) := hwx7
                    rw [hwx7] at HRx7 kx7 kxa7 hlx7
                    clear hwx7
                    clear HPP HP0 HOrig HLm hml hji HA hkl hlt hil hlen HPL hcl HRes hwm hp' hlw hWM eVal hMn qo HVK q1 hkM hMl qk HFA hwM1l hlM1 hnM1 HM1e HM2e hc1c hkM1 wM1 eV1 HS1i HLin HC1 hSK HSK hf64 hn64 HcA q3 hdn hx64 hx' hx'n hdl HSt HSf hLx hyN hfd e3 e4 qx qy H2 hp1 hp1' hi hvo hvo' hW hnn hwl hl hl1 HF3 hM1 hM hOb HLn hM2n' hy HR
                    obtain ⟨i07, hi7, hz07, hz17, hz27⟩ := info_parts (P := Try.prog) (e := 87) (z := .agg #[.int .i32 0, .int .i32 0]) (size := 2) (bytes := 8) (by kernel_rfl)
                    have HAPP : Hid (∀ {ops : Array Oper} {o : Oper} {a : Act} {K : Act → World → Prop} {Q : Exit → Act → World → Prop} {E : Prop} (s x : Operand), o.guard = none → o.op = Op.call { callee := Callee.builtin Builtin.append, args := #[s, x], argTypes := #[85, 85] } → a.eval s = .slice ax7 wx7 cx7 → a.eval x = .slice (some ⟨W3.heap.size, 0, none⟩) 1 1 → (∀ g4 cap4 w4, Hid (w4.cell? ⟨g, 5, none⟩ = some (.slice (some ⟨b57, 0, none⟩) (2 * M2.n + 2) c57)) → w4.cell? ⟨wb, 0, none⟩ = some (.int .i32 (k : Int)) → Hid (w4.frozen? ⟨b57, y, none⟩ = false ∧ ∃ z, w4.cell? ⟨b57, y, none⟩ = some z) → Hid (∃ O5, Mem (w4.setCell ⟨b57, y, none⟩ (.slice (some ⟨g4, 0, none⟩) (wx7 + 1) cap4)) g O5 ((M2).addW y k c1.a) (upd p' (y + 12) (.slice (some ⟨g4, 0, none⟩) (wx7 + 1) cap4)) ∧ Fr O' W3 (w4.setCell ⟨b57, y, none⟩ (.slice (some ⟨g4, 0, none⟩) (wx7 + 1) cap4)) O5) → K (a.put o.dst (.slice (some ⟨g4, 0, none⟩) (wx7 + 1) cap4)) w4) → if Region.wanted o (yielded ops a.tmps) = true then Oper.wp Try.prog o a (W3.alloc (.cells #[.int .i32 (k : Int), .int .i32 (c1.a : Int)] 87)).drew K Q else E) := by
                      intro ops o a K Q E s x h1 h2 h3 h4 hK
                      refine step_append_lies _ h1 s x _ h2 0 87 i07 _ 2 8 Try.underlying85 hi7 hz07 hz17 hz27 rfl (by omega) (.slice ax7 wx7 cx7) wx7 (((M2).watch y).flatMap watF) h3 ((HRx7.out.alloc _).drew) ⟨W3.heap.size, 0, none⟩ 1 1 [.int .i32 (k : Int), .int .i32 (c1.a : Int)] h4 (by rfl) (World.news_of_block (cs := #[.int .i32 (k : Int), .int .i32 (c1.a : Int)]) (t := 87) (fr := (0, 0)) (heap_alloc_new W3 _)) (by intro u hu; simp at hu; rcases hu with rfl | rfl <;> rfl) (by omega) (by unfold maxLen; omega) (by omega) (by omega) (W3.heap.size + 1) (by simp) ?_
                      intro g4 cap4 w4 hown4 hgrow4 hat4 hlt4
                      obtain ⟨ha1, ha2, ha3, ha4⟩ := Mem.addW (x := y) (k := k) (o := c1.a) ((HA3.out.alloc _).drew) HWL7.out HXL7.out HP57.out HPx7.out (by rw [HWX7.out]; exact hown4) (by rw [HWX7.out]; exact hgrow4) (by rw [HWX7.out]; rcases hat4 with e | e; exact Or.inl e; exact Or.inr (by rw [e]; simp)) hlt4
                      rw [HWX7.out] at ha1
                      refine hK g4 cap4 w4 ((blk_cell ha2 5).trans (congrArg some HP57.out)) ?_ ⟨ha4, ha3⟩ ?_
                      · exact (World.cell?_of_block (hgrow4.block wb (Nat.lt_of_lt_of_le hwlt.out.1 (by simp)) (fun e => hwlt.out.2 ((HA3.out.alloc (.cells #[.int .i32 (k : Int), .int .i32 (c1.a : Int)] 87)).own (y + 12) (by unfold used; have := HWL7.out; have := HXL7.out; omega) wb (by rw [HPx7.out, HWX7.out]; exact e.symm))))).trans ((HSA.out _).2)
                      · obtain ⟨O5, hm, hr⟩ := ha1
                        exact ⟨O5, hm, ⟨hr.os, hr.tape, hr.output, Nat.le_trans (by simp) hr.size, fun k hk hO => (hr.kept k (by simp; omega) hO).trans (Below.heap_alloc _ _ k hk), fun k hk => (hr.new k hk).imp id (fun h => Nat.le_trans (by simp) h)⟩⟩
                    clear HRx7 hi7 hz07 hz17 hz27 HA3 HWL7 hWL7 HP57 HPx7 HXL7 hwlt HW1 HSA HWX7 hlx7
                    go_region_law (first
                      | (refine HAPP.out _ _ (by rfl) (by rfl) (by rfl) (by rfl) ?_; intro g4 cap4 w4 hk54 hwb4 hfz4 HK7; obtain ⟨hfz5, zz, hz5⟩ := hfz4.out; have hk54' := hk54.out; clear hfz4 hk54))
                    all_goals
                      go_wp2_with fail
                      go_meet
                      obtain ⟨O3, m3, r3⟩ := HK7.out
                      exact ⟨O3, _, m3, r3, by unfold upd; rw [if_neg (by omega)]⟩
                  case rest =>
                    obtain ⟨O3, P3, m3, r3, e5⟩ := hcut
                    go_wp2
                    go_roundg (gko - 1)
                    case measure => omega
                    case rel => exact ⟨i + 1, j, by simp, by simp, by omega, by omega, ⟨kept, _, O3, P3, hkl, HR.out.found hl1 hl HVK.out.1 (by omega) HcA.out HSf.out HRes.out (by rw [← addW_putW hyl, HM2e.out]; exact m3) (HFA.out.1.trans (HF3.out.trans r3)) (e5.trans HR.out.hpl)⟩⟩
                · have HSn : Aside ((S'.setC k c1).seek L c1.a gk1 (x' + 1) = SK) := by show _ = _; rw [HSt.out, if_neg hfd]
                  by_cases hya : y = c1.a
                  · have e3 : ((y : Int) != (c1.a : Int)) = false := by simp; omega
                    go_wp2
                    go_roundg gk1
                    case measure => omega
                    case rel => exact ⟨x' + 1, d + 1, by simp, by simp, by omega, by omega, rfl, HSn⟩
                  · have e3 : ((y : Int) != (c1.a : Int)) = true := by simp; omega
                    have e4 : ¬ 0 ≤ S'.val y := fun h => hfd ⟨hya, h⟩
                    go_wp2
                    go_roundg gk1
                    case measure => omega
                    case rel => exact ⟨x' + 1, d + 1, by simp, by simp, by omega, by omega, rfl, HSn⟩
            · have q3 : ¬ (d : Int) < (n : Int) := by omega
              obtain rfl : gk = 0 := by omega
              have HSn : Aside ((S'.setC k c1).seek ((S'.setC k c1).inside k) c1.a ((S'.setC k c1).inside k).length c1.f = none) := by show _ = _; rw [HSK.out, ← HSx.out]; rfl
              have hwb0 : W2.cell? ⟨wb, 0, none⟩ = some (.int .i32 (k : Int)) := (World.cell?_of_block (H2.out.2.1.kept wb HFA.out.2.2.1 hOb.out)).trans HFA.out.2.2.2
              have q1' : (i : Int) < (m : Int) := by omega
              have q2' : (j : Int) < (m : Int) := by omega
              have hlw1 : l < M1.wat.length := by rw [hwM1l]; exact hl
              have hwm1 : M1.watch l = laid kept (S.watch l) := by rw [← HM1e.out]; exact putW_self (by show l < S'.wat.length; rw [HR.out.wf.wtl, HR.out.n]; exact hl)
              have hp1l : p' (l + 12) = .slice (some ⟨bl, 0, none⟩) (M1.watch l).length cx := by rw [HR.out.hpl, HPL.out, hwm1, hlen]
              obtain ⟨_, _, b3, b4⟩ := H2.out.1.watAt hlw1 hp1l (i := j) (by rw [hwm1, hlen]; omega)
              obtain ⟨⟨z3, b5⟩, _⟩ := H2.out.1.cellE (i := l + 12) (by unfold used; omega) hp1l rfl (j := j * 2) (by show _ < (M1.watch l).length * 2; rw [hwm1, hlen]; omega)
              obtain ⟨hw3, hw4, ⟨z4, b6⟩, b7⟩ := H2.out.1.setW2 hlw1 hp1l (i := j) (by rw [hwm1, hlen]; omega) k c1.a
              have hls : (laid kept (S.watch l)).set j (k, c1.a) = laid (kept ++ [(k, c1.a)]) (S.watch l) := by rw [← hkl]; exact laid_set _ (by omega)
              rw [hwm1, hls] at hw3
              have HW3 : Aside (Mem ((W2.setCell ⟨bl, j * 2, none⟩ (.int .i32 (k : Int))).setCell ⟨bl, j * 2 + 1, none⟩ (.int .i32 (c1.a : Int))) g O' (M1.putW l (laid (kept ++ [(k, c1.a)]) (S.watch l))) p' ∧ Fr O' W2 ((W2.setCell ⟨bl, j * 2, none⟩ (.int .i32 (k : Int))).setCell ⟨bl, j * 2 + 1, none⟩ (.int .i32 (c1.a : Int))) O') := ⟨hw3, hw4⟩
              have hwb1 : ((W2.setCell ⟨bl, j * 2, none⟩ (.int .i32 (k : Int))).setCell ⟨bl, j * 2 + 1, none⟩ (.int .i32 (c1.a : Int))).cell? ⟨wb, 0, none⟩ = some (.int .i32 (k : Int)) := (World.cell?_of_block (hw4.kept wb (Nat.lt_of_lt_of_le HFA.out.2.2.1 H2.out.2.1.size) hOb.out)).trans hwb0
              have eM3 : M1.putW l (laid (kept ++ [(k, c1.a)]) (S.watch l)) = (S'.setC k c1).putW l (laid (kept ++ [(k, c1.a)]) (S.watch l)) := by rw [← HM1e.out, putW_put]
              have wM3 : WF (M1.putW l (laid (kept ++ [(k, c1.a)]) (S.watch l))) := (wM1.setW (c := l) (ws := laid (kept ++ [(k, c1.a)]) (S.watch l)) (fun e he => by
                rw [hlM1, hnM1]
                unfold laid at he
                rcases List.mem_append.1 he with he | he
                · rcases List.mem_append.1 he with he | he
                  · have := HR.out.kp e he
                    rw [HR.out.n] at this
                    exact this
                  · have e1 : e = (k, c1.a) := by simpa using he
                    rw [e1]
                    exact ⟨HVK.out.1, HC1.out.2.2.2.1, HC1.out.2.2.2.2.2.1⟩
                · have := HOrig.out e (List.mem_of_mem_drop he)
                  rw [HR.out.cl]
                  exact this)).1
              have hSe := settle_mem (k := k) (l := c1.a) hw3 wM3 HC1.out.2.2.2.2.2.1 (by show c1.a < 2 * M1.n + 2; rw [hnM1]; exact HC1.out.2.2.2.1)
              rw [eM3, settle_putW] at hSe
              have HSe : Aside (Calls Try.prog 40 #[.pointer (some ⟨g, 0, none⟩), .int .i32 (k : Int), .int .i32 (c1.a : Int)] ((W2.setCell ⟨bl, j * 2, none⟩ (.int .i32 (k : Int))).setCell ⟨bl, j * 2 + 1, none⟩ (.int .i32 (c1.a : Int))) fun e w' => e = .returned (.tuple #[]) ∧ DoneW ((W2.setCell ⟨bl, j * 2, none⟩ (.int .i32 (k : Int))).setCell ⟨bl, j * 2 + 1, none⟩ (.int .i32 (c1.a : Int))) g O' p' (((S'.setC k c1).settle k c1.a).putW l (laid (kept ++ [(k, c1.a)]) (S.watch l))) w') := hSe
              have HKK : Aside (∀ kk, ((S'.setC k c1).settle k c1.a).clash = some kk → kk < S'.cls.length) := fun kk hkk => by
                have h1 := wM3.settle (k := k) (l := c1.a) (by show k < M1.cls.length; exact hkM1) (by show c1.a < 2 * M1.n + 2; rw [hnM1]; exact HC1.out.2.2.2.1) HC1.out.2.2.2.2.2.1
                have h2 := h1.1.clash kk (by rw [eM3, settle_putW]; exact hkk)
                rw [h1.2.len] at h2
                have h3 : kk < M1.cls.length := h2
                rw [hlM1] at h3
                exact h3
              have HLW : Aside (l < ((S'.setC k c1).settle k c1.a).wat.length) := by
                have h1 := wM3.settle (k := k) (l := c1.a) (by show k < M1.cls.length; exact hkM1) (by show c1.a < 2 * M1.n + 2; rw [hnM1]; exact HC1.out.2.2.2.1) HC1.out.2.2.2.2.2.1
                have h2 := h1.1.wtl
                rw [h1.2.n, eM3, settle_putW, putW_len] at h2
                show l < _
                rw [h2]
                show l < 2 * S'.n + 2
                rw [HR.out.n]
                exact hl
              clear hw3 hw4 hls eM3 wM3 hSe
              go_wp2_with fail
              refine HSe.out.mono ?_
              rintro e w5 ⟨rfl, O5, p5, m5, r5, e5⟩
              have HM5 : Aside (Mem w5 g O5 (((S'.setC k c1).settle k c1.a).putW l (laid (kept ++ [(k, c1.a)]) (S.watch l))) p5) := m5
              have HF5 : Aside (Fr O w w5 O5) := HFA.out.1.trans (H2.out.2.1.trans (HW3.out.2.trans r5))
              have HP5 : Aside (p5 (l + 12) = pl) := (e5 (l + 12) (by omega)).trans HR.out.hpl
              have k11 : w5.cell? ⟨g, 11, none⟩ = some (.int .i32 (clI ((S'.setC k c1).settle k c1.a).clash)) := m5.gcell 11
              clear m5 r5 e5 HSe HW3 hwb1 hwb0 b3 b4 b5 b6 b7
              cases hcc : ((S'.setC k c1).settle k c1.a).clash with
              | none =>
                rw [hcc] at k11
                have k11' : w5.cell? ⟨g, 11, none⟩ = some (.int .i32 (-1)) := k11
                clear k11
                have HXR : Aside (SiR w g O S l pl P w5 (i + 1) (kept ++ [(k, c1.a)]) ((S'.setC k c1).settle k c1.a) O5 p5) := HR.out.settled hl1 hl HVK.out.1 (by omega) HcA.out HSn.out HRes.out hcc HM5.out HF5.out HP5.out
                go_wp2
                go_roundg (gko - 1)
                case measure => omega
                case rel => exact ⟨i + 1, j + 1, by simp, by simp, by omega, by omega, ⟨kept ++ [(k, c1.a)], _, O5, p5, by simp [hkl], HXR.out⟩⟩
              | some kk =>
                rw [hcc] at k11
                have k11' : w5.cell? ⟨g, 11, none⟩ = some (.int .i32 (kk : Int)) := k11
                clear k11
                have hkk : kk < S'.cls.length := HKK.out kk hcc
                have hkb := HR.out.wf.cll
                have ekk : ((kk : Int) != -1) = true := by simp <;> omega
                have hP : P = ((S'.setC k c1).settle k c1.a, kept ++ [(k, c1.a)] ++ (S.watch l).drop (i + 1)) := by rw [HRes.out, sift_clash (by omega) HcA.out rfl HSn.out (by rw [hcc]; rfl)]
                have hlw5 : l < ((S'.setC k c1).settle k c1.a).wat.length := HLW.out
                have hp5 : p5 (l + 12) = .slice (some ⟨bl, 0, none⟩) m cx := by rw [HP5.out, HPL.out]
                have hk1 : (kept ++ [(k, c1.a)]).length = j + 1 := by rw [List.length_append, hkl]; rfl
                obtain ⟨cur, hcur, hfit, hsrc, hafter⟩ := HM5.out.copied hlw5 hp5 HLm.out (i1 := i + 1) (by rw [hk1]; omega) (by omega)
                rw [hk1] at hfit hafter
                have hcsl : (((S.watch l).drop (i + 1)).flatMap watF).length = (m - (i + 1)) * 2 := by rw [fm_len watF 2 (fun _ => rfl), List.length_drop, HLm.out]
                have hP2l : P.2.length = j + 1 + (m - (i + 1)) := by rw [hP]; show (kept ++ [(k, c1.a)] ++ (S.watch l).drop (i + 1)).length = _; rw [List.length_append, hk1, List.length_drop, HLm.out]
                have HFINAL : Hid (∀ w6 (v : Int), v = ((j + 1 + (m - (i + 1)) : Nat) : Int) → w6.heap[bl]? = some (.cells (splice cur ((j + 1) * 2) (((S.watch l).drop (i + 1)).flatMap watF)).toArray 87 (0, 0)) → w5.drew.grownBy w6 (some bl) → PP (.returned (.int .i64 v)) w6) := fun w6 v hv h1 h2 => by
                  obtain ⟨m6, r6⟩ := hafter w6 h1 ⟨h2.os, h2.tape, h2.output, h2.size, h2.block⟩
                  refine HPP.out _ _ ⟨(S.watch l).drop (j + 1 + (m - (i + 1))), O5, p5, by rw [hP2l, hv], ?_, ?_, HF5.out.trans r6, HP5.out⟩
                  · rw [List.length_append, hP2l, List.length_drop, HLm.out]
                    omega
                  · rw [hP]
                    exact m6
                have HCUR : Hid (w5.heap[bl]? = some (.cells cur.toArray 87 (0, 0))) := hcur
                have HFIT : Hid ((j + 1) * 2 + (((S.watch l).drop (i + 1)).flatMap watF).length ≤ cur.length) := hfit
                have HSRC : Hid (∀ jj v, (((S.watch l).drop (i + 1)).flatMap watF)[jj]? = some v → w5.cell? ⟨bl, (i + 1) * 2 + jj, none⟩ = some v) := hsrc
                have HCSL : Hid ((((S.watch l).drop (i + 1)).flatMap watF).length = (m - (i + 1)) * 2) := hcsl
                have HONE : Hid (∀ v ∈ ((S.watch l).drop (i + 1)).flatMap watF, v.oneCell' = true) := fun v hv => by
                  obtain ⟨e, _, he⟩ := List.mem_flatMap.1 hv
                  simp [watF] at he
                  rcases he with rfl | rfl <;> rfl
                have hgk1 : (i + 1 : Nat) ≤ m := by omega
                clear HPP HP0 HOrig HLm HA hkl hlen HRes hwm hp' hlw hWM eVal hMn HR HVK hkM hMl HFA hwM1l hlM1 hnM1 HM1e hc1c hkM1 wM1 eV1 HS1i HLin HC1 hSK HSK hcur hfit hsrc hcsl hafter hP hP2l hk1 hp5 hlw5 HM5 HF5 HP5 hwm1 hp1l hlw1 HKK HLW HSn HSx HLn H2
                generalize ((S.watch l).drop (i + 1)).flatMap watF = cs at *
                have HCPY : Hid (∀ {ops : Array Oper} {o : Oper} {a : Act} {K : Act → World → Prop} {Q : Exit → Act → World → Prop} {E : Prop} (d s : Operand) (dp sp : Option Addr) (dl sl : Nat), o.guard = none → o.op = .call { callee := .builtin .copy, args := #[d, s], argTypes := #[85, 85] } → a.eval d = .slice dp dl dl → a.eval s = .slice sp sl sl → sl = m - (i + 1) → dl = m - (j + 1) → (0 < sl → dp = some ⟨bl, (j + 1) * 2, none⟩ ∧ sp = some ⟨bl, (i + 1) * 2, none⟩) → (∀ w6, Hid (w6.heap[bl]? = some (.cells (splice cur ((j + 1) * 2) cs).toArray 87 (0, 0)) ∧ w5.drew.grownBy w6 (some bl)) → K (a.put o.dst (goInt sl)) w6) → if Region.wanted o (yielded ops a.tmps) = true then Oper.wp Try.prog o a w5.drew K Q else E) := by
                  intro ops o a K Q E d s dp sp dl sl h1 h2 h3 h4 hsl hdl h5 hK
                  refine step_copy_sz h1 d s _ _ h2 87 2 Try.underlying85 (by kernel_rfl) dp sp dl dl sl sl h3 h4 bl ((j + 1) * 2) cur 87 HCUR.out sl ?_ cs (by rw [HCSL.out, hsl]) (fun hn0 => ?_) HFIT.out HONE.out hK
                  · show min sl dl = sl
                    omega
                  · obtain ⟨e1, e2⟩ := h5 hn0
                    exact ⟨e1, _, e2, fun jj v hv => by rw [Addr.add_lit]; exact HSRC.out jj v hv⟩
                clear HCUR HFIT HSRC HCSL HONE
                have hj0 : (0 : Int) ≤ (j : Int) + 1 := by omega
                have hi0 : (0 : Int) ≤ (i : Int) + 1 := by omega
                have hwr : IntKind.i64.wrap ((i : Int) + 1) = (i : Int) + 1 := by rw [IntKind.wrap_i64]; omega
                have hwr2 : IntKind.i64.wrap ((j : Int) + 1 + ((m - (i + 1) : Nat) : Int)) = ((j + 1 + (m - (i + 1)) : Nat) : Int) := by rw [IntKind.wrap_i64]; omega
                have hwr3 : IntKind.i64.wrap ((j : Int) + 1) = (j : Int) + 1 := by rw [IntKind.wrap_i64]; omega
                have qa : ((j : Int) + 1) ≤ (m : Int) := by omega
                have qb : ((i : Int) + 1) ≤ (m : Int) := by omega
                by_cases hend : i + 1 = m
                · have he : (m = i + 1) = True := eq_true hend.symm
                  have hz : ¬ 0 < m - (i + 1) := by omega
                  by_cases hend2 : j = i
                  · have he1 : (m = j + 1) = True := eq_true (by omega)
                    clear hend hend2
                    go_wp2
                    go_region_law (first
                      | (refine HCPY.out _ _ (some ⟨bl, 0, none⟩) (some ⟨bl, 0, none⟩) (m - (j + 1)) (m - (i + 1)) (by rfl) (by rfl) (by go_simp) (by go_simp) rfl rfl (fun hn0 => absurd hn0 hz) ?_; intro w6 hw6))
                    all_goals
                      go_wp2
                      rw [Exit.noGoto_ret]
                      go_ret
                      exact HFINAL.out _ _ (by omega) hw6.out.1 hw6.out.2
                  · have hne1 : ¬ m = j + 1 := by omega
                    clear hend hend2
                    go_wp2
                    go_region_law (first
                      | (refine HCPY.out _ _ (some ⟨bl, (j + 1) * 2, none⟩) (some ⟨bl, 0, none⟩) (m - (j + 1)) (m - (i + 1)) (by rfl) (by rfl) (by go_simp) (by go_simp) rfl rfl (fun hn0 => absurd hn0 hz) ?_; intro w6 hw6))
                    all_goals
                      go_wp2
                      rw [Exit.noGoto_ret]
                      go_ret
                      exact HFINAL.out _ _ (by omega) hw6.out.1 hw6.out.2
                · have hne1 : ¬ m = j + 1 := by omega
                  have hne2 : ¬ m = i + 1 := by omega
                  go_wp2
                  go_region_law (first
                    | (refine HCPY.out _ _ (some ⟨bl, (j + 1) * 2, none⟩) (some ⟨bl, (i + 1) * 2, none⟩) (m - (j + 1)) (m - (i + 1)) (by rfl) (by rfl) (by go_simp) (by go_simp) rfl rfl (fun _ => ⟨rfl, rfl⟩) ?_; intro w6 hw6))
                  all_goals
                    go_wp2
                    rw [Exit.noGoto_ret]
                    go_ret
                    exact HFINAL.out _ _ (by omega) hw6.out.1 hw6.out.2
    · have hres := hR.res
      have hP : P = (S', kept) := by
        rw [hres, List.drop_eq_nil_of_le (by rw [HLm.out]; omega)]
        rfl
      have HD : Hid (∃ junk O2 p2, Ending.returned (.int .i64 (j : Int)) = .returned (.int .i64 (P.2.length : Int)) ∧ (P.2 ++ junk).length = m ∧ Mem wr g O2 (P.1.putW l (P.2 ++ junk)) p2 ∧ Fr O w wr O2 ∧ p2 (l + 12) = pl) := by
        refine ⟨(S.watch l).drop kept.length, O', p', by rw [hP, ← hkl], ?_, ?_, hR.fr, hR.hpl⟩
        · rw [hP]
          show (kept ++ (S.watch l).drop kept.length).length = m
          have e := laid_len (kept := kept) (orig := S.watch l) (by rw [HLm.out]; omega)
          unfold laid at e
          rw [e, HLm.out]
        · rw [hP]
          exact hR.mem
      have q3 : ¬ (i : Int) < (m : Int) := by omega
      clear hR hres hP HA HP0
      go_wp2
      exact HPP.out _ _ HD.out
end Go.Proofs.Ytfpmacnbfbcjgaa
