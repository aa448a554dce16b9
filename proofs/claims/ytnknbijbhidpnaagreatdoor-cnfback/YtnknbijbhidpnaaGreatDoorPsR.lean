import Derived.Test.YtnknbijbhidpnaaGreatDoorPsQ
import Derived.Test.YtnknbijbhidpnaaGreatDoorNil
import Derived.Test.YtnknbijbhidpnaaGreatDoorOwn
import Derived.Laws.ResultCell
import Derived.WalkMore
import Derived.ScopeJumps
namespace Go.Proofs.YtnknbijbhidpnaaGreatDoor
open Go.ChangeShapes Go.WideShapes Go.ChangeAt Go.RowKit Go.Lib Go.Cn

def cnt1 (k : Nat) (ls : List (List UInt8)) : Except Int RS → RS × Nat × Int
  | .error e => (RS0, k + 1, e)
  | .ok r' => rows r' (k + 1 + 1) ls
theorem rows_cnt (l : List UInt8) (k : Nat) (r : RS) (h : l ≠ []) : rows r (k + 1) (lgo [] l) = cnt1 k (lgo [] (Lib.cut l [10]).2.1) (row1 r (wordsOf (Lib.cut l [10]).1)) := by
  rw [rows_cut l (k + 1) r h]
  cases row1 r (wordsOf (Lib.cut l [10]).1) <;> rfl
theorem row1_c {r : RS} {l : List UInt8} (h : fW l = [99]) : row1 r (wordsOf l) = .ok r := by
  rw [words_step, if_neg (by rw [h]; simp), row1, if_pos h]
theorem row1_e {r : RS} {l : List UInt8} (h : fW l = []) : row1 r (wordsOf l) = .ok r := by
  rw [words_step, if_pos h]
  rfl
theorem row1_f {r : RS} {l : List UInt8} (h : r.hd = false) (hc : fW l ≠ [99]) (he : fW l ≠ []) : row1 r (wordsOf l) = hd4 r (wordsOf l) := by
  rw [words_step, if_neg he, row1, if_neg hc, if_pos h]
theorem row1_t {r : RS} {l : List UInt8} (h : r.hd = true) (hc : fW l ≠ [99]) : row1 r (wordsOf l) = tks r (wordsOf l) := by
  rw [words_step]
  split
  · rfl
  · rw [row1, if_neg hc, if_neg (by rw [h]; simp)]
def tksN (x : Except Int RS) (ws : List (List UInt8)) : Except Int RS := match x with
  | .error e => .error e
  | .ok r' => tks r' ws
theorem tks_cons (r : RS) (w : List UInt8) (ws : List (List UInt8)) : tks r (w :: ws) = tksN (tk r w) ws := by
  rw [tks]
  cases tk r w <;> rfl
theorem hd4_err {r : RS} {ws : List (List UInt8)} {x : Int} (h : hd4 r ws = .error x) : (x != 0) = true := by
  unfold hd4 at h
  split at h
  · split at h
    · split at h
      · split at h
        · cases h; rfl
        · split at h
          · cases h; rfl
          · cases h
      · cases h; rfl
    · cases h; rfl
  · cases h; rfl
theorem tk_err {r : RS} {w : List UInt8} {x : Int} (h : tk r w = .error x) : (x != 0) = true := by
  unfold tk tkN at h
  split at h
  · cases h; rfl
  · split at h
    · cases h; rfl
    · split at h
      · cases h
      · split at h
        · cases h; rfl
        · split at h
          · cases h; rfl
          · split at h
            · cases h; rfl
            · cases h
theorem set2_below {w wr : World} (h : Below w.heap.size w wr) (u0 u1 : Value) : Below w.heap.size w ((wr.setCell ⟨w.heap.size, 0, none⟩ u0).setCell ⟨w.heap.size, 1, none⟩ u1) := by
  have hz := h.size
  have hh : ∀ j, j ≠ w.heap.size → ((wr.setCell ⟨w.heap.size, 0, none⟩ u0).setCell ⟨w.heap.size, 1, none⟩ u1).heap[j]? = wr.heap[j]? := fun j hj => (heap_setCell_other _ _ _ _ hj).trans (heap_setCell_other _ _ _ _ hj)
  exact ⟨h.os, h.tape, h.output, by simp; exact hz, fun j hj => (hh j (by omega)).trans (h.block j hj)⟩
theorem clone_any (v : Value) (xs : List Int) (B : Nat) (w : World) (h : w.ownsRow B 3 1 v xs.length (xs.map (Value.int .i64))) (hl : xs.length ≤ 65536) :
    Calls Tryz.prog 40 #[v] w fun e w' => ∃ v', e = .returned v' ∧ w'.ownsRow w.heap.size 3 1 v' xs.length (xs.map (Value.int .i64)) ∧ Below w.heap.size w w' := by
  obtain ⟨i0, hi, hz0, hz1, hz2⟩ := info_parts Tryz.info3
  obtain ⟨ad, c, rfl, hI⟩ := own_ints h
  rcases h.2 with ⟨e, h0⟩ | ⟨b, cap, cur, e, _⟩
  · have hx : xs = [] := List.eq_nil_of_length_eq_zero h0
    subst hx
    cases e
    exact (AnyE.slices_Clone_nil Tryz.cloneL 0 0 w).mono fun e w' hh => ⟨_, hh.1, World.ownsRow_nil _ _ _ _, by rw [hh.2]; exact Below.refl _ _⟩
  · cases e
    have HC : Calls Tryz.prog 40 #[.slice (some ⟨b, 0, none⟩) xs.length c] w fun e w' => ∃ v', e = .returned v' ∧ w'.ownsRow w.heap.size 3 1 v' xs.length (xs.map (Value.int .i64)) ∧ v' ≠ .slice none 0 0 ∧ Below w.heap.size w w' := by
      refine AnyE.slices_Clone Tryz.cloneL i0 (.int .i64 0) 1 8 hi hz0 hz1 hz2 rfl (by decide) Tryz.sizeOf3 b 0 xs.length c (xs.map (Value.int .i64)) w (by simp) (by unfold maxLen; omega) (by omega) ?_ (ints_oneCell .i64 xs)
      intro j u hj
      have hj' : j < xs.length := by
        have := (List.getElem?_eq_some_iff.1 hj).1
        simpa using this
      obtain ⟨b', off', e, hlt, hc⟩ := hI (by omega)
      cases e
      rw [map_get xs j hj'] at hj
      rw [hc j hj', hj]
    exact HC.mono fun e w' ⟨v', h1, h2, _, h4⟩ => ⟨v', h1, h2, h4⟩
theorem take_any (w W : World) (R Q : Nat) (r : RS) (vc vo : Value) (L : List Value) (s : ByteArray) (hs : s.size ≤ 4000000000) (h : RD w W R Q r vc vo L) (hi : RSI r) (hS : SENT W) :
    Calls Tryz.prog 21 #[.pointer (some ⟨R, 0, none⟩), .string s] W (TKP w R Q (tk r s.data.toList)) :=
  take_of w W R Q r vc vo L s hs h hi hS (fun l v W => among_any l v W) (fun v xs B W h hl => clone_any v xs B W h hl)
/-- what the readers read of the program's variables -/
structure ENV (w : World) : Prop where
  sent : SENT w
  max : ∃ m : Int, w.cell? ⟨1, 0, none⟩ = some (.int .i64 m)
theorem ENV.below {w w' : World} (h : ENV w) (hb : Below w.heap.size w w') : ENV w' := by
  obtain ⟨m, hm⟩ := h.max
  exact ⟨h.sent.below hb, m, (hb.cell (p := ⟨1, 0, none⟩) (Lib.lt_of_cell hm)).trans hm⟩
theorem res_ctt {P : Program} {fn : Func} {p u v : Tmp} {ty : TypeId} (h : fn.results = #[.cell p ty, .tmp u, .tmp v]) (tmps : Array Value) (w : World) (g : Nat) (t : TypeId) (cs : Array Value) (fr : Nat × Nat) (d : TypeDesc)
    (hp : tmps.getD p undef = .pointer (some ⟨g, 0, none⟩)) (hg : w.heap[g]? = some (.cells cs t fr))
    (hu : P.underlying ty = some d) (hd : (match d with | .struct _ | .array _ _ => true | _ => false) = true) (hi : (P.info? ty).map (·.size) = some cs.size) :
    (results fn tmps).run P w = .ok (.tuple #[.agg cs, tmps.getD u undef, tmps.getD v undef]) w := by
  have e : (results fn tmps).run P w = ((asAddr (tmps.getD p undef)).run P w).andThen fun a w₁ => ((loadVar ty a).run P w₁).andThen fun x w₂ => .ok (.tuple #[x, tmps.getD u undef, tmps.getD v undef]) w₂ := by
    simp only [results, h]
    simp [Sem.run_bind, Result.andThen]
  rw [e, hp]
  simp [asAddr, run_loadVar_row w g t ty cs fr d hg hu hd hi, Result.andThen]
/-- what Parse answers -/
def PPS (w : World) (x : RS × Nat × Int) (e : Ending) (w' : World) : Prop := ∃ vc L, e = .returned (.tuple #[.agg #[.int .i64 (x.1.vars : Int), vc], .int .i64 (x.2.1 : Int), .int .i64 x.2.2]) ∧ OwnL w' w.heap.size vc L x.1.cls ∧ Below w.heap.size w w'
set_option maxHeartbeats 8000000 in
set_option maxRecDepth 100000 in
theorem parse_any (s : ByteArray) (w : World) (hs : s.size ≤ 4000000000) (hE : ENV w) :
    Calls Tryz.prog 8 #[.string s] w (PPS w (rows RS0 1 (lgo [] s.data.toList))) := by
  generalize hPP : PPS w (rows RS0 1 (lgo [] s.data.toList)) = PP
  have HBA : Hid (∀ (k : Nat) (e : Int) w', rows RS0 1 (lgo [] s.data.toList) = (RS0, k, e) → Below w.heap.size w w' → PP (.returned (.tuple #[.agg #[.int .i64 0, .slice none 0 0], .int .i64 (k : Int), .int .i64 e])) w') := fun k e w' h hb => by rw [← hPP, h]; exact ⟨.slice none 0 0, [], rfl, OwnL.nil _ _, hb⟩
  have HOK : Hid (∀ (r : RS) vc vo L w', rows RS0 1 (lgo [] s.data.toList) = (r, 0, 0) → RC w w' r.cls r.op vc vo L → PP (.returned (.tuple #[.agg #[.int .i64 (r.vars : Int), vc], .int .i64 0, .int .i64 0])) w') := fun r vc vo L w' h hb => by rw [← hPP, h]; exact ⟨vc, L, rfl, ⟨hb.len, hb.row, hb.each⟩, hb.bel⟩
  clear hPP
  have HCU : Hid (∀ (S : ByteArray) (W : World), S.size ≤ 4000000000 → Below w.heap.size w W → Calls Tryz.prog 18 #[.string S, .string ⟨#[10]⟩] W fun e w' => ∃ r1 r2 : ByteArray, ∃ b, e = .returned (.tuple #[.string r1, .string r2, .bool b]) ∧ r1.data.toList = (Lib.cut S.data.toList [10]).1 ∧ r2.data.toList = (Lib.cut S.data.toList [10]).2.1 ∧ ∃ m, w' = W.drewN m) := fun S W h hb => by
    obtain ⟨m, hm⟩ := (hE.below hb).max
    refine (Any.strings_Cut Tryz.cutL S ⟨#[10]⟩ m W (by omega) hm).mono fun e w' hh => ?_
    exact ⟨_, _, _, hh.1, rfl, rfl, hh.2⟩
  have HCW : Hid (∀ (S : ByteArray) (W : World), S.size ≤ 4000000000 → Calls Tryz.prog 19 #[.string S] W fun e w' => ∃ Wd R : ByteArray, e = .returned (.tuple #[.string Wd, .string R]) ∧ Wd.data.toList = fW S.data.toList ∧ R.data.toList = fR S.data.toList ∧ Wd.size + R.size ≤ S.size ∧ ∃ m, w' = W.drewN m) := fun S W h => (cutW_any S W (by omega)).mono fun e w' ⟨Wd, R, h1, h2, h3, h4⟩ => by
    have h5 := fWR_len S.data.toList
    rw [← h2, ← h3, ← Lib.size_eq, ← Lib.size_eq, ← Lib.size_eq] at h5
    exact ⟨Wd, R, h1, h2, h3, by omega, h4⟩
  have HHD : Hid (∀ (W : World) R Q r vc vo L (S : ByteArray), S.size ≤ 4000000000 → RD w W R Q r vc vo L → Calls Tryz.prog 20 #[.pointer (some ⟨R, 0, none⟩), .string S] W (TKP w R Q (hd4 r (wordsOf S.data.toList)))) := fun W R Q r vc vo L S h1 h2 => head_any w W R Q r vc vo L S h1 h2 (hE.below h2.rc.bel).sent
  have HTK : Hid (∀ (W : World) R Q r vc vo L (S : ByteArray), S.size ≤ 4000000000 → RD w W R Q r vc vo L → RSI r → Calls Tryz.prog 21 #[.pointer (some ⟨R, 0, none⟩), .string S] W (TKP w R Q (tk r S.data.toList))) := fun W R Q r vc vo L S h1 h2 h3 => take_any w W R Q r vc vo L S h1 h2 h3 (hE.below h2.rc.bel).sent
  clear hE
  generalize hGG : rows RS0 1 (lgo [] s.data.toList) = G at *
  have HG0 : Hid (G = rows RS0 (0 + 1) (lgo [] s.data.toList)) := hGG.symm
  clear hGG
  go_enter Tryz.func8, Tryz.ntmps8
  go_wp2_with fail
  have HI0 : Hid (∀ o, RD w ((w.alloc (.cells #[.int .i64 0, .slice none 0 0] 24)).alloc (.cells o 54)) (w.heap.size + 1) w.heap.size RS0 (.slice none 0 0) (.slice none 0 0) [] ∨ o ≠ rdC RS0 (.slice none 0 0) (.slice none 0 0)) := fun o => by
    by_cases ho : o = rdC RS0 (.slice none 0 0) (.slice none 0 0)
    · left
      rw [ho]
      refine ⟨?_, ?_, RC.nil ?_, by omega, Nat.le_refl _⟩
      · have h5 := heap_alloc_new (w.alloc (.cells #[.int .i64 0, .slice none 0 0] 24)) (.cells (rdC RS0 (.slice none 0 0) (.slice none 0 0)) 54)
        rw [show (w.alloc (.cells #[.int .i64 0, .slice none 0 0] 24)).heap.size = w.heap.size + 1 by simp] at h5
        exact h5
      · exact (Below.heap_alloc _ _ _ (by simp)).trans (heap_alloc_new _ _)
      · exact ((Below.refl w.heap.size w).alloc (Nat.le_refl _) _).alloc (by simp) _
    · exact Or.inr ho
  refine wp_scope_straight ?_
  go_wp2_with fail
  refine wp_label ?_
  go_wp2_with fail
  have HST : Hid (RD w ((w.alloc (.cells #[.int .i64 0, .slice none 0 0] 24)).alloc (.cells #[.bool false, .int .i64 0, .int .i64 0, .slice none 0 0, .slice none 0 0, .int .i64 0] 54)) (w.heap.size + 1) w.heap.size RS0 (.slice none 0 0) (.slice none 0 0) []) := (HI0.out _).resolve_right (fun h => h rfl)
  clear HI0
  go_loopg [0, 6] 4000000000 (fun gk v0 v6 wr => ∃ (S : ByteArray) (k : Nat), v0 = .string S ∧ v6 = .int .i64 (k : Int) ∧ S.size ≤ gk ∧ gk ≤ 4000000000 ∧ k + gk ≤ 4000000000 ∧ Aside (∃ r vc vo L, RD w wr (w.heap.size + 1) w.heap.size r vc vo L ∧ RSI r ∧ RSZ r ∧ G = rows r (k + 1) (lgo [] S.data.toList)))
  case atStart => exact ⟨s, 0, rfl, rfl, hs, Nat.le_refl _, by omega, RS0, _, _, _, HST.out, RSI.zero, fun _ => ⟨rfl, rfl⟩, HG0.out⟩
  case round =>
    obtain ⟨S, k, rfl, rfl, hsz, hgk, hkk, HU⟩ := hrel
    clear HST HG0
    obtain ⟨g0, hg0⟩ : ∃ g, g = gk := ⟨_, rfl⟩
    obtain ⟨r, vc, vo, L, hRD, hRI, hRZ, hG⟩ := HU.out
    have HRD : Hid (RD w wr (w.heap.size + 1) w.heap.size r vc vo L) := hRD
    have HRI : Hid (RSI r ∧ RSZ r) := ⟨hRI, hRZ⟩
    clear HU hRD hRI hRZ
    by_cases h0 : S.data.toList = []
    · rw [h0] at hG
      have hSe := bytes_of h0
      subst hSe
      obtain ⟨adc, cc, rfl, hadc⟩ := ps_form HRD.out.rc.row
      have hC := HRI.out.1.cnt
      have hCl := HRI.out.1.cls
      have HQ : Hid (wr.heap[w.heap.size]? = some (.cells #[.int .i64 0, .slice none 0 0] 24 (0, 0)) ∧ Below w.heap.size w wr) := ⟨HRD.out.res, HRD.out.rc.bel⟩
      have c0 : wr.cell? ⟨w.heap.size + 1, 0, none⟩ = some (.bool r.hd) := ps_cell HRD.out.blk 0
      have c1 : wr.cell? ⟨w.heap.size + 1, 1, none⟩ = some (.int .i64 (r.vars : Int)) := ps_cell HRD.out.blk 1
      have c2 : wr.cell? ⟨w.heap.size + 1, 2, none⟩ = some (.int .i64 (r.cnt : Int)) := ps_cell HRD.out.blk 2
      have c3 : wr.cell? ⟨w.heap.size + 1, 3, none⟩ = some (.slice adc r.cls.length cc) := ps_cell HRD.out.blk 3
      cases hh : r.hd with
      | false =>
        have hG2 : G = (RS0, k + 1, 3) := by rw [hG]; unfold lgo; rw [if_pos rfl, rows, if_pos (Or.inl hh)]
        have HFB : Hid (∀ w', Below w.heap.size w w' → PP (.returned (.tuple #[.agg #[.int .i64 0, .slice none 0 0], .int .i64 ((k : Int) + 1), .int .i64 3])) w') := fun w' hb => HBA.out (k + 1) 3 w' hG2 hb
        rw [hh] at c0
        clear hG2 hG h0 HBA HOK HCU HCW HHD HTK HRD HRI hh
        have g0' : wr.cell? ⟨w.heap.size, 0, none⟩ = some (.int .i64 0) := ps_cell HQ.out.1 0
        have g1 : wr.cell? ⟨w.heap.size, 1, none⟩ = some (.slice none 0 0) := ps_cell HQ.out.1 1
        have f0 : wr.frozen? ⟨w.heap.size, 0, none⟩ = false := ps_fz HQ.out.1 0
        have f1 : wr.frozen? ⟨w.heap.size, 1, none⟩ = false := ps_fz HQ.out.1 1
        go_wp2
        have hfin : ((wr.setCell ⟨w.heap.size, 0, none⟩ (.int .i64 0)).setCell ⟨w.heap.size, 1, none⟩ (.slice none 0 0)).heap[w.heap.size]? = some (.cells #[.int .i64 0, .slice none 0 0] 24 (0, 0)) := by
          rw [heap_setCell_same _ w.heap.size 1 _ _ _ (heap_setCell_same _ w.heap.size 0 _ _ _ HQ.out.1)]; rfl
        refine bodyPost_ret (v := .tuple #[.agg #[.int .i64 0, .slice none 0 0], .int .i64 ((k : Int) + 1), .int .i64 3]) (res_ctt (p := 2) (u := 3) (v := 4) rfl _ _ w.heap.size 24 _ (0, 0) _ rfl hfin Tryz.underlying24 rfl (by kernel_rfl)) rfl ?_
        exact HFB.out _ (set2_below HQ.out.2 _ _)
      | true =>
        rw [hh] at c0
        by_cases hlt : r.cls.length < r.cnt
        · have hG2 : G = (RS0, k + 1, 3) := by rw [hG]; unfold lgo; rw [if_pos rfl, rows, if_pos (Or.inr hlt)]
          have HFB : Hid (∀ w', Below w.heap.size w w' → PP (.returned (.tuple #[.agg #[.int .i64 0, .slice none 0 0], .int .i64 ((k : Int) + 1), .int .i64 3])) w') := fun w' hb => HBA.out (k + 1) 3 w' hG2 hb
          have q1 : (r.cls.length : Int) < (r.cnt : Int) := by omega
          clear hG2 hG h0 HBA HOK HCU HCW HHD HTK HRD HRI hh
          have g0' : wr.cell? ⟨w.heap.size, 0, none⟩ = some (.int .i64 0) := ps_cell HQ.out.1 0
          have g1 : wr.cell? ⟨w.heap.size, 1, none⟩ = some (.slice none 0 0) := ps_cell HQ.out.1 1
          have f0 : wr.frozen? ⟨w.heap.size, 0, none⟩ = false := ps_fz HQ.out.1 0
          have f1 : wr.frozen? ⟨w.heap.size, 1, none⟩ = false := ps_fz HQ.out.1 1
          go_wp2
          have hfin : ((wr.setCell ⟨w.heap.size, 0, none⟩ (.int .i64 0)).setCell ⟨w.heap.size, 1, none⟩ (.slice none 0 0)).heap[w.heap.size]? = some (.cells #[.int .i64 0, .slice none 0 0] 24 (0, 0)) := by
            rw [heap_setCell_same _ w.heap.size 1 _ _ _ (heap_setCell_same _ w.heap.size 0 _ _ _ HQ.out.1)]; rfl
          refine bodyPost_ret (v := .tuple #[.agg #[.int .i64 0, .slice none 0 0], .int .i64 ((k : Int) + 1), .int .i64 3]) (res_ctt (p := 2) (u := 3) (v := 4) rfl _ _ w.heap.size 24 _ (0, 0) _ rfl hfin Tryz.underlying24 rfl (by kernel_rfl)) rfl ?_
          exact HFB.out _ (set2_below HQ.out.2 _ _)
        · have hG2 : G = (r, 0, 0) := by rw [hG]; unfold lgo; rw [if_pos rfl, rows, if_neg (by rw [hh]; simp; omega)]
          have HFG : Hid (∀ w', RC w w' r.cls r.op (.slice adc r.cls.length cc) vo L → PP (.returned (.tuple #[.agg #[.int .i64 (r.vars : Int), .slice adc r.cls.length cc], .int .i64 0, .int .i64 0])) w') := fun w' hb => HOK.out r _ vo L w' hG2 hb
          have q1 : ¬ (r.cls.length : Int) < (r.cnt : Int) := by omega
          have g0' : wr.cell? ⟨w.heap.size, 0, none⟩ = some (.int .i64 0) := ps_cell HQ.out.1 0
          have g1 : wr.cell? ⟨w.heap.size, 1, none⟩ = some (.slice none 0 0) := ps_cell HQ.out.1 1
          have f0 : wr.frozen? ⟨w.heap.size, 0, none⟩ = false := ps_fz HQ.out.1 0
          have f1 : wr.frozen? ⟨w.heap.size, 1, none⟩ = false := ps_fz HQ.out.1 1
          have HF2 : Hid (RC w ((wr.setCell ⟨w.heap.size, 0, none⟩ (.int .i64 (r.vars : Int))).setCell ⟨w.heap.size, 1, none⟩ (.slice adc r.cls.length cc)) r.cls r.op (.slice adc r.cls.length cc) vo L) := (HRD.out.rc.set 0 _ HQ.out.1 (by decide) (by decide) (Nat.le_refl _)).set 1 _ (heap_setCell_same _ w.heap.size 0 _ _ _ HQ.out.1) (by decide) (by decide) (Nat.le_refl _)
          clear hG2 hG h0 HBA HOK HCU HCW HHD HTK HRD HRI hh
          have HFI := HFG.out _ HF2.out
          have HFJ : Hid (PP (.returned (.tuple #[.agg #[.int .i64 (r.vars : Int), .slice adc r.cls.length cc], .int .i64 0, .int .i64 0])) ((wr.setCell ⟨w.heap.size, 0, none⟩ (.int .i64 (r.vars : Int))).setCell ⟨w.heap.size, 1, none⟩ (.slice adc r.cls.length cc))) := HFI
          clear HFI HFG HF2
          generalize r.cls.length = cl at *
          go_wp2
          have hfin : ((wr.setCell ⟨w.heap.size, 0, none⟩ (.int .i64 (r.vars : Int))).setCell ⟨w.heap.size, 1, none⟩ (.slice adc cl cc)).heap[w.heap.size]? = some (.cells #[.int .i64 (r.vars : Int), .slice adc cl cc] 24 (0, 0)) := by
            rw [heap_setCell_same _ w.heap.size 1 _ _ _ (heap_setCell_same _ w.heap.size 0 _ _ _ HQ.out.1)]; rfl
          refine bodyPost_ret (v := .tuple #[.agg #[.int .i64 (r.vars : Int), .slice adc cl cc], .int .i64 0, .int .i64 0]) (res_ctt (p := 2) (u := 3) (v := 4) rfl _ _ w.heap.size 24 _ (0, 0) _ rfl hfin Tryz.underlying24 rfl (by kernel_rfl)) rfl ?_
          exact HFJ.out
    · have hne : S.toList.isEmpty = false := by
        rw [Lib.toList_data]
        cases hh : S.data.toList with
        | nil => exact absurd hh h0
        | cons a b => rfl
      have hcl := cut_len h0
      have HG : Hid (G = cnt1 k (lgo [] (Lib.cut S.data.toList [10]).2.1) (row1 r (wordsOf (Lib.cut S.data.toList [10]).1))) := hG.trans (rows_cnt _ _ _ h0)
      rw [← Lib.size_eq] at hcl
      have HCC := HCU.out S wr (by omega) HRD.out.rc.bel
      have HC2 : Hid (Calls Tryz.prog 18 #[.string S, .string ⟨#[10]⟩] wr fun e w' => ∃ r1 r2 : ByteArray, ∃ b, e = .returned (.tuple #[.string r1, .string r2, .bool b]) ∧ r1.data.toList = (Lib.cut S.data.toList [10]).1 ∧ r2.data.toList = (Lib.cut S.data.toList [10]).2.1 ∧ ∃ m, w' = wr.drewN m) := HCC
      clear hG HCC h0 HCU HOK
      generalize Lib.cut S.data.toList [10] = CT at *
      go_wp2_with fail
      refine HC2.out.mono ?_
      rintro e w1 ⟨r1, r2, b, rfl, hr1, hr2, m, rfl⟩
      have hz1 : r1.size ≤ 4000000000 := by rw [Lib.size_eq, hr1]; omega
      have hz2 : r2.size < S.size := by rw [Lib.size_eq r2, hr2]; exact hcl.2
      rw [← hr1, ← hr2] at HG
      have HR1 : Hid (RD w (wr.drewN m) (w.heap.size + 1) w.heap.size r vc vo L) := ps_drewN HRD.out m
      clear hr1 hr2 HRD HC2 hcl CT
      generalize wr.drewN m = W1 at *
      have HWC : Hid (Calls Tryz.prog 19 #[.string r1] W1 fun e w' => ∃ Wd R : ByteArray, e = .returned (.tuple #[.string Wd, .string R]) ∧ Wd.data.toList = fW r1.data.toList ∧ R.data.toList = fR r1.data.toList ∧ Wd.size + R.size ≤ r1.size ∧ ∃ m, w' = W1.drewN m) := HCW.out r1 W1 hz1
      go_wp2_with fail
      refine HWC.out.mono ?_
      rintro e w2 ⟨Wd, Rs, rfl, hW, hR, hWR, m2, rfl⟩
      have HR2 : Hid (RD w (W1.drewN m2) (w.heap.size + 1) w.heap.size r vc vo L) := ps_drewN HR1.out m2
      clear HR1 HWC
      generalize W1.drewN m2 = W2 at *
      by_cases hc : Wd.data.toList = [99]
      · have HN : Aside (∃ r vc vo L, RD w W2 (w.heap.size + 1) w.heap.size r vc vo L ∧ RSI r ∧ RSZ r ∧ G = rows r (k + 1 + 1) (lgo [] r2.data.toList)) := ⟨r, vc, vo, L, HR2.out, HRI.out.1, HRI.out.2, by rw [HG.out, row1_c (by rw [← hW]; exact hc)]; rfl⟩
        have hWe := bytes_of hc
        subst hWe
        clear HR2 HRI HG HBA HCW HHD HTK hc hW hR
        go_wp2
        go_roundg (g0 - 1)
        case measure => omega
        case rel => exact ⟨r2, k + 1, rfl, by simp, by omega, by omega, by omega, HN.out⟩
      have n1 := bytes_is hc
      cases hh : r.hd with
      | false =>
        have c0 : W2.cell? ⟨w.heap.size + 1, 0, none⟩ = some (.bool false) := by have h5 : W2.cell? ⟨w.heap.size + 1, 0, none⟩ = some (.bool r.hd) := ps_cell HR2.out.blk 0; rw [hh] at h5; exact h5
        clear HTK HCW
        go_wp2_with fail
        go_loopg [8, 9] 0 (fun _ v8 v9 wq => v8 = .string Wd ∧ v9 = .string Rs ∧ W2 = wq)
        case atStart => exact ⟨rfl, rfl, rfl⟩
        case round =>
          obtain ⟨rfl, rfl, hwq⟩ := hrel
          subst hwq
          by_cases he : Wd.data.toList = []
          · have HN : Aside (∃ r vc vo L, RD w W2 (w.heap.size + 1) w.heap.size r vc vo L ∧ RSI r ∧ RSZ r ∧ G = rows r (k + 1 + 1) (lgo [] r2.data.toList)) := ⟨r, vc, vo, L, HR2.out, HRI.out.1, HRI.out.2, by rw [HG.out, row1_e (by rw [← hW]; exact he)]; rfl⟩
            have hWe := bytes_of he
            subst hWe
            clear HR2 HRI HG HBA HHD hc hW hR n1 he
            go_wp2
            go_roundg (g0 - 1)
            case measure => omega
            case rel => exact ⟨r2, k + 1, rfl, by simp, by omega, by omega, by omega, HN.out⟩
          · have n0 : Wd.toList.isEmpty = false := by
              rw [Lib.toList_data]
              cases hh : Wd.data.toList with
              | nil => exact absurd hh he
              | cons a b => rfl
            have HG2 : Hid (G = cnt1 k (lgo [] r2.data.toList) (hd4 r (wordsOf r1.data.toList))) := by show _ = _; rw [HG.out, row1_f hh (by rw [← hW]; exact hc) (by rw [← hW]; exact he)]
            have HCH : Hid (Calls Tryz.prog 20 #[.pointer (some ⟨w.heap.size + 1, 0, none⟩), .string r1] W2 (TKP w (w.heap.size + 1) w.heap.size (hd4 r (wordsOf r1.data.toList)))) := HHD.out W2 _ _ r vc vo L r1 hz1 HR2.out
            have HIV : Hid (∀ r', hd4 r (wordsOf r1.data.toList) = .ok r' → RSI r' ∧ RSZ r') := fun r' h5 => by
              have h6 := hd4_inv HRI.out.1 (HRI.out.2 hh) h5
              exact ⟨h6.1, fun h7 => by rw [h6.2] at h7; cases h7⟩
            have HER : Hid (∀ x, hd4 r (wordsOf r1.data.toList) = .error x → (x != 0) = true) := fun x h5 => hd4_err h5
            clear HG HHD HR2 HRI hc he hW hR hh
            generalize hd4 r (wordsOf r1.data.toList) = HX at *
            cases HX with
            | error er =>
              have HFB : Hid (∀ w', Below w.heap.size w w' → PP (.returned (.tuple #[.agg #[.int .i64 0, .slice none 0 0], .int .i64 ((k : Int) + 1), .int .i64 er])) w') := fun w' hb => HBA.out (k + 1) er w' HG2.out hb
              have qe := HER.out er rfl
              clear HBA HIV HER HG2
              go_wp2_with fail
              refine HCH.out.mono ?_
              rintro e w3 ⟨rfl, hq3, hb3⟩
              have HQ : Hid (w3.heap[w.heap.size]? = some (.cells #[.int .i64 0, .slice none 0 0] 24 (0, 0)) ∧ Below w.heap.size w w3) := ⟨hq3, hb3⟩
              clear hq3 hb3 HCH
              have g0' : w3.cell? ⟨w.heap.size, 0, none⟩ = some (.int .i64 0) := ps_cell HQ.out.1 0
              have g1 : w3.cell? ⟨w.heap.size, 1, none⟩ = some (.slice none 0 0) := ps_cell HQ.out.1 1
              have f0 : w3.frozen? ⟨w.heap.size, 0, none⟩ = false := ps_fz HQ.out.1 0
              have f1 : w3.frozen? ⟨w.heap.size, 1, none⟩ = false := ps_fz HQ.out.1 1
              go_wp2
              have hfin : ((w3.setCell ⟨w.heap.size, 0, none⟩ (.int .i64 0)).setCell ⟨w.heap.size, 1, none⟩ (.slice none 0 0)).heap[w.heap.size]? = some (.cells #[.int .i64 0, .slice none 0 0] 24 (0, 0)) := by
                rw [heap_setCell_same _ w.heap.size 1 _ _ _ (heap_setCell_same _ w.heap.size 0 _ _ _ HQ.out.1)]; rfl
              refine bodyPost_ret (v := .tuple #[.agg #[.int .i64 0, .slice none 0 0], .int .i64 ((k : Int) + 1), .int .i64 er]) (res_ctt (p := 2) (u := 3) (v := 4) rfl _ _ w.heap.size 24 _ (0, 0) _ rfl hfin Tryz.underlying24 rfl (by kernel_rfl)) rfl ?_
              exact HFB.out _ (set2_below HQ.out.2 _ _)
            | ok r' =>
              have HI2 := HIV.out r' rfl
              have HI3 : Hid (RSI r' ∧ RSZ r') := HI2
              clear HBA HIV HER HI2
              go_wp2_with fail
              refine HCH.out.mono ?_
              rintro e w3 ⟨rfl, vc', vo', L', hR3⟩
              have HN : Aside (∃ r vc vo L, RD w w3 (w.heap.size + 1) w.heap.size r vc vo L ∧ RSI r ∧ RSZ r ∧ G = rows r (k + 1 + 1) (lgo [] r2.data.toList)) := ⟨r', vc', vo', L', hR3, HI3.out.1, HI3.out.2, HG2.out⟩
              clear hR3 HCH HI3 HG2
              go_wp2
              go_roundg (g0 - 1)
              case measure => omega
              case rel => exact ⟨r2, k + 1, rfl, by simp, by omega, by omega, by omega, HN.out⟩
      | true =>
        have HG2 : Hid (G = cnt1 k (lgo [] r2.data.toList) (tks r (cwL Wd.data.toList Rs.data.toList))) := by show _ = _; rw [HG.out, row1_t hh (by rw [← hW]; exact hc), cwL_step, hW, hR]
        have HS2 : Hid (∃ r vc vo L, RD w W2 (w.heap.size + 1) w.heap.size r vc vo L ∧ RSI r ∧ r.hd = true ∧ G = cnt1 k (lgo [] r2.data.toList) (tks r (cwL Wd.data.toList Rs.data.toList))) := ⟨r, vc, vo, L, HR2.out, HRI.out.1, hh, HG2.out⟩
        have hWR2 : Wd.size + Rs.size ≤ 4000000000 := by omega
        clear HG HG2 HR2 HRI hc hW hR hh HHD hWR
        go_wp2_with fail
        go_loopg [8, 9] (Wd.size + Rs.size) (fun gk v8 v9 wr => ∃ (Wd Rs : ByteArray), v8 = .string Wd ∧ v9 = .string Rs ∧ Wd.size + Rs.size ≤ gk ∧ gk ≤ 4000000000 ∧ Aside (∃ r vc vo L, RD w wr (w.heap.size + 1) w.heap.size r vc vo L ∧ RSI r ∧ r.hd = true ∧ G = cnt1 k (lgo [] r2.data.toList) (tks r (cwL Wd.data.toList Rs.data.toList))))
        case atStart => exact ⟨Wd, Rs, rfl, rfl, Nat.le_refl _, hWR2, HS2.out⟩
        case round =>
          clear HS2 hWR2
          obtain ⟨Wd, Rs, rfl, rfl, hwr, hgq, HU⟩ := hrel
          obtain ⟨r, vc, vo, L, hRD, hRI, hh, hG⟩ := HU.out
          have HRD : Hid (RD w wr (w.heap.size + 1) w.heap.size r vc vo L) := hRD
          have HRI : Hid (RSI r ∧ r.hd = true) := ⟨hRI, hh⟩
          have HG : Hid (G = cnt1 k (lgo [] r2.data.toList) (tks r (cwL Wd.data.toList Rs.data.toList))) := hG
          clear HU hRD hRI hG
          by_cases he : Wd.data.toList = []
          · have HN : Aside (∃ r vc vo L, RD w wr (w.heap.size + 1) w.heap.size r vc vo L ∧ RSI r ∧ RSZ r ∧ G = rows r (k + 1 + 1) (lgo [] r2.data.toList)) := ⟨r, vc, vo, L, HRD.out, HRI.out.1, (fun h5 => by rw [HRI.out.2] at h5; cases h5), by rw [HG.out, cwL, if_pos he]; rfl⟩
            have hWe := bytes_of he
            subst hWe
            clear HRD HRI HG HBA HCW HTK he n1 hh
            go_wp2
            go_roundg (g0 - 1)
            case measure => omega
            case rel => exact ⟨r2, k + 1, rfl, by simp, by omega, by omega, by omega, HN.out⟩
          · have n0 : Wd.toList.isEmpty = false := by
              rw [Lib.toList_data]
              cases hh : Wd.data.toList with
              | nil => exact absurd hh he
              | cons a b => rfl
            have hpos : 0 < Wd.size := by
              rw [Lib.size_eq]
              exact List.length_pos_iff.2 he
            have c0 : wr.cell? ⟨w.heap.size + 1, 0, none⟩ = some (.bool true) := by have h5 : wr.cell? ⟨w.heap.size + 1, 0, none⟩ = some (.bool r.hd) := ps_cell HRD.out.blk 0; rw [hh] at h5; exact h5
            have HG2 : Hid (G = cnt1 k (lgo [] r2.data.toList) (tksN (tk r Wd.data.toList) (wordsOf Rs.data.toList))) := by show _ = _; rw [HG.out, cwL, if_neg he, tks_cons]
            have HCH : Hid (Calls Tryz.prog 21 #[.pointer (some ⟨w.heap.size + 1, 0, none⟩), .string Wd] wr (TKP w (w.heap.size + 1) w.heap.size (tk r Wd.data.toList))) := HTK.out wr _ _ r vc vo L Wd (by omega) HRD.out HRI.out.1
            have HIV : Hid (∀ r', tk r Wd.data.toList = .ok r' → RSI r' ∧ r'.hd = true) := fun r' h5 => by
              have h6 := tkN_inv HRI.out.1 h5
              exact ⟨h6.1, h6.2.trans HRI.out.2⟩
            have HER : Hid (∀ x, tk r Wd.data.toList = .error x → (x != 0) = true) := fun x h5 => tk_err h5
            clear HG HTK HRD HRI he hh
            generalize tk r Wd.data.toList = HX at *
            cases HX with
            | error er =>
              have HFB : Hid (∀ w', Below w.heap.size w w' → PP (.returned (.tuple #[.agg #[.int .i64 0, .slice none 0 0], .int .i64 ((k : Int) + 1), .int .i64 er])) w') := fun w' hb => HBA.out (k + 1) er w' HG2.out hb
              have qe := HER.out er rfl
              clear HBA HIV HER HG2 HCW n1
              go_wp2_with fail
              refine HCH.out.mono ?_
              rintro e w3 ⟨rfl, hq3, hb3⟩
              have HQ : Hid (w3.heap[w.heap.size]? = some (.cells #[.int .i64 0, .slice none 0 0] 24 (0, 0)) ∧ Below w.heap.size w w3) := ⟨hq3, hb3⟩
              clear hq3 hb3 HCH
              have g0' : w3.cell? ⟨w.heap.size, 0, none⟩ = some (.int .i64 0) := ps_cell HQ.out.1 0
              have g1 : w3.cell? ⟨w.heap.size, 1, none⟩ = some (.slice none 0 0) := ps_cell HQ.out.1 1
              have f0 : w3.frozen? ⟨w.heap.size, 0, none⟩ = false := ps_fz HQ.out.1 0
              have f1 : w3.frozen? ⟨w.heap.size, 1, none⟩ = false := ps_fz HQ.out.1 1
              go_wp2
              have hfin : ((w3.setCell ⟨w.heap.size, 0, none⟩ (.int .i64 0)).setCell ⟨w.heap.size, 1, none⟩ (.slice none 0 0)).heap[w.heap.size]? = some (.cells #[.int .i64 0, .slice none 0 0] 24 (0, 0)) := by
                rw [heap_setCell_same _ w.heap.size 1 _ _ _ (heap_setCell_same _ w.heap.size 0 _ _ _ HQ.out.1)]; rfl
              refine bodyPost_ret (v := .tuple #[.agg #[.int .i64 0, .slice none 0 0], .int .i64 ((k : Int) + 1), .int .i64 er]) (res_ctt (p := 2) (u := 3) (v := 4) rfl _ _ w.heap.size 24 _ (0, 0) _ rfl hfin Tryz.underlying24 rfl (by kernel_rfl)) rfl ?_
              exact HFB.out _ (set2_below HQ.out.2 _ _)
            | ok r' =>
              have HI2 := HIV.out r' rfl
              have HI3 : Hid (RSI r' ∧ r'.hd = true) := HI2
              clear HBA HIV HER HI2
              go_wp2_with fail
              refine HCH.out.mono ?_
              rintro e w3 ⟨rfl, vc', vo', L', hR3⟩
              have HR3 : Hid (RD w w3 (w.heap.size + 1) w.heap.size r' vc' vo' L') := hR3
              have HWC : Hid (Calls Tryz.prog 19 #[.string Rs] w3 fun e w' => ∃ Wd R : ByteArray, e = .returned (.tuple #[.string Wd, .string R]) ∧ Wd.data.toList = fW Rs.data.toList ∧ R.data.toList = fR Rs.data.toList ∧ Wd.size + R.size ≤ Rs.size ∧ ∃ m, w' = w3.drewN m) := HCW.out Rs w3 (by omega)
              clear hR3 HCH HCW
              go_wp2_with fail
              refine HWC.out.mono ?_
              rintro e w4 ⟨Wn, Rn, rfl, hW, hR, hWR, m4, rfl⟩
              have HN : Aside (∃ r vc vo L, RD w (w3.drewN m4) (w.heap.size + 1) w.heap.size r vc vo L ∧ RSI r ∧ r.hd = true ∧ G = cnt1 k (lgo [] r2.data.toList) (tks r (cwL Wn.data.toList Rn.data.toList))) := ⟨r', vc', vo', L', ps_drewN HR3.out m4, HI3.out.1, HI3.out.2, by rw [HG2.out, tksN, cwL_step, hW, hR]⟩
              clear HR3 HI3 HG2 hW hR HWC n1
              generalize w3.drewN m4 = W5 at *
              go_wp2
              go_roundg (gk - 1)
              case measure => omega
              case rel => exact ⟨Wn, Rn, rfl, rfl, by omega, by omega, HN⟩
end Go.Proofs.YtnknbijbhidpnaaGreatDoor
