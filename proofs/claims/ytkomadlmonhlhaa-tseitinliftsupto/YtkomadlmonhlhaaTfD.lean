import Derived.Test.YtkomadlmonhlhaaTsU
import Derived.Test.YtkomadlmonhlhaaTsP
import Derived.Test.YtkomadlmonhlhaaTqG
import Derived.Deep.Cut
namespace Go.Proofs.Ytkomadlmonhlhaa
open Go.ChangeShapes Go.WideShapes Go.ChangeAt Go.RowKit Go.Lib Go.Ag Go.WideMaps Go.Maps Go.ChangeMaps Go.Cn

theorem updB_comm (f : Nat → Bool) (n m : Nat) : updB (updB f n) m = updB (updB f m) n := by
  funext i
  unfold updB
  by_cases h1 : i = m
  · rw [if_pos h1]; split <;> rfl
  · rw [if_neg h1]
    by_cases h2 : i = n
    · rw [if_pos h2, if_pos h2]
    · rw [if_neg h2, if_neg h2, if_neg h1]
/-- a node that is marked ahead is not looked at by those below it -/
theorem meet_mark {ns : Nds} (hw : WFN ns) : ∀ (q m : Nat), m < q → ∀ n, m < n → ∀ s : (Nat → Bool) × List Nat, meet ns m (updB s.1 n, s.2) = (updB (meet ns m s).1 n, (meet ns m s).2)
  | 0, _, h, _, _, _ => absurd h (Nat.not_lt_zero _)
  | q + 1, m, hq, n, hn, s => by
    have e0 : (updB s.1 n, s.2).1 m = s.1 m := updB_ne _ (by omega)
    cases h : s.1 m with
    | true => rw [meet_met h, meet_met (e0.trans h)]
    | false =>
      by_cases hk : (nodK ns m).1 = 2
      · rcases e : nodK ns m with ⟨kd, a, b⟩
        rw [e] at hk
        obtain rfl : kd = 2 := hk
        have hab := hw m a b e
        rw [meet_gate hw h e, meet_gate hw (e0.trans h) e]
        rw [meet_mark hw q (a / 2) (by omega) n (by omega) s]
        rw [meet_mark hw q (b / 2) (by omega) n (by omega) (meet ns (a / 2) s)]
        exact Prod.ext (updB_comm _ _ _) rfl
      · rw [meet_leaf h hk, meet_leaf (e0.trans h) hk]
        exact Prod.ext (updB_comm _ _ _) rfl
/-- what was met is told: as many -/
theorem meet_cnt {ns : Nds} (hw : WFN ns) {m : Nat} : ∀ (q n : Nat), n < q → n ≤ m → ∀ s : (Nat → Bool) × List Nat, s.1 0 = true → (meet ns n s).2.length + cntU (meet ns n s).1 m = s.2.length + cntU s.1 m
  | 0, _, h, _, _, _ => absurd h (Nat.not_lt_zero _)
  | q + 1, n, hq, hn, s, h0 => by
    cases h : s.1 n with
    | true => rw [meet_met h]
    | false =>
      have hp : 0 < n := by
        rcases Nat.eq_zero_or_pos n with e | e
        · rw [e, h0] at h; cases h
        · exact e
      by_cases hk : (nodK ns n).1 = 2
      · rcases e : nodK ns n with ⟨kd, a, b⟩
        rw [e] at hk
        obtain rfl : kd = 2 := hk
        have hab := hw n a b e
        rw [meet_gate hw h e]
        have h1 := meet_cnt hw (m := m) q (a / 2) (by omega) (by omega) s h0
        obtain ⟨_, p2, p3⟩ := meet_prop hw (a / 2 + 1) (a / 2) (by omega) s
        have h2 := meet_cnt hw (m := m) q (b / 2) (by omega) (by omega) (meet ns (a / 2) s) (p2 0 h0)
        obtain ⟨_, _, r3⟩ := meet_prop hw (b / 2 + 1) (b / 2) (by omega) (meet ns (a / 2) s)
        have h3 : (meet ns (b / 2) (meet ns (a / 2) s)).1 n = false := by rw [r3 n (by omega), p3 n (by omega)]; exact h
        have h4 := cntU_in h3 hp m hn
        rw [List.length_append]
        show _ + [n].length + cntU (updB _ n) m = _
        simp only [List.length_singleton]
        omega
      · rw [meet_leaf h hk]
        have h4 := cntU_in h hp m hn
        rw [List.length_append]
        show _ + [n].length + cntU (updB _ n) m = _
        simp only [List.length_singleton]
        omega
theorem meet_zero {ns : Nds} (hw : WFN ns) {n : Nat} {s : (Nat → Bool) × List Nat} (h0 : s.1 0 = true) : (meet ns n s).1 0 = true := (meet_prop hw (n + 1) n (by omega) s).2.1 0 h0
/-- the document's walk under way: which nodes were seen, and what was told -/
structure SN (w0 w : World) (Sb m : Nat) (s : (Nat → Bool) × List Nat) (vl : Value) : Prop where
  bel : Below w0.heap.size w0 w
  row : ∃ cs : Array Value, w.heap[Sb]? = some (.cells cs 4 (0, 0)) ∧ cs.size = m ∧ ∀ i, 0 < i → i < m → cs[i]? = some (.bool (s.1 i))
  lo : w0.heap.size ≤ Sb
  lst : w.ownsRow w0.heap.size 3 1 vl s.2.length (natV s.2)
theorem SN.cell {w0 w : World} {Sb m : Nat} {s : (Nat → Bool) × List Nat} {vl : Value} (h : SN w0 w Sb m s vl) {i : Nat} (h0 : 0 < i) (hi : i < m) : w.cell? ⟨Sb, i, none⟩ = some (.bool (s.1 i)) ∧ w.frozen? ⟨Sb, i, none⟩ = false := by
  obtain ⟨cs, h1, h2, h3⟩ := h.row
  exact ⟨(ag_cell h1 i).trans (h3 i h0 hi), ag_fz h1 i⟩
theorem SN.mark {w0 w : World} {Sb m : Nat} {s : (Nat → Bool) × List Nat} {vl : Value} (h : SN w0 w Sb m s vl) {n : Nat} (hn : n < m) : SN w0 (w.setCell ⟨Sb, n, none⟩ (.bool true)) Sb m (updB s.1 n, s.2) vl := by
  obtain ⟨cs, h1, h2, h3⟩ := h.row
  have ho : ∀ j, j ≠ Sb → (w.setCell ⟨Sb, n, none⟩ (.bool true)).heap[j]? = w.heap[j]? := fun j hj => heap_setCell_other _ _ _ _ hj
  refine ⟨⟨h.bel.os, h.bel.tape, h.bel.output, by have := h.bel.size; simp; omega, fun j hj => (ho j (fun e => by have := h.lo; omega)).trans (h.bel.block j hj)⟩, ⟨cs.setIfInBounds n (.bool true), heap_setCell_same _ Sb n _ _ _ h1, by simpa using h2, fun i hi0 hi => ?_⟩, h.lo, ag_same h.lst (fun j hj => ho j (fun e => ag_ne h.lst h1 (by decide) (by rw [hj, e])))⟩
  show _ = some (Value.bool (updB s.1 n i))
  by_cases e : i = n
  · subst e
    rw [updB_self, Array.getElem?_setIfInBounds_self_of_lt (by omega)]
  · rw [updB_ne _ e, Array.getElem?_setIfInBounds_ne (by omega)]
    exact h3 i hi0 hi
theorem SN.tell {w0 w w4 : World} {Sb m : Nat} {s : (Nat → Bool) × List Nat} {vl : Value} {x g4 cap4 n : Nat} {ob : Obj} (hn : s.2.length = n) (h : SN w0 w Sb m s vl) (hown : w4.ownsRow w0.heap.size 3 1 (.slice (some ⟨g4, 0, none⟩) (n + 1) cap4) (n + 1) (natV s.2 ++ [.int .i64 (x : Int)])) (hg : (w.alloc ob).grownBy w4 vl.ownBlock) : SN w0 w4 Sb m (s.1, s.2 ++ [x]) (.slice (some ⟨g4, 0, none⟩) (n + 1) cap4) := by
  subst hn
  obtain ⟨cs, h1, h2, h3⟩ := h.row
  have hS : Sb < w.heap.size := (Array.getElem?_eq_some_iff.1 h1).1
  have hz := hg.size
  have hk : ∀ j, j < w.heap.size → vl.ownBlock ≠ some j → w4.heap[j]? = w.heap[j]? := fun j hj hne => by
    rw [hg.block j (by simp; omega) (fun e => hne e.symm)]
    exact Below.heap_alloc _ _ j hj
  refine ⟨⟨hg.os.trans h.bel.os, hg.tape.trans h.bel.tape, hg.output.trans h.bel.output, by have := h.bel.size; simp at hz; omega, fun j hj => ?_⟩, ⟨cs, (hk Sb hS (ag_ne h.lst h1 (by decide))).trans h1, h2, h3⟩, h.lo, ?_⟩
  · rw [hk j (Nat.lt_of_lt_of_le hj h.bel.size) (fun e => by have := (h.lst.lt j e).1; omega)]
    exact h.bel.block j hj
  · show w4.ownsRow _ _ _ _ (s.2 ++ [x]).length (natV (s.2 ++ [x]))
    rw [natV_snoc, List.length_append]
    exact hown
/-- the node's cells in the document's graph -/
theorem RG.node {w0 w : World} {B R : Nat} {ns : Nds} {vL : Value} (h : RG w0 B R ns vL) (hb : Below w0.heap.size w0 w) : ∃ g cap, vL = .slice (some ⟨g, 0, none⟩) (ns.length + 1) cap ∧ w.cell? ⟨R, 0, none⟩ = some vL ∧ ∀ n, n ≤ ns.length → w.cell? ⟨g, n * 3, none⟩ = some (.int .i64 ((nodK ns n).1 : Int)) ∧ w.cell? ⟨g, n * 3 + 1, none⟩ = some (.int .u32 ((nodK ns n).2.1 : Int)) ∧ w.cell? ⟨g, n * 3 + 2, none⟩ = some (.int .u32 ((nodK ns n).2.2 : Int)) := by
  have h2 := h.over hb
  obtain ⟨a2, c2, e, _, h3⟩ := row_form h2.row
  subst e
  obtain ⟨g, rfl⟩ := h3 (by omega)
  refine ⟨g, c2, rfl, ag_cell h2.blk 0, fun n hn => ?_⟩
  have hl := refC_len ns (ns.length + 1)
  have hc : ∀ j, j < 3 → w.cell? ⟨g, n * 3 + j, none⟩ = (nodC (nodK ns n))[j]? := fun j hj => by
    rw [h2.row.cellAt (n * 3 + j) (by omega)]
    exact refC_at ns (ns.length + 1) n j (by omega) hj
  exact ⟨hc 0 (by omega), hc 1 (by omega), hc 2 (by omega)⟩
end Go.Proofs.Ytkomadlmonhlhaa
namespace Go.Proofs.Ytkomadlmonhlhaa
open Go.ChangeShapes Go.WideShapes Go.ChangeAt Go.RowKit Go.Lib Go.Ag Go.WideMaps Go.Maps Go.ChangeMaps Go.Cn

def MTQ (w0 : World) (Sb m : Nat) (f : Nat → Bool) (L : List Nat) (e : Ending) (w' : World) : Prop := ∃ ad cp, e = .returned (.slice ad L.length cp) ∧ SN w0 w' Sb m (f, L) (.slice ad L.length cp)
def MTP (w0 : World) (Sb m : Nat) (s : (Nat → Bool) × List Nat) (e : Ending) (w' : World) : Prop := ∃ ad cp, e = .returned (.slice ad s.2.length cp) ∧ SN w0 w' Sb m s (.slice ad s.2.length cp)
set_option maxHeartbeats 8000000 in
set_option maxRecDepth 100000 in
/-- the document's meet -/
theorem rmeet_any {w0 : World} {B R : Nat} {ns : Nds} {vL : Value} (h : RG w0 B R ns vL) (hw : WFN ns) (hln : ns.length ≤ 1048576) (h32 : ∀ n a b, nodK ns n = (2, (a, b)) → a < 4294967296 ∧ b < 4294967296) (Sb m : Nat) (hm : ns.length + 1 = m) : ∀ (q n : Nat), n < q → n < m → ∀ (W : World) (s : (Nat → Bool) × List Nat) (ad : Option Addr) (cp : Nat), SN w0 W Sb m s (.slice ad s.2.length cp) → s.1 0 = true → s.2.length + cntU s.1 ns.length ≤ ns.length →
    Calls Try.prog 42 #[.pointer (some ⟨R, 0, none⟩), .int .i64 (n : Int), .slice (some ⟨Sb, 0, none⟩) m m, .slice ad s.2.length cp] W (MTP w0 Sb m (meet ns n s)) := by
  intro q
  induction q with
  | zero => exact fun n hn => absurd hn (by omega)
  | succ q ih =>
    intro n hq hn W s ad cp hS h0 hcn
    have HIH : Hid (∀ n, n < q → n < m → ∀ (W : World) (s : (Nat → Bool) × List Nat) (ad : Option Addr) (cp : Nat), SN w0 W Sb m s (.slice ad s.2.length cp) → s.1 0 = true → s.2.length + cntU s.1 ns.length ≤ ns.length → Calls Try.prog 42 #[.pointer (some ⟨R, 0, none⟩), .int .i64 (n : Int), .slice (some ⟨Sb, 0, none⟩) m m, .slice ad s.2.length cp] W (MTP w0 Sb m (meet ns n s))) := ih
    have HS : Hid (SN w0 W Sb m s (.slice ad s.2.length cp)) := hS
    clear ih hS
    by_cases hn0 : n = 0
    · subst hn0
      have HE : Hid (MTP w0 Sb m (meet ns 0 s) (.returned (.slice ad s.2.length cp)) W) := by rw [meet_met h0]; exact ⟨ad, cp, rfl, HS.out⟩
      generalize meet ns 0 s = s' at *
      generalize s.2.length = sl at *
      go_enter Try.func42, Try.ntmps42
      go_wp2
      go_ret
      exact HE.out
    · have t0 : ((n : Int) == 0) = false := by simp; omega
      have q1 : (n : Int) < (m : Int) := by omega
      obtain ⟨c1, z1⟩ := HS.out.cell (i := n) (by omega) hn
      cases hsn : s.1 n with
      | true =>
        have HE : Hid (MTP w0 Sb m (meet ns n s) (.returned (.slice ad s.2.length cp)) W) := by rw [meet_met hsn]; exact ⟨ad, cp, rfl, HS.out⟩
        rw [hsn] at c1
        generalize meet ns n s = s' at *
        generalize s.2.length = sl at *
        go_enter Try.func42, Try.ntmps42
        go_wp2
        go_ret
        exact HE.out
      | false =>
        rw [hsn] at c1
        have HM : Hid (SN w0 (W.setCell ⟨Sb, n, none⟩ (.bool true)) Sb m (updB s.1 n, s.2) (.slice ad s.2.length cp)) := HS.out.mark hn
        have hcU := cntU_in hsn (by omega) ns.length (by omega)
        have HC1 : Hid (s.2.length + cntU (updB s.1 n) ns.length + 1 ≤ ns.length) := by show _ ≤ _; omega
        have HZ1 : Hid (updB s.1 n 0 = true) := by show _ = _; rw [updB_ne _ (by omega)]; exact h0
        obtain ⟨i0, hi, hz0, hz1, hz2⟩ := info_parts (P := Try.prog) (e := 3) (z := .int .i64 0) (size := 1) (bytes := 8) (by kernel_rfl)
        rcases hkk : nodK ns n with ⟨kd, a, b⟩
        have HK : Hid (nodK ns n = (kd, (a, b))) := hkk
        have HN : Hid (∀ X, Below w0.heap.size w0 X → ∃ g cap, vL = .slice (some ⟨g, 0, none⟩) m cap ∧ X.cell? ⟨R, 0, none⟩ = some vL ∧ X.cell? ⟨g, n * 3, none⟩ = some (.int .i64 (kd : Int)) ∧ X.cell? ⟨g, n * 3 + 1, none⟩ = some (.int .u32 (a : Int)) ∧ X.cell? ⟨g, n * 3 + 2, none⟩ = some (.int .u32 (b : Int))) := fun X hX => by
          obtain ⟨g, cap, e1, e2, e3⟩ := h.node hX
          obtain ⟨e4, e5, e6⟩ := e3 n (by omega)
          rw [hkk] at e4 e5 e6
          exact ⟨g, cap, by rw [← hm]; exact e1, e2, e4, e5, e6⟩
        by_cases hk2 : kd = 2
        · subst hk2
          have hab := hw n a b hkk
          obtain ⟨ha32, hb32⟩ := h32 n a b hkk
          have qa : (a : Int) / 2 = ((a / 2 : Nat) : Int) := by omega
          have qb : (b : Int) / 2 = ((b / 2 : Nat) : Int) := by omega
          have HE : Hid (meet ns n s = (updB (meet ns (b / 2) (meet ns (a / 2) s)).1 n, (meet ns (b / 2) (meet ns (a / 2) s)).2 ++ [n]) ∧ meet ns (a / 2) (updB s.1 n, s.2) = (updB (meet ns (a / 2) s).1 n, (meet ns (a / 2) s).2) ∧ meet ns (b / 2) (updB (meet ns (a / 2) s).1 n, (meet ns (a / 2) s).2) = (updB (meet ns (b / 2) (meet ns (a / 2) s)).1 n, (meet ns (b / 2) (meet ns (a / 2) s)).2)) := ⟨meet_gate hw hsn hkk, meet_mark hw (a / 2 + 1) (a / 2) (by omega) n (by omega) s, meet_mark hw (b / 2 + 1) (b / 2) (by omega) n (by omega) (meet ns (a / 2) s)⟩
          have HA : Hid ((meet ns (a / 2) (updB s.1 n, s.2)).1 0 = true ∧ (meet ns (a / 2) (updB s.1 n, s.2)).2.length + cntU (meet ns (a / 2) (updB s.1 n, s.2)).1 ns.length + 1 ≤ ns.length) := ⟨meet_zero hw HZ1.out, by rw [meet_cnt hw (m := ns.length) (a / 2 + 1) (a / 2) (by omega) (by omega) (updB s.1 n, s.2) HZ1.out]; exact HC1.out⟩
          rw [HE.out.2.1] at HA
          have HB : Hid ((meet ns (b / 2) (updB (meet ns (a / 2) s).1 n, (meet ns (a / 2) s).2)).2.length + 1 ≤ ns.length) := by
            have h5 := meet_cnt hw (m := ns.length) (b / 2 + 1) (b / 2) (by omega) (by omega) (updB (meet ns (a / 2) s).1 n, (meet ns (a / 2) s).2) HA.out.1
            have h6 : (updB (meet ns (a / 2) s).1 n, (meet ns (a / 2) s).2).2.length + cntU (updB (meet ns (a / 2) s).1 n, (meet ns (a / 2) s).2).1 ns.length + 1 ≤ ns.length := HA.out.2
            show _ ≤ _
            omega
          rw [HE.out.2.2] at HB
          have HCa : Hid (Calls Try.prog 42 #[.pointer (some ⟨R, 0, none⟩), .int .i64 ((a / 2 : Nat) : Int), .slice (some ⟨Sb, 0, none⟩) m m, .slice ad s.2.length cp] (W.setCell ⟨Sb, n, none⟩ (.bool true)) (MTQ w0 Sb m (updB (meet ns (a / 2) s).1 n) (meet ns (a / 2) s).2)) := by
            have h5 := HIH.out (a / 2) (by omega) (by omega) _ (updB s.1 n, s.2) ad cp HM.out HZ1.out (Nat.le_of_succ_le HC1.out)
            rw [HE.out.2.1] at h5
            exact h5
          have HCb : Hid (∀ X ad2 cp2, SN w0 X Sb m (updB (meet ns (a / 2) s).1 n, (meet ns (a / 2) s).2) (.slice ad2 (meet ns (a / 2) s).2.length cp2) → Calls Try.prog 42 #[.pointer (some ⟨R, 0, none⟩), .int .i64 ((b / 2 : Nat) : Int), .slice (some ⟨Sb, 0, none⟩) m m, .slice ad2 (meet ns (a / 2) s).2.length cp2] X (MTQ w0 Sb m (updB (meet ns (b / 2) (meet ns (a / 2) s)).1 n) (meet ns (b / 2) (meet ns (a / 2) s)).2)) := fun X ad2 cp2 hX => by
            have h5 := HIH.out (b / 2) (by omega) (by omega) X (updB (meet ns (a / 2) s).1 n, (meet ns (a / 2) s).2) ad2 cp2 hX HA.out.1 (by have := HA.out.2; omega)
            rw [HE.out.2.2] at h5
            exact h5
          have hE1 := HE.out.1
          rw [hE1]
          clear hE1 HIH HK HE HZ1 HC1 hcU hab hkk hq
          generalize meet ns (b / 2) (meet ns (a / 2) s) = s2 at *
          generalize meet ns (a / 2) s = s1 at *
          generalize a / 2 = a2 at *
          generalize b / 2 = b2 at *
          obtain ⟨W1, hW1⟩ : ∃ W1, W.setCell ⟨Sb, n, none⟩ (.bool true) = W1 := ⟨_, rfl⟩
          have HW1e : Hid (W.setCell ⟨Sb, n, none⟩ (.bool true) = W1) := hW1
          rw [hW1] at HM HCa
          obtain ⟨g, cap, hvL, x0, x1, x2, x3⟩ := HN.out W1 HM.out.bel
          subst hvL
          clear hW1
          generalize hsl : s.2.length = sl at *
          generalize hsl1 : s1.2.length = sl1 at *
          clear hsl
          go_enter Try.func42, Try.ntmps42
          go_upto_region 4 with fail
          rw [HW1e.out]
          clear HW1e c1 z1
          go_wp2_with fail
          refine HCa.out.mono ?_
          rintro e W2 ⟨ad2, cp2, he2, hs2⟩
          rw [hsl1] at he2
          subst he2
          rw [hsl1] at hs2
          have HS2 : Hid (SN w0 W2 Sb m (updB s1.1 n, s1.2) (.slice ad2 sl1 cp2)) := hs2
          clear hs2 HCa x0 x1 x2 x3
          obtain ⟨g', cap', hvL, x0, x1, x2, x3⟩ := HN.out W2 HS2.out.bel
          cases hvL
          go_wp2_with fail
          refine (HCb.out _ ad2 cp2 HS2.out).mono ?_
          rintro e W3 ⟨ad3, cp3, rfl, hs3⟩
          have HS3 : Hid (SN w0 W3 Sb m (updB s2.1 n, s2.2) (.slice ad3 s2.2.length cp3)) := hs3
          clear hs3 HCb HS2 x0 x1 x2 x3
          have HT : Hid (∀ W4 g4 cap4, W4.ownsRow w0.heap.size 3 1 (.slice (some ⟨g4, 0, none⟩) (s2.2.length + 1) cap4) (s2.2.length + 1) (natV s2.2 ++ [.int .i64 (n : Int)]) → (W3.alloc (.cells #[.int .i64 (n : Int)] 3)).grownBy W4 (Value.slice ad3 s2.2.length cp3).ownBlock → MTP w0 Sb m (updB s2.1 n, s2.2 ++ [n]) (.returned (.slice (some ⟨g4, 0, none⟩) (s2.2.length + 1) cap4)) W4) := fun W4 g4 cap4 h1 h2 => by
            have h3 := HS3.out.tell (x := n) rfl h1 h2
            have e : (updB s2.1 n, s2.2 ++ [n]).2.length = s2.2.length + 1 := by simp
            unfold MTP
            rw [e]
            exact ⟨_, _, rfl, h3⟩
          have HO : Hid (W3.ownsRow w0.heap.size 3 1 (.slice ad3 s2.2.length cp3) s2.2.length (natV s2.2)) := HS3.out.lst
          have HBs : Hid (w0.heap.size ≤ W3.heap.size) := HS3.out.bel.size
          have hB2 : s2.2.length + 1 ≤ ns.length := HB.out
          clear HS3 HB HN HA
          generalize natV s2.2 = nv at *
          generalize hs2l : s2.2.length = n2 at *
          clear hs2l
          go_wp2_with (at_builtin; refine wpList_append_lies _ rfl _ _ 23 rfl w0.heap.size 3 i0 (.int .i64 0) 1 8 Try.underlying23 hi hz0 hz1 hz2 rfl (by omega) (.slice ad3 n2 cp3) n2 nv rfl (HO.out.alloc _) ⟨W3.heap.size, 0, none⟩ 1 1 [.int .i64 (n : Int)] rfl rfl (one_new _ _ _) (by intro u hu; simp at hu; subst hu; rfl) (by omega) (by unfold maxLen; omega) (by omega) (by have := HBs.out; simp; omega) (W3.heap.size + 1) (by simp) ?_; intro g4 cap4 W4 hown4 hgrow4 hat4 hlt4; have HZ : Hid _ := HT.out W4 g4 cap4 hown4 hgrow4; clear hown4 hgrow4 hat4 hlt4)
          go_ret
          exact HZ.out
        · have t2 : ((kd : Int) == 2) = false := by simp; omega
          have HE : Hid (meet ns n s = (updB s.1 n, s.2 ++ [n])) := meet_leaf hsn (by rw [hkk]; exact hk2)
          have hE1 := HE.out
          rw [hE1]
          clear hE1 HIH HK HE HZ1 hkk hq
          obtain ⟨W1, hW1⟩ : ∃ W1, W.setCell ⟨Sb, n, none⟩ (.bool true) = W1 := ⟨_, rfl⟩
          have HW1e : Hid (W.setCell ⟨Sb, n, none⟩ (.bool true) = W1) := hW1
          rw [hW1] at HM
          obtain ⟨g, cap, hvL, x0, x1, x2, x3⟩ := HN.out W1 HM.out.bel
          subst hvL
          clear hW1
          have HT : Hid (∀ W4 g4 cap4, W4.ownsRow w0.heap.size 3 1 (.slice (some ⟨g4, 0, none⟩) (s.2.length + 1) cap4) (s.2.length + 1) (natV s.2 ++ [.int .i64 (n : Int)]) → (W1.alloc (.cells #[.int .i64 (n : Int)] 3)).grownBy W4 (Value.slice ad s.2.length cp).ownBlock → MTP w0 Sb m (updB s.1 n, s.2 ++ [n]) (.returned (.slice (some ⟨g4, 0, none⟩) (s.2.length + 1) cap4)) W4) := fun W4 g4 cap4 h1 h2 => by
            have h3 := HM.out.tell (x := n) rfl h1 h2
            have e : (updB s.1 n, s.2 ++ [n]).2.length = s.2.length + 1 := by simp
            unfold MTP
            rw [e]
            exact ⟨_, _, rfl, h3⟩
          have HO : Hid (W1.ownsRow w0.heap.size 3 1 (.slice ad s.2.length cp) s.2.length (natV s.2)) := HM.out.lst
          have HBs : Hid (w0.heap.size ≤ W1.heap.size) := HM.out.bel.size
          have hB2 : s.2.length + 1 ≤ ns.length := by have := HC1.out; omega
          clear HM HN HS HC1 hcU hcn
          generalize natV s.2 = nv at *
          generalize hs2l : s.2.length = n2 at *
          clear hs2l
          go_enter Try.func42, Try.ntmps42
          go_upto_region 4 with fail
          rw [HW1e.out]
          clear HW1e c1 z1
          go_wp2_with (at_builtin; refine wpList_append_lies _ rfl _ _ 23 rfl w0.heap.size 3 i0 (.int .i64 0) 1 8 Try.underlying23 hi hz0 hz1 hz2 rfl (by omega) (.slice ad n2 cp) n2 nv rfl (HO.out.alloc _) ⟨W1.heap.size, 0, none⟩ 1 1 [.int .i64 (n : Int)] rfl rfl (one_new _ _ _) (by intro u hu; simp at hu; subst hu; rfl) (by omega) (by unfold maxLen; omega) (by omega) (by have := HBs.out; simp; omega) (W1.heap.size + 1) (by simp) ?_; intro g4 cap4 W4 hown4 hgrow4 hat4 hlt4; have HZ : Hid _ := HT.out W4 g4 cap4 hown4 hgrow4; clear hown4 hgrow4 hat4 hlt4)
          go_ret
          exact HZ.out
end Go.Proofs.Ytkomadlmonhlhaa
namespace Go.Proofs.Ytkomadlmonhlhaa
open Go.ChangeShapes Go.WideShapes Go.ChangeAt Go.RowKit Go.Lib Go.Ag Go.WideMaps Go.Maps Go.ChangeMaps Go.Cn

def coneF (ns : Nds) (ls : List Nat) (k : Nat) : (Nat → Bool) × List Nat := (ls.take k).foldl (fun s l => meet ns (l / 2) s) (met0, [])
theorem coneF_zero (ns : Nds) (ls : List Nat) : coneF ns ls 0 = (met0, []) := rfl
theorem coneF_succ (ns : Nds) (ls : List Nat) {k : Nat} (h : k < ls.length) : coneF ns ls (k + 1) = meet ns (ls.getD k 0 / 2) (coneF ns ls k) := by
  unfold coneF
  rw [List.take_add_one, List.getElem?_eq_getElem h, List.foldl_append, List.getD_eq_getElem?_getD, List.getElem?_eq_getElem h]
  rfl
theorem coneF_all (ns : Nds) (ls : List Nat) : coneF ns ls ls.length = coneS ns ls := by unfold coneF coneS; rw [List.take_length]
set_option maxHeartbeats 8000000 in
set_option maxRecDepth 100000 in
/-- the document's cone -/
theorem rcone_ok (w : World) {B R : Nat} {ns : Nds} {vL : Value} (h : RG w B R ns vL) (hgs : GS ns) (hln : ns.length ≤ 1048576) (h32 : ∀ n a b, nodK ns n = (2, (a, b)) → a < 4294967296 ∧ b < 4294967296) (aR : Option Addr) (ls : List Nat) (cR : Nat) (hR : U32s w aR ls) (hl32 : ∀ l ∈ ls, l < 4294967296) (hbd : ∀ l ∈ ls, l / 2 ≤ ns.length) (hrn : ls.length ≤ 1000000000000) :
    Calls Try.prog 20 #[.pointer (some ⟨R, 0, none⟩), .slice aR ls.length cR] w fun e w' => ∃ ad cp, e = .returned (.tuple #[.slice ad (coneS ns ls).2.length cp, .int .i64 0]) ∧ Below w.heap.size w w' ∧ w'.ownsRow w.heap.size 3 1 (.slice ad (coneS ns ls).2.length cp) (coneS ns ls).2.length (natV (coneS ns ls).2) := by
  obtain ⟨i2, hi2, hz2, hs2, hb2⟩ := info_parts (P := Try.prog) (e := 4) (z := .bool false) (size := 1) (bytes := 1) (by kernel_rfl)
  obtain ⟨c, hcc⟩ : ∃ c, ns.length + 1 = c := ⟨_, rfl⟩
  have HBad : Hid (Calls Try.prog 41 #[.pointer (some ⟨R, 0, none⟩), .slice aR ls.length cR] w fun e w' => e = .returned (.bool false) ∧ w' = w) := rbad_ok w h (by omega) aR ls cR hR hbd hrn
  have eB : ∀ W : World, (Instr.makeSlice 49 (.int .i64 (c : Int)) (.int .i64 (c : Int))).run Try.prog W = .ok (.slice (some ⟨W.heap.size, 0, none⟩) c c) (W.alloc (.cells (madeCells (Value.bool false).cells (c * 1)) 4)) := fun W => by
    have := run_make (P := Try.prog) (w := W) 49 4 i2 (.bool false) Try.underlying49 hi2 hz2 .i64 .i64 (c : Int) (c : Int) (by omega) (by omega) (by rw [hb2]; omega) (by omega)
    rw [hs2] at this
    simpa using this
  have HMt : Hid (∀ (n : Nat), n < c → ∀ (W : World) (s : (Nat → Bool) × List Nat) (ad : Option Addr) (cp : Nat), SN w W w.heap.size c s (.slice ad s.2.length cp) → s.1 0 = true → s.2.length + cntU s.1 ns.length ≤ ns.length → Calls Try.prog 42 #[.pointer (some ⟨R, 0, none⟩), .int .i64 (n : Int), .slice (some ⟨w.heap.size, 0, none⟩) c c, .slice ad s.2.length cp] W (MTP w w.heap.size c (meet ns n s))) := fun n hn W s ad cp h1 h2 h3 => rmeet_any h (gs_wf hgs) hln h32 w.heap.size c hcc (n + 1) n (by omega) hn W s ad cp h1 h2 h3
  have HU : Hid (U32s w aR ls ∧ (∀ l ∈ ls, l < 4294967296) ∧ (∀ l ∈ ls, l / 2 ≤ ns.length)) := ⟨hR, hl32, hbd⟩
  have HW : Hid (WFN ns) := gs_wf hgs
  obtain ⟨g, cap, hvL, x0, _⟩ := h.node (Below.refl _ w)
  subst hvL
  rw [hcc] at x0
  obtain ⟨w1, hw1⟩ : ∃ w1, w.alloc (.cells (madeCells #[Value.bool false] c) 4) = w1 := ⟨_, rfl⟩
  have HS1 : Hid (SN w w1 w.heap.size c (met0, []) (.slice none 0 0)) := by
    rw [← hw1]
    refine ⟨ag_bel1 _ _, ⟨_, heap_alloc_new _ _, by rw [size_madeCells], fun i h0 hi => ?_⟩, Nat.le_refl _, ⟨rfl, .inl ⟨rfl, rfl⟩⟩⟩
    have e : met0 i = false := by unfold met0; rw [updB_ne _ (by omega)]
    show _ = some (Value.bool (met0 i))
    rw [e]
    have h9 := made_at (.bool false) c hi rfl
    rw [Nat.mul_one] at h9
    exact h9
  have HW1e : Hid (w.alloc (.cells (madeCells #[Value.bool false] c) 4) = w1) := hw1
  have HEnd : Hid (∀ W ad cp, SN w W w.heap.size c (coneF ns ls ls.length) (.slice ad (coneF ns ls ls.length).2.length cp) → Below w.heap.size w W ∧ W.ownsRow w.heap.size 3 1 (.slice ad (coneS ns ls).2.length cp) (coneS ns ls).2.length (natV (coneS ns ls).2)) := fun W ad cp h => by rw [coneF_all] at h; exact ⟨h.bel, h.lst⟩
  have HEq : Hid ((coneF ns ls ls.length).2.length = (coneS ns ls).2.length) := by show _ = _; rw [coneF_all]
  have HNx : Hid (∀ k, k < ls.length → coneF ns ls (k + 1) = meet ns (ls.getD k 0 / 2) (coneF ns ls k)) := fun k hk => coneF_succ ns ls hk
  have HCt : Hid (∀ k, k ≤ ls.length → (coneF ns ls k).1 0 = true ∧ (coneF ns ls k).2.length + cntU (coneF ns ls k).1 ns.length ≤ ns.length) := fun k => by
    induction k with
    | zero => exact fun _ => ⟨rfl, by rw [coneF_zero]; show 0 + cntU met0 ns.length ≤ _; have := cntU_le met0 ns.length; omega⟩
    | succ k ih =>
      intro hk
      obtain ⟨h1, h2⟩ := ih (by omega)
      rw [coneF_succ ns ls (by omega)]
      refine ⟨meet_zero HW.out h1, ?_⟩
      rw [meet_cnt HW.out (m := ns.length) _ _ (Nat.lt_succ_self _) (hbd _ (by rw [List.getD_eq_getElem?_getD, List.getElem?_eq_getElem (by omega)]; exact List.getElem_mem _)) _ h1]
      exact h2
  obtain ⟨n, hnn⟩ : ∃ n, ls.length = n := ⟨_, rfl⟩
  have HL : Hid (ls.length = n) := hnn
  clear h hgs hR hl32 hbd hw1
  rw [hnn] at HBad HEnd HEq HNx HCt hrn
  rw [hnn]
  clear hnn
  generalize (coneS ns ls).2 = cn at *
  generalize hcl : cn.length = cl at *
  go_enter Try.func20, Try.ntmps20
  go_wp2_with fail
  refine HBad.out.mono ?_
  rintro e w' ⟨rfl, hw'⟩
  obtain rfl := hw'.symm
  go_wp2_with fail
  try rw [HW1e.out]
  clear HBad eB x0 HW1e
  go_loopg [6, 8] n (fun gk v6 v8 wr => ∃ k : Nat, ∃ ad cp, v6 = .slice ad (coneF ns ls k).2.length cp ∧ v8 = .int .i64 (k : Int) ∧ k + gk = n ∧ Aside (SN w wr w.heap.size c (coneF ns ls k) (.slice ad (coneF ns ls k).2.length cp)))
  case atStart => exact ⟨0, none, 0, rfl, rfl, by omega, HS1.out⟩
  case round =>
    clear HS1
    obtain ⟨k, ad, cp, rfl, rfl, hk, HR⟩ := hrel
    by_cases hlt : k < n
    · obtain ⟨b, off, rfl, hb, hc⟩ := HU.out.1 (by rw [HL.out]; omega)
      have hmem : ls.getD k 0 ∈ ls := by rw [List.getD_eq_getElem?_getD, List.getElem?_eq_getElem (by rw [HL.out]; exact hlt)]; exact List.getElem_mem _
      have ck := (HR.out.bel.cell (p := ⟨b, off + k, none⟩) hb).trans (hc k (by rw [HL.out]; exact hlt))
      have hl3 := HU.out.2.1 _ hmem
      have hl4 := HU.out.2.2 _ hmem
      obtain ⟨s0, s1⟩ := HCt.out k (by omega)
      have HCl : Hid (Calls Try.prog 42 #[.pointer (some ⟨R, 0, none⟩), .int .i64 ((ls.getD k 0 / 2 : Nat) : Int), .slice (some ⟨w.heap.size, 0, none⟩) c c, .slice ad (coneF ns ls k).2.length cp] wr (MTP w w.heap.size c (coneF ns ls (k + 1)))) := by
        rw [HNx.out k hlt]
        exact HMt.out _ (by omega) wr (coneF ns ls k) ad cp HR.out s0 s1
      clear hc hmem HR s0 s1
      obtain ⟨F1, hF1⟩ : ∃ F1, coneF ns ls (k + 1) = F1 := ⟨_, rfl⟩
      have HF1 : Hid (coneF ns ls (k + 1) = F1) := hF1
      rw [hF1] at HCl
      clear hF1
      generalize (coneF ns ls k).2.length = f0 at *
      generalize ls.getD k 0 = l at *
      have qa : (l : Int) / 2 = ((l / 2 : Nat) : Int) := by omega
      have q1 : (k : Int) < (n : Int) := by omega
      generalize l / 2 = l2 at *
      go_wp2_with fail
      refine HCl.out.mono ?_
      rintro e w' ⟨ad2, cp2, rfl, hs⟩
      have HS2 : Aside (SN w w' w.heap.size c (coneF ns ls (k + 1)) (.slice ad2 (coneF ns ls (k + 1)).2.length cp2)) := by rw [HF1.out]; exact hs
      clear hs HCl
      go_wp2_with fail
      go_roundg (gk - 1)
      case measure => omega
      case rel => exact ⟨k + 1, ad2, cp2, by rw [HF1.out], by simp, by omega, HS2⟩
    · obtain rfl : k = n := by omega
      have q1 : ¬ (k : Int) < (k : Int) := by omega
      have HZ : Hid _ := HEnd.out wr ad cp HR.out
      rw [HEq.out]
      clear HR
      go_wp2_with fail
      go_ret2
      exact ⟨ad, cp, rfl, HZ.out⟩
end Go.Proofs.Ytkomadlmonhlhaa
namespace Go.Proofs.Ytkomadlmonhlhaa
open Go.ChangeShapes Go.WideShapes Go.ChangeAt Go.RowKit Go.Lib Go.Ag Go.WideMaps Go.Maps Go.ChangeMaps Go.Cn

theorem vN_step {cn : List Nat} (hd : cn.Nodup) {k n : Nat} (h : cn[k]? = some n) (y : Nat) : vN (cn.take (k + 1)) y = if y = n then k + 1 else vN (cn.take k) y := by
  have hk : k < cn.length := (List.getElem?_eq_some_iff.1 h).1
  have e : cn.take (k + 1) = cn.take k ++ [n] := by rw [List.take_add_one, h]; rfl
  have hl : (cn.take k).length = k := by rw [List.length_take]; omega
  have hd2 : (cn.take k ++ [n]).Nodup := by rw [← e]; exact hd.sublist (List.take_sublist _ _)
  have hni : n ∉ cn.take k := fun hn => (List.nodup_append.1 hd2).2.2 n hn n (by simp) rfl
  rw [e]
  unfold vN
  by_cases hy : y = n
  · subst hy
    rw [if_pos (by simp), if_pos rfl, List.idxOf_append, if_neg hni, hl]
    simp
  · rw [if_neg hy]
    by_cases hm : y ∈ cn.take k
    · rw [if_pos (List.mem_append_left _ hm), if_pos hm, List.idxOf_append, if_pos hm]
    · rw [if_neg (by simp [hm, hy]), if_neg hm]
/-- the variables' row -/
def VR (w : World) (Vb c : Nat) (cn : List Nat) : Prop := ∃ cs : Array Value, w.heap[Vb]? = some (.cells cs 3 (0, 0)) ∧ cs.size = c ∧ ∀ i, i < c → cs[i]? = some (.int .i64 (vN cn i : Int))
theorem VR.over {w w' : World} {Vb c : Nat} {cn : List Nat} (h : VR w Vb c cn) (hb : Below w.heap.size w w') : VR w' Vb c cn := by
  obtain ⟨cs, h1, h2, h3⟩ := h
  exact ⟨cs, (hb.block _ (Array.getElem?_eq_some_iff.1 h1).1).trans h1, h2, h3⟩
theorem VR.keep {w w' : World} {Vb c : Nat} {cn : List Nat} (h : VR w Vb c cn) (hb : w'.heap[Vb]? = w.heap[Vb]?) : VR w' Vb c cn := by
  obtain ⟨cs, h1, h2, h3⟩ := h
  exact ⟨cs, hb.trans h1, h2, h3⟩
theorem VR.cell {w : World} {Vb c : Nat} {cn : List Nat} (h : VR w Vb c cn) {i : Nat} (hi : i < c) : w.cell? ⟨Vb, i, none⟩ = some (.int .i64 (vN cn i : Int)) ∧ w.frozen? ⟨Vb, i, none⟩ = false := by
  obtain ⟨cs, h1, h2, h3⟩ := h
  exact ⟨(ag_cell h1 i).trans (h3 i hi), ag_fz h1 i⟩
theorem VR.step {w0 w : World} {Vb c : Nat} {cn : List Nat} (hd : cn.Nodup) {k n : Nat} (hk : cn[k]? = some n) (hn : n < c) (hlo : w0.heap.size ≤ Vb) (h : VR w Vb c (cn.take k) ∧ Below w0.heap.size w0 w) : VR (w.setCell ⟨Vb, n, none⟩ (.int .i64 ((k : Int) + 1))) Vb c (cn.take (k + 1)) ∧ Below w0.heap.size w0 (w.setCell ⟨Vb, n, none⟩ (.int .i64 ((k : Int) + 1))) := by
  obtain ⟨⟨cs, h1, h2, h3⟩, hb⟩ := h
  refine ⟨⟨cs.setIfInBounds n (.int .i64 ((k : Int) + 1)), heap_setCell_same _ Vb n _ _ _ h1, by simpa using h2, fun i hi => ?_⟩, ⟨hb.os, hb.tape, hb.output, by have := hb.size; simp; omega, fun j hj => (heap_setCell_other _ _ _ _ (fun e => by have e' : j = Vb := e; omega)).trans (hb.block j hj)⟩⟩
  rw [vN_step hd hk]
  by_cases e : i = n
  · subst e
    rw [if_pos rfl, Array.getElem?_setIfInBounds_self_of_lt (by omega)]
    simp
  · rw [if_neg e, Array.getElem?_setIfInBounds_ne (by omega)]
    exact h3 i hi
set_option maxHeartbeats 8000000 in
set_option maxRecDepth 100000 in
/-- the document's vars -/
theorem rvars_ok (w : World) {B R : Nat} {ns : Nds} {vL : Value} (h : RG w B R ns vL) (hln : ns.length ≤ 1048576) (aC : Option Addr) (cn : List Nat) (cC : Nat) (hC : Nts w aC cn) (hd : cn.Nodup) (hbd : ∀ n ∈ cn, n ≤ ns.length) (hcl : cn.length ≤ 1048576) :
    Calls Try.prog 58 #[.pointer (some ⟨R, 0, none⟩), .slice aC cn.length cC] w fun e w' => e = .returned (.slice (some ⟨w.heap.size, 0, none⟩) (ns.length + 1) (ns.length + 1)) ∧ VR w' w.heap.size (ns.length + 1) cn ∧ Below w.heap.size w w' := by
  obtain ⟨i2, hi2, hz2, hs2, hb2⟩ := info_parts (P := Try.prog) (e := 3) (z := .int .i64 0) (size := 1) (bytes := 8) (by kernel_rfl)
  obtain ⟨c, hcc⟩ : ∃ c, ns.length + 1 = c := ⟨_, rfl⟩
  have eB : ∀ W : World, (Instr.makeSlice 23 (.int .i64 (c : Int)) (.int .i64 (c : Int))).run Try.prog W = .ok (.slice (some ⟨W.heap.size, 0, none⟩) c c) (W.alloc (.cells (madeCells (Value.int .i64 0).cells (c * 1)) 3)) := fun W => by
    have := run_make (P := Try.prog) (w := W) 23 3 i2 (.int .i64 0) Try.underlying23 hi2 hz2 .i64 .i64 (c : Int) (c : Int) (by omega) (by omega) (by rw [hb2]; omega) (by omega)
    rw [hs2] at this
    simpa using this
  obtain ⟨g, cap, hvL, x0, _⟩ := h.node (Below.refl _ w)
  subst hvL
  rw [hcc] at x0
  rw [hcc]
  obtain ⟨w1, hw1⟩ : ∃ w1, w.alloc (.cells (madeCells #[Value.int .i64 0] c) 3) = w1 := ⟨_, rfl⟩
  have HS1 : Hid (VR w1 w.heap.size c (cn.take 0) ∧ Below w.heap.size w w1) := by
    rw [← hw1]
    refine ⟨⟨_, heap_alloc_new _ _, by rw [size_madeCells], fun i hi => ?_⟩, ag_bel1 _ _⟩
    have e : vN (cn.take 0) i = 0 := vN_zero (by simp)
    rw [e]
    have h9 := made_at (.int .i64 0) c hi rfl
    rw [Nat.mul_one] at h9
    exact h9
  have HW1e : Hid (w.alloc (.cells (madeCells #[Value.int .i64 0] c) 3) = w1) := hw1
  have HC : Hid (Nts w aC cn ∧ ∀ n ∈ cn, n ≤ ns.length) := ⟨hC, hbd⟩
  obtain ⟨m, hm⟩ : ∃ m, cn.length = m := ⟨_, rfl⟩
  have HM : Hid (cn.length = m) := hm
  have HD : Hid (cn.Nodup) := hd
  clear h hC hbd hw1
  rw [hm] at hcl
  rw [hm]
  clear hm
  go_enter Try.func58, Try.ntmps58
  go_wp2_with fail
  try rw [HW1e.out]
  clear eB x0 HW1e
  go_loopg [6] m (fun gk v6 wr => ∃ k : Nat, v6 = .int .i64 (k : Int) ∧ k + gk = m ∧ Aside (VR wr w.heap.size c (cn.take k) ∧ Below w.heap.size w wr))
  case atStart => exact ⟨0, rfl, by omega, HS1.out⟩
  case round =>
    clear HS1
    obtain ⟨k, rfl, hk, HR⟩ := hrel
    by_cases hlt : k < m
    · have hkl : k < cn.length := by rw [HM.out]; exact hlt
      obtain ⟨n, hn⟩ : ∃ n, cn[k]? = some n := ⟨cn[k], List.getElem?_eq_getElem hkl⟩
      have hnb := HC.out.2 n (List.mem_of_getElem? hn)
      have hnc : n < c := by omega
      obtain ⟨b, off, rfl, hb, hc⟩ := HC.out.1 (by omega)
      have ck := (HR.out.2.cell (p := ⟨b, off + k, none⟩) hb).trans (hc k hkl)
      rw [List.getD_eq_getElem?_getD, hn] at ck
      have ck : wr.cell? ⟨b, off + k, none⟩ = some (.int .i64 (n : Int)) := ck
      obtain ⟨x1, x2⟩ := HR.out.1.cell hnc
      have HN : Hid (VR (wr.setCell ⟨w.heap.size, n, none⟩ (.int .i64 ((k : Int) + 1))) w.heap.size c (cn.take (k + 1)) ∧ Below w.heap.size w (wr.setCell ⟨w.heap.size, n, none⟩ (.int .i64 ((k : Int) + 1)))) := VR.step HD.out hn hnc (Nat.le_refl _) HR.out
      have q1 : (k : Int) < (m : Int) := by omega
      have q2 : (n : Int) < (c : Int) := by omega
      clear HR hc hn
      go_wp2_with fail
      go_roundg (gk - 1)
      case measure => omega
      case rel => exact ⟨k + 1, by simp, by omega, HN.out⟩
    · obtain rfl : k = m := by omega
      have q1 : ¬ (k : Int) < (k : Int) := by omega
      have HZ : Hid (VR wr w.heap.size c cn ∧ Below w.heap.size w wr) := by
        have h5 := HR.out
        rw [List.take_of_length_le (by rw [HM.out]; exact Nat.le_refl _)] at h5
        exact h5
      clear HR
      go_wp2_with fail
      go_ret
      exact ⟨rfl, HZ.out⟩
set_option maxHeartbeats 4000000 in
/-- the document's lit -/
theorem rlit_any (w : World) {Vb c : Nat} {cn : List Nat} (h : VR w Vb c cn) (hcl : cn.length ≤ 1048576) (l : Nat) (hl : l < 4294967296) (hc : l / 2 < c) :
    Calls Try.prog 59 #[.slice (some ⟨Vb, 0, none⟩) c c, .int .u32 (l : Int)] w fun e w' => e = .returned (.int .i64 (litI cn l)) ∧ w' = w := by
  obtain ⟨x1, _⟩ := h.cell hc
  have hv := vN_le cn (l / 2)
  have q2 : (l : Int) / 2 = ((l / 2 : Nat) : Int) := by omega
  have q3 : (l : Int) % 2 = ((l % 2 : Nat) : Int) := by omega
  have q4 : ((l / 2 : Nat) : Int) < (c : Int) := by omega
  unfold litI
  generalize vN cn (l / 2) = v at *
  generalize l / 2 = q at *
  rcases Nat.mod_two_eq_zero_or_one l with e | e
  · rw [e] at q3
    rw [e, if_neg (by decide)]
    go_enter Try.func59, Try.ntmps59
    go_wp2_with fail
    go_ret
    exact ⟨rfl, rfl⟩
  · rw [e] at q3
    rw [e, if_pos rfl]
    have q5 : IntKind.i64.wrap (-(v : Int)) = -(v : Int) := by rw [IntKind.wrap_i64]; omega
    go_enter Try.func59, Try.ntmps59
    go_wp2_with fail
    go_ret
    exact ⟨rfl, rfl⟩
end Go.Proofs.Ytkomadlmonhlhaa
