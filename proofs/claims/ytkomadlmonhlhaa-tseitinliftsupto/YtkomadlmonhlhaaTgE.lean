import Derived.Test.YtkomadlmonhlhaaTgC
import Derived.Deep.Cut
namespace Go.Proofs.Ytkomadlmonhlhaa
open Go.ChangeShapes Go.WideShapes Go.ChangeAt Go.RowKit Go.Lib Go.Ag Go.WideMaps Go.Maps Go.ChangeMaps Go.Cn

theorem xor_z (a : Nat) (ha : a < 4294967296) : bits .xor .u32 (a : Int) 0 = (a : Int) := by
  show IntKind.u32.wrap ((BitVec.ofInt 32 (a : Int) ^^^ BitVec.ofInt 32 0).toNat : Int) = _
  have h1 : (BitVec.ofInt 32 (a : Int)).toNat = a := by
    rw [BitVec.toNat_ofInt]
    omega
  have h2 : (BitVec.ofInt 32 0).toNat = 0 := rfl
  rw [BitVec.toNat_xor, h1, h2, Nat.xor_zero, IntKind.wrap_u32]
  omega
theorem wv_look (s : Nat → Bool) (l : Nat) : bits .and .i64 (wv s (l / 2)) (1 + ((l % 2 : Nat) : Int)) = (if s l = true then 1 + ((l % 2 : Nat) : Int) else 0) := by
  unfold wv
  rcases Nat.mod_two_eq_zero_or_one l with e | e
  · have e1 : 2 * (l / 2) = l := by omega
    rw [e, e1]
    cases s l <;> cases s (l + 1) <;> decide
  · have e1 : 2 * (l / 2) + 1 = l := by omega
    have e2 : 2 * (l / 2) = l - 1 := by omega
    rw [e, e1, e2]
    cases s l <;> cases s (l - 1) <;> decide
theorem wv_put (s : Nat → Bool) (l : Nat) (h : s l = false) : bits .or .i64 (wv s (l / 2)) (1 + ((l % 2 : Nat) : Int)) = wv (updB s l) (l / 2) := by
  unfold wv
  rcases Nat.mod_two_eq_zero_or_one l with e | e
  · have e1 : 2 * (l / 2) = l := by omega
    rw [e, e1, h, updB_self, updB_ne _ (show l + 1 ≠ l by omega)]
    cases s (l + 1) <;> decide
  · have e1 : 2 * (l / 2) + 1 = l := by omega
    have e2 : 2 * (l / 2) = l - 1 := by omega
    rw [e, e1, e2, h, updB_self, updB_ne _ (show l - 1 ≠ l by omega)]
    cases s (l - 1) <;> decide
theorem wv_other (s : Nat → Bool) {l i : Nat} (h : i ≠ l / 2) : wv (updB s l) i = wv s i := by
  unfold wv
  rw [updB_ne _ (show 2 * i ≠ l by omega), updB_ne _ (show 2 * i + 1 ≠ l by omega)]
/-- the document's marks in memory -/
structure WR (w0 w : World) (Qb c : Nat) (s : Nat → Bool) : Prop where
  bel : Below w0.heap.size w0 w
  lo : w0.heap.size ≤ Qb
  row : ∃ cs : Array Value, w.heap[Qb]? = some (.cells cs 3 (0, 0)) ∧ cs.size = c ∧ ∀ i, i < c → cs[i]? = some (.int .i64 (wv s i))
theorem WR.cell {w0 w : World} {Qb c : Nat} {s : Nat → Bool} (h : WR w0 w Qb c s) {i : Nat} (hi : i < c) : w.cell? ⟨Qb, i, none⟩ = some (.int .i64 (wv s i)) ∧ w.frozen? ⟨Qb, i, none⟩ = false := by
  obtain ⟨cs, h1, h2, h3⟩ := h.row
  exact ⟨(ag_cell h1 i).trans (h3 i hi), ag_fz h1 i⟩
theorem WR.put {w0 w : World} {Qb c : Nat} {s : Nat → Bool} (h : WR w0 w Qb c s) {l : Nat} (hl : l / 2 < c) : WR w0 (w.setCell ⟨Qb, l / 2, none⟩ (.int .i64 (wv (updB s l) (l / 2)))) Qb c (updB s l) := by
  obtain ⟨cs, h1, h2, h3⟩ := h.row
  refine ⟨⟨h.bel.os, h.bel.tape, h.bel.output, by have := h.bel.size; simp; omega, fun j hj => (heap_setCell_other _ _ _ _ (fun e => by have e' : j = Qb := e; have := h.lo; omega)).trans (h.bel.block j hj)⟩, h.lo, ⟨cs.setIfInBounds (l / 2) (.int .i64 (wv (updB s l) (l / 2))), heap_setCell_same _ Qb _ _ _ _ h1, by simpa using h2, fun i hi => ?_⟩⟩
  by_cases e : i = l / 2
  · subst e
    rw [Array.getElem?_setIfInBounds_self_of_lt (by omega)]
  · rw [Array.getElem?_setIfInBounds_ne (by omega), wv_other s e]
    exact h3 i hi
theorem WR.wd {w0 w : World} {Qb c : Nat} {s : Nat → Bool} (h : WR w0 w Qb c s) : WD w Qb c s := by
  obtain ⟨cs, h1, h2, h3⟩ := h.row
  exact ⟨(Array.getElem?_eq_some_iff.1 h1).1, fun i hi => (h.cell hi).1⟩
theorem xs_lt {a l m : Nat} (h : a < 2 * m + 2) : xs a l < 2 * m + 2 := by
  unfold xs
  split
  · split <;> omega
  · exact h
/-- the sign of a literal put onto another -/
theorem xor_xs (a l : Nat) (ha : a < 4294967296) : bits .xor .u32 (a : Int) ((l % 2 : Nat) : Int) = ((xs a l : Nat) : Int) := by
  unfold xs
  rcases Nat.mod_two_eq_zero_or_one l with e | e
  · rw [e, if_neg (by omega)]
    exact xor_z a ha
  · rw [e, if_pos rfl]
    have h := (xor1_u32 a ha).1
    rw [show ((1 : Nat) : Int) = 1 from rfl, h]
    have h1 := not_half a
    have h2 : notN a % 2 = (a + 1) % 2 := by
      have h3 := Nat.testBit_xor a 1 0
      rw [Nat.testBit_zero, Nat.testBit_zero, Nat.testBit_zero] at h3
      unfold notN
      rcases Nat.mod_two_eq_zero_or_one a with e4 | e4 <;> rcases Nat.mod_two_eq_zero_or_one (a ^^^ 1) with e5 | e5 <;> simp [e4, e5] at h3 <;> omega
    congr 1
    split <;> omega
end Go.Proofs.Ytkomadlmonhlhaa
namespace Go.Proofs.Ytkomadlmonhlhaa
open Go.ChangeShapes Go.WideShapes Go.ChangeAt Go.RowKit Go.Lib Go.Ag Go.WideMaps Go.Maps Go.ChangeMaps Go.Cn

theorem xs32 {a l : Nat} (h : a < 4294967296) : xs a l < 4294967296 := by
  unfold xs
  split
  · split <;> omega
  · exact h
def MKP (w0 : World) (Qb m : Nat) (s : Nat → Bool) (e : Ending) (w' : World) : Prop := e = .returned (.tuple #[]) ∧ WR w0 w' Qb m s
set_option maxHeartbeats 8000000 in
set_option maxRecDepth 100000 in
/-- the document's mark -/
theorem rmark_any {w0 : World} {B R : Nat} {ns : Nds} {vL : Value} (h : RG w0 B R ns vL) (hw : WFN ns) (hln : ns.length ≤ 1048576) (h32 : ∀ n a b, nodK ns n = (2, (a, b)) → a < 4294967296 ∧ b < 4294967296) (Qb m : Nat) (hm : ns.length + 1 = m) : ∀ (q l : Nat), l / 2 < q → l < 4294967296 → l / 2 < m → ∀ (W : World) (s : Nat → Bool), WR w0 W Qb m s →
    Calls Try.prog 36 #[.pointer (some ⟨R, 0, none⟩), .slice (some ⟨Qb, 0, none⟩) m m, .int .u32 (l : Int)] W (MKP w0 Qb m (mk ns l s)) := by
  intro q
  induction q with
  | zero => exact fun n hn => absurd hn (by omega)
  | succ q ih =>
    intro l hq hl hn W s hS
    have HIH : Hid (∀ l, l / 2 < q → l < 4294967296 → l / 2 < m → ∀ (W : World) (s : Nat → Bool), WR w0 W Qb m s → Calls Try.prog 36 #[.pointer (some ⟨R, 0, none⟩), .slice (some ⟨Qb, 0, none⟩) m m, .int .u32 (l : Int)] W (MKP w0 Qb m (mk ns l s))) := ih
    have HS : Hid (WR w0 W Qb m s) := hS
    clear ih hS
    obtain ⟨c1, z1⟩ := HS.out.cell hn
    have p1 : l % 2 < 2 := Nat.mod_lt _ (by decide)
    have q2 : (l : Int) / 2 = ((l / 2 : Nat) : Int) := by omega
    have q3 : bits .and .u32 (l : Int) 1 = ((l % 2 : Nat) : Int) := and1_u32 l hl
    have q4 : ((l / 2 : Nat) : Int) < (m : Int) := by omega
    have zb := wv_look s l
    cases hsn : s l with
    | true =>
      have HE : Hid (MKP w0 Qb m (mk ns l s) (.returned (.tuple #[])) W) := by rw [mk_met hsn]; exact ⟨rfl, HS.out⟩
      rw [hsn, if_pos rfl] at zb
      have t1 : (((1 : Int) + ((l % 2 : Nat) : Int)) == 0) = false := by simp; omega
      generalize mk ns l s = s' at *
      generalize wv s (l / 2) = x at *
      generalize l / 2 = n at *
      generalize l % 2 = p at *
      go_enter Try.func36, Try.ntmps36
      go_wp2_with fail
      go_end0
      exact HE.out
    | false =>
      have zp := wv_put s l hsn
      rw [hsn, if_neg (by decide)] at zb
      have HM : Hid (WR w0 (W.setCell ⟨Qb, l / 2, none⟩ (.int .i64 (wv (updB s l) (l / 2)))) Qb m (updB s l)) := HS.out.put hn
      rcases hkk : nodK ns (l / 2) with ⟨kd, a, b⟩
      have HN : Hid (∀ X, Below w0.heap.size w0 X → ∃ g cap, vL = .slice (some ⟨g, 0, none⟩) m cap ∧ X.cell? ⟨R, 0, none⟩ = some vL ∧ X.cell? ⟨g, l / 2 * 3, none⟩ = some (.int .i64 (kd : Int)) ∧ X.cell? ⟨g, l / 2 * 3 + 1, none⟩ = some (.int .u32 (a : Int)) ∧ X.cell? ⟨g, l / 2 * 3 + 2, none⟩ = some (.int .u32 (b : Int))) := fun X hX => by
        obtain ⟨g, cap, e1, e2, e3⟩ := h.node hX
        obtain ⟨e4, e5, e6⟩ := e3 (l / 2) (by omega)
        rw [hkk] at e4 e5 e6
        exact ⟨g, cap, by rw [← hm]; exact e1, e2, e4, e5, e6⟩
      obtain ⟨W1, hW1⟩ : ∃ W1, W.setCell ⟨Qb, l / 2, none⟩ (.int .i64 (wv (updB s l) (l / 2))) = W1 := ⟨_, rfl⟩
      have HW1e : Hid (W.setCell ⟨Qb, l / 2, none⟩ (.int .i64 (wv (updB s l) (l / 2))) = W1) := hW1
      rw [hW1] at HM
      obtain ⟨g, cap, hvL, x0, x1, x2, x3⟩ := HN.out W1 HM.out.bel
      subst hvL
      clear hW1 HS
      by_cases hk2 : kd = 2
      · subst hk2
        have hab := hw (l / 2) a b hkk
        obtain ⟨ha32, hb32⟩ := h32 (l / 2) a b hkk
        have xa := xor_xs a l ha32
        have xb := xor_xs b l hb32
        have da := xs_div a l
        have db := xs_div b l
        have ua : xs a l < 4294967296 := by exact xs32 ha32
        have ub : xs b l < 4294967296 := by exact xs32 hb32
        have HCa : Hid (Calls Try.prog 36 #[.pointer (some ⟨R, 0, none⟩), .slice (some ⟨Qb, 0, none⟩) m m, .int .u32 ((xs a l : Nat) : Int)] W1 (MKP w0 Qb m (mk ns (xs a l) (updB s l)))) := HIH.out (xs a l) (by omega) ua (by omega) _ _ HM.out
        have HCb : Hid (∀ X s1, WR w0 X Qb m s1 → Calls Try.prog 36 #[.pointer (some ⟨R, 0, none⟩), .slice (some ⟨Qb, 0, none⟩) m m, .int .u32 ((xs b l : Nat) : Int)] X (MKP w0 Qb m (mk ns (xs b l) s1))) := fun X s1 hX => HIH.out (xs b l) (by omega) ub (by omega) _ _ hX
        rw [mk_gate hw hsn hkk]
        clear HIH hkk hq hab ua ub da db
        generalize mk ns (xs a l) (updB s l) = s1 at *
        have HCb : Hid _ := HCb.out
        generalize xs a l = va at *
        generalize xs b l = vb at *
        generalize wv (updB s l) (l / 2) = y at *
        generalize wv s (l / 2) = x at *
        generalize l / 2 = n at *
        generalize l % 2 = p at *
        go_enter Try.func36, Try.ntmps36
        go_upto_region 4 with fail
        rw [HW1e.out]
        clear HW1e c1 z1
        go_wp2_with fail
        refine HCa.out.mono ?_
        rintro e W2 ⟨rfl, hs2⟩
        have HS2 : Hid (WR w0 W2 Qb m s1) := hs2
        clear hs2 HCa x0 x1 x2 x3
        obtain ⟨g', cap', hvL, x0, x1, x2, x3⟩ := HN.out W2 HS2.out.bel
        cases hvL
        go_wp2_with fail
        refine (HCb.out _ _ HS2.out).mono ?_
        rintro e W3 ⟨rfl, hs3⟩
        have HS3 : Hid (WR w0 W3 Qb m (mk ns vb s1)) := hs3
        clear hs3 HCb HS2 x0 x1 x2 x3
        go_wp2_with fail
        go_end0
        exact ⟨rfl, HS3.out⟩
      · have t2 : ((kd : Int) == 2) = false := by simp; omega
        rw [mk_leaf hsn (by rw [hkk]; exact hk2)]
        clear HIH hkk hq
        generalize wv (updB s l) (l / 2) = y at *
        generalize wv s (l / 2) = x at *
        generalize l / 2 = n at *
        generalize l % 2 = p at *
        go_enter Try.func36, Try.ntmps36
        go_upto_region 4 with fail
        rw [HW1e.out]
        clear HW1e c1 z1
        go_wp2_with fail
        go_end0
        exact ⟨rfl, HM.out⟩
end Go.Proofs.Ytkomadlmonhlhaa
