import Derived.Test.YtclgkmihabpohaaRdE
import Derived.Maps.AppendAt
import Derived.Maps.OwnOps
import Derived.Deep.Upon
import Derived.Carry
namespace Go.Proofs.Ytclgkmihabpohaa
open Go.ChangeShapes Go.WideShapes Go.ChangeAt Go.RowKit Go.Lib Go.WideMaps Go.Maps Go.ChangeMaps

/-- events as cells -/
def evC : List S3 → List Value
  | [] => []
  | x :: r => .int .i64 x.1 :: .int .u64 x.2.1 :: .int .u64 x.2.2 :: evC r
theorem evC_len : ∀ es : List S3, (evC es).length = es.length * 3
  | [] => rfl
  | x :: r => by simp only [evC, List.length_cons, evC_len r]; omega
theorem evC_get : ∀ (es : List S3) (j : Nat), j < es.length → (evC es)[j * 3]? = some (.int .i64 (es.getD j z3).1) ∧ (evC es)[j * 3 + 1]? = some (.int .u64 (es.getD j z3).2.1) ∧ (evC es)[j * 3 + 2]? = some (.int .u64 (es.getD j z3).2.2)
  | [], j, h => absurd h (by simp)
  | x :: r, 0, _ => by simp [evC]
  | x :: r, j + 1, h => by
    have h5 := evC_get r j (by simpa using h)
    have e1 : (j + 1) * 3 = j * 3 + 1 + 1 + 1 := by omega
    have e2 : (j + 1) * 3 + 1 = (j * 3 + 1) + 1 + 1 + 1 := by omega
    have e3 : (j + 1) * 3 + 2 = (j * 3 + 2) + 1 + 1 + 1 := by omega
    rw [e2, e3, e1]
    simp only [evC, List.getElem?_cons_succ, List.getD_cons_succ]
    exact h5
theorem evC_all {es : List S3} {P : Nat → Value → Prop} (h : ∀ j, j < es.length → P (j * 3) (.int .i64 (es.getD j z3).1) ∧ P (j * 3 + 1) (.int .u64 (es.getD j z3).2.1) ∧ P (j * 3 + 2) (.int .u64 (es.getD j z3).2.2)) (i : Nat) (u : Value) (hu : (evC es)[i]? = some u) : P i u := by
  have hi : i < es.length * 3 := by rw [← evC_len]; exact (List.getElem?_eq_some_iff.1 hu).1
  obtain ⟨q, r, hr, rfl⟩ : ∃ q r, r < 3 ∧ i = q * 3 + r := ⟨i / 3, i % 3, by omega, by omega⟩
  have hj : q < es.length := by omega
  obtain ⟨g0, g1, g2⟩ := evC_get es q hj
  obtain ⟨p0, p1, p2⟩ := h q hj
  rcases (show r = 0 ∨ r = 1 ∨ r = 2 by omega) with rfl | rfl | rfl
  · rw [Nat.add_zero, g0] at hu
    cases hu
    exact p0
  · rw [g1] at hu
    cases hu
    exact p1
  · rw [g2] at hu
    cases hu
    exact p2
theorem evs_at {W : World} {b off : Nat} {es : List S3} (h : ∀ j, j < es.length → W.cell? ⟨b, off + j * 3, none⟩ = some (.int .i64 (es.getD j z3).1) ∧ W.cell? ⟨b, off + j * 3 + 1, none⟩ = some (.int .u64 (es.getD j z3).2.1) ∧ W.cell? ⟨b, off + j * 3 + 2, none⟩ = some (.int .u64 (es.getD j z3).2.2)) : ∀ j u, (evC es)[j]? = some u → W.cell? ((⟨b, off, none⟩ : Addr).add j) = some u :=
  evC_all (P := fun j u => W.cell? ((⟨b, off, none⟩ : Addr).add j) = some u) fun j hj => by
    rw [Addr.add_lit, Addr.add_lit, Addr.add_lit]
    exact h j hj
theorem evs_of {W : World} {B g n cap : Nat} {es : List S3} (h : W.ownsRow B 30 3 (.slice (some ⟨g, 0, none⟩) n cap) n (evC es)) : EVS W (some ⟨g, 0, none⟩) es := fun h0 => by
  have hlt := h.lt g rfl
  refine ⟨g, 0, rfl, hlt.2, fun j hj => ?_⟩
  obtain ⟨g0, g1, g2⟩ := evC_get es j hj
  have hc : ∀ i u, (evC es)[i]? = some u → W.cell? ⟨g, i, none⟩ = some u := fun i u hu => by
    rcases h.2 with ⟨h0, _⟩ | ⟨g', cap', cur, e, _, hb, h3, _, h4, h5⟩
    · cases h0
    · cases e
      rw [World.cell?, hb]
      rw [← h5] at hu
      have h6 := (List.getElem?_eq_some_iff.1 hu).1
      rw [List.length_take] at h6
      rw [List.getElem?_take_of_lt (by omega)] at hu
      simpa using hu
  rw [Nat.zero_add]
  exact ⟨hc _ _ g0, hc _ _ g1, hc _ _ g2⟩
theorem evC_one : ∀ (es : List S3) (u : Value), u ∈ evC es → u.oneCell' = true
  | [], u, h => by cases h
  | x :: r, u, h => by
    simp only [evC, List.mem_cons] at h
    rcases h with rfl | rfl | rfl | h
    · rfl
    · rfl
    · rfl
    · exact evC_one r u h
theorem srcN {W : World} (ad : Option Addr) (c : Nat) : Src Try.prog 3 22 (.slice ad 0 c) 0 [] W := by
  cases ad with
  | none => exact Src.ofNil _ Try.underlying22 c
  | some a => exact Src.ofSlice _ Try.underlying22 a 0 c [] (by simp) (fun j u h => by simp at h) (fun u h => by simp at h)
/-- a copy of a trace -/
theorem wpList_copy {ops : Array Oper} {rest : List Oper} {o : Oper} {a : Act} {Q : Exit → Act → World → Prop} (hgd : o.guard = none) (s x : Operand)
    (ho : o.op = .call { callee := .builtin .append, args := #[s, x], argTypes := #[22, 22] }) (W : World) (b : Nat) (hb : W.heap[b]? = some (.cells #[] 30 (0, 0))) (hs : a.eval s = .slice (some ⟨b, 0, none⟩) 0 0) (aR : Option Addr) (es : List S3) (n cR : Nat) (hn : es.length = n) (hx : a.eval x = .slice aR n cR) (hU : EVS W aR es) (hnb : n * 24 ≤ 140737488355328)
    (h : ∀ aO cO W', EVS W' aO es → Below b W W' → wpList Try.prog ops Q rest (a.put o.dst (.slice aO n cO)) W') : wpList Try.prog ops Q (o :: rest) a W := by
  obtain ⟨i0, hi, hz0, hz1, hz2⟩ := info_parts (P := Try.prog) (e := 30) (z := .agg #[.int .i64 0, .int .u64 0, .int .u64 0]) (size := 3) (bytes := 24) (by kernel_rfl)
  have hbl := (Array.getElem?_eq_some_iff.1 hb).1
  rcases Nat.eq_zero_or_pos n with e0 | hm0
  · subst e0
    refine wpList_plain hgd fun _ hK => ?_
    have hr := run_append_nothing (P := Try.prog) W 22 22 o.type 30 i0 Try.underlying22 hi (some ⟨b, 0, none⟩) 0 0 (Nat.le_refl _) (.slice aR 0 cR) (by rw [hz1]; exact srcN aR cR)
    unfold Oper.wp execOp
    simp only [ho, resolve, invoke, builtin, Sem.run_bind, Sem.run_pure, Result.andThen_ok, List.map_toArray, List.map_cons, List.map_nil, hs, hx, hr]
    exact hK _ _ (h _ _ W (fun h0 => absurd h0 (by omega)) (Below.refl _ _))
  · obtain ⟨b2, off, rfl, hb2, hcc⟩ := hU (by omega)
    refine wpList_append_lies _ hgd s x 22 ho b 30 i0 _ 3 24 Try.underlying22 hi hz0 hz1 hz2 rfl (by decide) (.slice (some ⟨b, 0, none⟩) 0 0) 0 [] hs ⟨rfl, Or.inr ⟨b, 0, #[], rfl, Nat.le_refl _, hb, Nat.le_refl _, by unfold maxLen; omega, by simp, rfl⟩⟩ ⟨b2, off, none⟩ n cR (evC es) hx (by rw [evC_len, hn]) (evs_at hcc) (evC_one es) hm0 (by unfold maxLen; omega) (by omega) (by omega) W.heap.size rfl ?_
    intro g cap W' hown hg _ _
    rw [Nat.zero_add] at hown
    rw [List.nil_append] at hown
    have hU2 := evs_of hown
    rw [Nat.zero_add]
    refine h _ _ W' hU2 ⟨hg.os, hg.tape, hg.output, by have := hg.size; omega, fun j hj => hg.block j (by omega) (fun e => by have e2 : some j = some b := e; have e3 := Option.some.inj e2; omega)⟩
set_option maxHeartbeats 4000000 in
theorem differs_walk (w : World) (a1 a2 : Option Addr) (t u : List S3) (cp1 cp2 : Nat) (h1 : EVS w a1 t) (h2 : EVS w a2 u) (ht : t.length * 24 ≤ 140737488355328) (hu : u.length * 24 ≤ 140737488355328) :
    Calls Try.prog 3 #[.slice a1 t.length cp1, .slice a2 u.length cp2] w fun e w' => e = .returned (.bool true) ∧ Below w.heap.size w w' := by
  obtain ⟨kk, bb, hAN⟩ : ∃ kk bb, ans t u = .tuple #[.int .i64 kk, .bool bb] := by
    unfold ans
    split
    · exact ⟨_, _, rfl⟩
    · exact ⟨_, _, rfl⟩
  have HD : Hid (∀ W a3 a4 c3 c4, EVS W a3 t → EVS W a4 u → Calls Try.prog 4 #[.slice a3 t.length c3, .slice a4 u.length c4] W fun e w' => e = .returned (.tuple #[.int .i64 kk, .bool bb]) ∧ Below W.heap.size W w') := fun W a3 a4 c3 c4 h3 h4 => hAN ▸ differ_any W a3 a4 t u c3 c4 h3 h4 (by omega) (by omega)
  have HR : Hid (∀ W, Below w.heap.size w W → Calls Try.prog 5 #[.slice a1 t.length cp1, .slice a2 u.length cp2] W fun e w' => e = .returned (.tuple #[.int .i64 kk, .bool bb]) ∧ Below W.heap.size W w') := fun W hW => hAN ▸ rdiffer_any W a1 a2 t u cp1 cp2 (h1.below hW) (h2.below hW) (by omega) (by omega)
  have H1 : Hid (∀ W, Below w.heap.size w W → EVS W a1 t) := fun W hW => h1.below hW
  have H2 : Hid (∀ W, Below w.heap.size w W → EVS W a2 u) := fun W hW => h2.below hW
  clear hAN h1 h2
  generalize hN1 : t.length = n1 at *
  generalize hN2 : u.length = n2 at *
  have HN : Hid (t.length = n1 ∧ u.length = n2) := ⟨hN1, hN2⟩
  clear hN1 hN2
  go_enter Try.func3, Try.ntmps3
  have HE0 : Hid ((w.alloc (.cells #[] 30)).heap[w.heap.size]? = some (.cells #[] 30 (0, 0))) := heap_alloc_new _ _
  have HB0 : Hid (Below w.heap.size w (w.alloc (.cells #[] 30))) := bel1 _ _
  go_wp2_with (at_builtin; refine wpList_copy rfl _ _ rfl _ w.heap.size HE0.out rfl a1 t n1 cp1 HN.out.1 rfl (H1.out _ HB0.out) (by omega) ?_; intro aO cO w4 hO4 hb4; have HO4 : Hid (EVS w4 aO t ∧ Below w.heap.size w w4) := ⟨hO4, HB0.out.trans hb4⟩; clear hO4 hb4 HE0 HB0; refine Hid.out ?_)
  refine Lib.hid ?_
  have HE1 : Hid ((w4.alloc (.cells #[] 30)).heap[w4.heap.size]? = some (.cells #[] 30 (0, 0))) := heap_alloc_new _ _
  have HB1 : Hid (Below w4.heap.size w4 (w4.alloc (.cells #[] 30))) := bel1 _ _
  go_wp2_with (at_builtin; refine wpList_copy rfl _ _ rfl _ w4.heap.size HE1.out rfl a2 u n2 cp2 HN.out.2 rfl (H2.out _ (nx HO4.out.2 HB1.out)) (by omega) ?_; intro aP cP w5 hO5 hb5; have HO5 : Hid (EVS w5 aO t ∧ EVS w5 aP u ∧ Below w.heap.size w w5) := ⟨HO4.out.1.below (HB1.out.trans hb5), hO5, nx HO4.out.2 (HB1.out.trans hb5)⟩; clear hO5 hb5 HE1 HB1; refine Hid.out ?_)
  refine Lib.hid ?_
  go_wp2_with fail
  refine (HD.out w5 aO aP cO cP HO5.out.1 HO5.out.2.1).mono ?_
  rintro e w6 ⟨rfl, hb6⟩
  have HB6 : Hid (Below w.heap.size w w6) := nx HO5.out.2.2 hb6
  clear hb6 HO5 HO4
  go_wp2_with fail
  refine (HR.out w6 HB6.out).mono ?_
  rintro e w7 ⟨rfl, hb7⟩
  have HB7 : Hid (Below w.heap.size w w7) := nx HB6.out hb7
  clear hb7 HB6
  have q1 : decide (kk = kk) = true := by simp
  have q2 : (kk == kk) = true := by simp
  have q3 : (bb == bb) = true := by simp
  go_wp2_with fail
  first | exact ⟨rfl, HB7.out⟩ | (go_ret; exact ⟨rfl, HB7.out⟩) | (go_ret; exact ⟨by simp, HB7.out⟩)
end Go.Proofs.Ytclgkmihabpohaa
