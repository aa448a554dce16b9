import Derived.Test.YtcmknjocmpdicaaDoorFmU
namespace Go.Proofs.YtcmknjocmpdicaaDoor
open Go.ChangeShapes Go.WideShapes Go.ChangeAt Go.RowKit Go.Bn

theorem TF_iff {w : World} {T : List Value → Prop} {ad : Option Addr} {len cap : Nat} : TF w T (.slice ad len cap) ↔ ∀ j, j < len → TO w T ad j := by
  constructor
  · exact fun h j hj => h ad len cap rfl j hj
  · intro h ad' len' cap' e j hj
    cases e
    exact h j hj
theorem TO_at {w : World} {T : List Value → Prop} {b o j : Nat} {vs : List Value} (hl : vs.length = 14) (h : ∀ i, i < 14 → w.cell? ⟨b, o + j * 14 + i, none⟩ = some (vs.getD i undef)) : TO w T (some ⟨b, o, none⟩) j ↔ T vs := by
  constructor
  · exact fun h2 => h2 b o rfl vs hl h
  · intro h2 b' o' e us hu h3
    cases e
    have e : us = vs := by
      apply List.ext_getElem?
      intro i
      by_cases hi : i < 14
      · have h4 := (h3 i hi).symm.trans (h i hi)
        rw [List.getD_eq_getElem?_getD, List.getD_eq_getElem?_getD, List.getElem?_eq_getElem (by omega), List.getElem?_eq_getElem (by omega)] at h4
        rw [List.getElem?_eq_getElem (by omega), List.getElem?_eq_getElem (by omega)]
        exact h4
      · rw [List.getElem?_eq_none (by omega), List.getElem?_eq_none (by omega)]
    rw [e]
    exact h2
set_option maxHeartbeats 8000000 in
set_option maxRecDepth 100000 in
theorem stmtsForm_step (w0 : World) (N n : Nat) (hSt : ∀ (cs : List Value) (W : World), ST w0 N n cs → Below w0.heap.size w0 W → Calls Tryd.prog 20 #[.agg cs.toArray] W (BP (FT w0 N n cs) W)) (sl : Value) (W : World) (h : TX w0 (ST w0 N n) sl) (hW : Below w0.heap.size w0 W) : Calls Tryd.prog 11 #[sl] W (BP (TF w0 (FT w0 N n) sl) W) := by
  obtain ⟨ad, len, cap, rfl, hlen, hx⟩ := h
  have HX : Hid (0 < len → ∃ b o, ad = some ⟨b, o, none⟩ ∧ b < w0.heap.size ∧ ∀ j, j < len → ∃ vs : List Value, vs.length = 14 ∧ (∀ i, i < 14 → w0.cell? ⟨b, o + j * 14 + i, none⟩ = some (vs.getD i undef)) ∧ ST w0 N n vs) := hx
  have HW : Hid (Below w0.heap.size w0 W) := hW
  have HSt : Hid (∀ (cs : List Value) (W : World), ST w0 N n cs → Below w0.heap.size w0 W → Calls Tryd.prog 20 #[.agg cs.toArray] W (BP (FT w0 N n cs) W)) := hSt
  clear hx hW hSt
  go_enter Tryd.func11, Tryd.ntmps11
  go_wp2_with fail
  go_loopg [3] len (fun gk v3 wr => ∃ j : Nat, v3 = .int .i64 (j : Int) ∧ j + gk = len ∧ Aside (Below W.heap.size W wr ∧ ∀ i, i < j → TO w0 (FT w0 N n) ad i))
  case atStart => exact ⟨0, rfl, by omega, ⟨Below.refl _ _, fun i hi => absurd hi (by omega)⟩⟩
  case round =>
    obtain ⟨j, rfl, hj, HR⟩ := hrel
    have HR2 : Hid (Below W.heap.size W wr ∧ ∀ i, i < j → TO w0 (FT w0 N n) ad i) := HR.out
    clear HR
    by_cases hlt : j < len
    · have q1 : (j : Int) < (len : Int) := by omega
      obtain ⟨b, o, rfl, hb, hel⟩ := HX.out (by omega)
      obtain ⟨vs, hvl, hvc, hst⟩ := hel j hlt
      have HB0 : Hid (Below w0.heap.size w0 wr) := bnext HW.out HR2.out.1
      have HTo : Hid (TO w0 (FT w0 N n) (some ⟨b, o, none⟩) j ↔ FT w0 N n vs) := TO_at hvl hvc
      obtain ⟨v0, v1, v2, v3, v4, v5, v6, v7, v8, v9, v10, v11, v12, v13, rfl⟩ : ∃ v0 v1 v2 v3 v4 v5 v6 v7 v8 v9 v10 v11 v12 v13, vs = [v0, v1, v2, v3, v4, v5, v6, v7, v8, v9, v10, v11, v12, v13] := by
        match vs, hvl with
        | [v0, v1, v2, v3, v4, v5, v6, v7, v8, v9, v10, v11, v12, v13], _ => exact ⟨v0, v1, v2, v3, v4, v5, v6, v7, v8, v9, v10, v11, v12, v13, rfl⟩
      have y0 : wr.cell? ⟨b, o + j * 14, none⟩ = some v0 := (HB0.out.cell (p := ⟨b, o + j * 14 + 0, none⟩) hb).trans (hvc 0 (by omega))
      have y1 : wr.cell? ⟨b, o + j * 14 + 1, none⟩ = some v1 := (HB0.out.cell (p := ⟨b, o + j * 14 + 1, none⟩) hb).trans (hvc 1 (by omega))
      have y2 : wr.cell? ⟨b, o + j * 14 + 2, none⟩ = some v2 := (HB0.out.cell (p := ⟨b, o + j * 14 + 2, none⟩) hb).trans (hvc 2 (by omega))
      have y3 : wr.cell? ⟨b, o + j * 14 + 3, none⟩ = some v3 := (HB0.out.cell (p := ⟨b, o + j * 14 + 3, none⟩) hb).trans (hvc 3 (by omega))
      have y4 : wr.cell? ⟨b, o + j * 14 + 4, none⟩ = some v4 := (HB0.out.cell (p := ⟨b, o + j * 14 + 4, none⟩) hb).trans (hvc 4 (by omega))
      have y5 : wr.cell? ⟨b, o + j * 14 + 5, none⟩ = some v5 := (HB0.out.cell (p := ⟨b, o + j * 14 + 5, none⟩) hb).trans (hvc 5 (by omega))
      have y6 : wr.cell? ⟨b, o + j * 14 + 6, none⟩ = some v6 := (HB0.out.cell (p := ⟨b, o + j * 14 + 6, none⟩) hb).trans (hvc 6 (by omega))
      have y7 : wr.cell? ⟨b, o + j * 14 + 7, none⟩ = some v7 := (HB0.out.cell (p := ⟨b, o + j * 14 + 7, none⟩) hb).trans (hvc 7 (by omega))
      have y8 : wr.cell? ⟨b, o + j * 14 + 8, none⟩ = some v8 := (HB0.out.cell (p := ⟨b, o + j * 14 + 8, none⟩) hb).trans (hvc 8 (by omega))
      have y9 : wr.cell? ⟨b, o + j * 14 + 9, none⟩ = some v9 := (HB0.out.cell (p := ⟨b, o + j * 14 + 9, none⟩) hb).trans (hvc 9 (by omega))
      have y10 : wr.cell? ⟨b, o + j * 14 + 10, none⟩ = some v10 := (HB0.out.cell (p := ⟨b, o + j * 14 + 10, none⟩) hb).trans (hvc 10 (by omega))
      have y11 : wr.cell? ⟨b, o + j * 14 + 11, none⟩ = some v11 := (HB0.out.cell (p := ⟨b, o + j * 14 + 11, none⟩) hb).trans (hvc 11 (by omega))
      have y12 : wr.cell? ⟨b, o + j * 14 + 12, none⟩ = some v12 := (HB0.out.cell (p := ⟨b, o + j * 14 + 12, none⟩) hb).trans (hvc 12 (by omega))
      have y13 : wr.cell? ⟨b, o + j * 14 + 13, none⟩ = some v13 := (HB0.out.cell (p := ⟨b, o + j * 14 + 13, none⟩) hb).trans (hvc 13 (by omega))
      have HCl : Hid (Calls Tryd.prog 20 #[.agg #[v0, v1, v2, v3, v4, v5, v6, v7, v8, v9, v10, v11, v12, v13]] wr (BP (FT w0 N n [v0, v1, v2, v3, v4, v5, v6, v7, v8, v9, v10, v11, v12, v13]) wr)) := HSt.out [v0, v1, v2, v3, v4, v5, v6, v7, v8, v9, v10, v11, v12, v13] wr hst HB0.out
      clear hel hvl hvc hst hb
      go_wp2_with fail
      refine HCl.out.mono ?_
      rintro e w1 ⟨bb, rfl, hiff, hbl⟩
      have HB1 : Hid (Below wr.heap.size wr w1 ∧ (bb = true ↔ FT w0 N n [v0, v1, v2, v3, v4, v5, v6, v7, v8, v9, v10, v11, v12, v13])) := ⟨hbl, hiff⟩
      clear hbl hiff y0 y1 y2 y3 y4 y5 y6 y7 y8 y9 y10 y11 y12 y13 HCl
      cases bb with
      | false =>
        have HE : Hid (Below W.heap.size W w1 ∧ ¬ TF w0 (FT w0 N n) (.slice (some ⟨b, o, none⟩) len cap)) := ⟨bnext HR2.out.1 HB1.out.1, fun h => absurd (HB1.out.2.2 (HTo.out.1 (TF_iff.1 h j hlt))) (by decide)⟩
        go_wp2
        go_ret
        exact BP.f HE.out.2 HE.out.1
      | true =>
        have HN : Aside (Below W.heap.size W w1 ∧ ∀ i, i < j + 1 → TO w0 (FT w0 N n) (some ⟨b, o, none⟩) i) := ⟨bnext HR2.out.1 HB1.out.1, fun i hi => by
          by_cases e : i = j
          · subst e
            exact HTo.out.2 (HB1.out.2.1 rfl)
          · exact HR2.out.2 i (by omega)⟩
        go_wp2_with fail
        go_roundg (gk - 1)
        case measure => omega
        case rel => exact ⟨j + 1, by simp, by omega, HN⟩
    · obtain rfl : j = len := by omega
      have q1 : ¬ (j : Int) < (j : Int) := by omega
      have HE : Hid (Below W.heap.size W wr ∧ TF w0 (FT w0 N n) (.slice ad j cap)) := ⟨HR2.out.1, TF_iff.2 HR2.out.2⟩
      go_wp2
      go_ret
      exact BP.t HE.out.2 HE.out.1
/-- the document's look at statements -/
theorem stmts_any (w0 : World) (N : Nat) : ∀ (n : Nat), (∀ (cs : List Value) (W : World), ST w0 N n cs → Below w0.heap.size w0 W → Calls Tryd.prog 20 #[.agg cs.toArray] W (BP (FT w0 N n cs) W)) ∧ ∀ (sl : Value) (W : World), TX w0 (ST w0 N n) sl → Below w0.heap.size w0 W → Calls Tryd.prog 11 #[sl] W (BP (TF w0 (FT w0 N n) sl) W) := by
  intro n
  induction n with
  | zero =>
    have h0 : ∀ (cs : List Value) (W : World), ST w0 N 0 cs → Below w0.heap.size w0 W → Calls Tryd.prog 20 #[.agg cs.toArray] W (BP (FT w0 N 0 cs) W) := fun cs W h _ => h.elim
    exact ⟨h0, fun sl W h hW => stmtsForm_step w0 N 0 h0 sl W h hW⟩
  | succ n ih =>
    have h1 : ∀ (cs : List Value) (W : World), ST w0 N (n + 1) cs → Below w0.heap.size w0 W → Calls Tryd.prog 20 #[.agg cs.toArray] W (BP (FT w0 N (n + 1) cs) W) := fun cs W h hW => stmtForm_any w0 N n ih.2 cs W h hW
    exact ⟨h1, fun sl W h hW => stmtsForm_step w0 N (n + 1) h1 sl W h hW⟩
end Go.Proofs.YtcmknjocmpdicaaDoor
