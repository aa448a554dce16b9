import Derived.Test.YtcmknjocmpdicaaDoorFmJ
namespace Go.Proofs.YtcmknjocmpdicaaDoor
open Go.ChangeShapes Go.WideShapes Go.ChangeAt Go.RowKit Go.Bn

theorem SX.up {w W : World} {E E' : List Value → Prop} {sl : Value} (h : SX w E sl) (hb : Below w.heap.size w W) (hE : ∀ cs, E cs → E' cs) : SX W E' sl := by
  obtain ⟨ad, len, cap, rfl, hl, h2⟩ := h
  refine ⟨ad, len, cap, rfl, hl, fun h0 => ?_⟩
  obtain ⟨b, o, e, hlt, h3⟩ := h2 h0
  refine ⟨b, o, e, Nat.lt_of_lt_of_le hlt hb.size, fun j hj => ?_⟩
  obtain ⟨v0, v1, v2, v3, c0, c1, c2, c3, hx⟩ := h3 j hj
  exact ⟨v0, v1, v2, v3, (hb.cell (p := ⟨b, _, none⟩) hlt).trans c0, (hb.cell (p := ⟨b, _, none⟩) hlt).trans c1, (hb.cell (p := ⟨b, _, none⟩) hlt).trans c2, (hb.cell (p := ⟨b, _, none⟩) hlt).trans c3, hE _ hx⟩
theorem EX.up {w W : World} (hb : Below w.heap.size w W) : ∀ (n : Nat) (cs : List Value), EX w n cs → EX W n cs := by
  intro n
  induction n with
  | zero => exact fun cs h => h.elim
  | succ n ih =>
    rintro cs ⟨k, x, s, sl, rfl, hs, h⟩
    exact ⟨k, x, s, sl, rfl, hs, h.up hb (ih)⟩
theorem SF.up {w W : World} {E F F' : List Value → Prop} {sl : Value} (h : SX w E sl) (hb : Below w.heap.size w W) (hE : ∀ cs, E cs → (F' cs ↔ F cs)) : SF W F' sl ↔ SF w F sl := by
  obtain ⟨ad, len, cap, rfl, hl, h2⟩ := h
  rw [SF_iff, SF_iff]
  refine forall_congr' fun j => forall_congr' fun hj => ?_
  obtain ⟨b, o, rfl, hlt, h3⟩ := h2 (by omega)
  obtain ⟨v0, v1, v2, v3, c0, c1, c2, c3, hx⟩ := h3 j hj
  rw [KO_at ((hb.cell (p := ⟨b, _, none⟩) hlt).trans c0) ((hb.cell (p := ⟨b, _, none⟩) hlt).trans c1) ((hb.cell (p := ⟨b, _, none⟩) hlt).trans c2) ((hb.cell (p := ⟨b, _, none⟩) hlt).trans c3), KO_at c0 c1 c2 c3]
  exact hE _ hx
theorem FE.up {w W : World} (hb : Below w.heap.size w W) : ∀ (n : Nat) (cs : List Value), EX w n cs → (FE W n cs ↔ FE w n cs) := by
  intro n
  induction n with
  | zero => exact fun cs h => h.elim
  | succ n ih =>
    rintro cs ⟨k, x, s, sl, rfl, hs, h⟩
    rw [FE_succ, FE_succ, SF.up h hb ih]
theorem CS.up {w W : World} (hb : Below w.heap.size w W) : ∀ (n : Nat) (sl : Value), SX w (EX w n) sl → CS W n sl = CS w n sl := by
  intro n
  induction n with
  | zero => intro sl _; rfl
  | succ n ih =>
    rintro sl ⟨ad, len, cap, rfl, hl, h2⟩
    by_cases h0 : 0 < len
    · obtain ⟨b, o, rfl, hlt, h3⟩ := h2 h0
      rw [CS_step, CS_step]
      congr 1
      refine List.map_congr_left fun j hj => ?_
      have hj := List.mem_range.1 hj
      obtain ⟨v0, v1, v2, v3, c0, c1, c2, c3, k, x, s, sl, e, hs, hx⟩ := h3 j hj
      obtain rfl : v3 = sl := by cases e; rfl
      rw [(hb.cell (p := ⟨b, _, none⟩) hlt).trans c3, c3]
      show 1 + CS W n v3 = 1 + CS w n v3
      rw [ih v3 hx]
    · have e : len = 0 := by omega
      subst e
      cases ad with
      | none => rfl
      | some a => rfl
/-- the list of one expression -/
theorem LI.root {w0 W5 : World} {m g : Nat} {k x : Int} {s : ByteArray} {sl : Value} (h : EX w0 (m + 1) [.int .i64 k, .int .u64 x, .string s, sl]) (hb : Below w0.heap.size w0 W5) (hg : W5.heap[g]? = some (.cells #[.int .i64 k, .int .u64 x, .string s, sl] 40 (0, 0))) :
    LI W5 (FE w0 (m + 1) [.int .i64 k, .int .u64 x, .string s, sl]) [(.slice (some ⟨g, 0, none⟩) 1 1, m + 1)] ∧ wtE W5 [(.slice (some ⟨g, 0, none⟩) 1 1, m + 1)] = 2 + CS w0 m sl := by
  have hlt : g < W5.heap.size := (Array.getElem?_eq_some_iff.1 hg).1
  have c0 : W5.cell? ⟨g, 0 + 0 * 4, none⟩ = some (.int .i64 k) := lc hg 0
  have c1 : W5.cell? ⟨g, 0 + 0 * 4 + 1, none⟩ = some (.int .u64 x) := lc hg 1
  have c2 : W5.cell? ⟨g, 0 + 0 * 4 + 2, none⟩ = some (.string s) := lc hg 2
  have c3 : W5.cell? ⟨g, 0 + 0 * 4 + 3, none⟩ = some sl := lc hg 3
  have hx := EX.up hb (m + 1) _ h
  have hsx : SX W5 (EX W5 (m + 1)) (.slice (some ⟨g, 0, none⟩) 1 1) := ⟨some ⟨g, 0, none⟩, 1, 1, rfl, by omega, fun _ => ⟨g, 0, rfl, hlt, fun j hj => by
    obtain rfl : j = 0 := by omega
    exact ⟨_, _, _, _, c0, c1, c2, c3, hx⟩⟩⟩
  refine ⟨⟨fun p hp => ?_, ?_⟩, ?_⟩
  · rw [List.mem_singleton.1 hp]; exact hsx
  · have h9 : SF W5 (FE W5 (m + 1)) (.slice (some ⟨g, 0, none⟩) 1 1) ↔ FE W5 (m + 1) [.int .i64 k, .int .u64 x, .string s, sl] := by
      rw [SF_iff]
      constructor
      · exact fun h => (KO_at c0 c1 c2 c3).1 (h 0 (by omega))
      · intro h j hj
        obtain rfl : j = 0 := by omega
        exact (KO_at c0 c1 c2 c3).2 h
    rw [FE.up hb (m + 1) _ h] at h9
    exact ⟨fun h p hp => by rw [List.mem_singleton.1 hp]; exact h9.2 h, fun h => h9.1 (h _ (List.mem_singleton.2 rfl))⟩
  · obtain ⟨k', x', s', sl', e, hs, hx2⟩ := h
    cases e
    simp only [wtE, List.map_cons, List.map_nil, List.sum_cons, List.sum_nil]
    rw [CS_step]
    simp [c3, show (0 : Nat) + 0 * 4 + 3 = 3 from rfl, CS.up hb m sl hx2]
    omega
end Go.Proofs.YtcmknjocmpdicaaDoor
