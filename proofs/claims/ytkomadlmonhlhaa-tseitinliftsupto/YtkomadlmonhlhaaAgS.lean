import Derived.Test.YtkomadlmonhlhaaAgR
import Derived.Laws.Cover3
namespace Go.Proofs.Ytkomadlmonhlhaa
open Go.ChangeShapes Go.WideShapes Go.ChangeAt Go.RowKit Go.Lib Go.Ag Go.WideMaps Go.Maps Go.ChangeMaps Go.Cn

/-- a table in memory: pages of 1024; pg: the page's block, if there is one -/
structure TB (w : World) (tp t : TypeId) (z : Value) (lo P n : Nat) (pg : Nat → Option Nat) (f : Nat → Value) : Prop where
  blk : ∃ cs, w.heap[P]? = some (.cells cs tp (0, 0)) ∧ cs.size = n ∧ ∀ k, k < n → cs[k]? = some (match pg k with | none => .slice none 0 0 | some b => .slice (some ⟨b, 0, none⟩) 1024 1024)
  low : lo ≤ P
  page : ∀ k b, k < n → pg k = some b → lo ≤ b ∧ b ≠ P ∧ ∃ row, w.heap[b]? = some (.cells row t (0, 0)) ∧ row.size = 1024 ∧ ∀ i, i < 1024 → row[i]? = some (f (1024 * k + i))
  void : ∀ k, k < n → pg k = none → ∀ i, i < 1024 → f (1024 * k + i) = z
  inj : ∀ k k' b, k < n → k' < n → pg k = some b → pg k' = some b → k = k'
set_option maxHeartbeats 4000000 in
set_option maxRecDepth 100000 in
theorem ofB_any (w : World) {lo P n : Nat} {pg : Nat → Option Nat} {f : Nat → Value} (h : TB w 49 4 (.bool false) lo P n pg f) (l : Nat) (hl : l < 4294967296) (hn : l / 2 / 1024 < n) :
    Calls Try.prog 85 #[.agg #[.slice (some ⟨P, 0, none⟩) n n], .int .u32 (l : Int)] w fun e w' => e = .returned (f (l / 2)) ∧ Below w.heap.size w w' := by
  have HNO : Hid (∀ W, Calls Try.prog 74 #[.int .u32 (l : Int)] W fun e w' => e = .returned (.int .i64 ((l / 2 : Nat) : Int)) ∧ w' = W) := fun W => nodeOf_any l hl W
  obtain ⟨v, hv⟩ : ∃ v, f (l / 2) = v := ⟨_, rfl⟩
  rw [hv]
  obtain ⟨m, hm⟩ : ∃ m, l / 2 = m := ⟨_, rfl⟩
  rw [hm] at HNO hn hv
  obtain ⟨q, hq⟩ : ∃ q, m / 1024 = q := ⟨_, rfl⟩
  obtain ⟨r, hr⟩ : ∃ r, m % 1024 = r := ⟨_, rfl⟩
  rw [hq] at hn
  have e1 : (m : Int) / 1024 = (q : Int) := by omega
  have e2 : (m : Int) % 1024 = (r : Int) := by omega
  have hr2 : r < 1024 := by omega
  have hqr : 1024 * q + r = m := by omega
  have hml : m < 4294967296 := by omega
  obtain ⟨cs, hb, hs, hc⟩ := h.blk
  have qn : (q : Int) < (n : Int) := by omega
  have hPl : P < w.heap.size := (Array.getElem?_eq_some_iff.1 hb).1
  have qS : ∀ (w : World) (a : Option Addr) (l c : Nat), (binOp .neq 49 (.slice a l c) (.slice none 0 0)).run Try.prog w = .ok (.bool (!a.isNone)) w := fun w a l c => run_neq_slice_nil w _ _ a l c Try.underlying49
  cases hp : pg q with
  | none =>
    have hz := h.void q hn hp r hr2
    rw [hqr, hv] at hz
    subst hz
    have c0 : w.cell? ⟨P, q, none⟩ = some (.slice none 0 0) := by rw [ag_cell hb, hc q hn, hp]
    clear h hb hc hp hs hv hq hr hm hqr
    go_enter Try.func85, Try.ntmps85
    go_wp2_with (go_at_call 74; refine (HNO.out _).mono ?_; rintro e w1 ⟨rfl, hw1⟩; subst w1)
    go_ret
    exact ⟨rfl, ag_bel1 _ _⟩
  | some b =>
    obtain ⟨-, -, row, hb2, hs2, hrow⟩ := h.page q b hn hp
    have hz := hrow r hr2
    rw [hqr, hv] at hz
    have c0 : w.cell? ⟨P, q, none⟩ = some (.slice (some ⟨b, 0, none⟩) 1024 1024) := by rw [ag_cell hb, hc q hn, hp]
    have hbl : b < w.heap.size := (Array.getElem?_eq_some_iff.1 hb2).1
    have c1 : w.cell? ⟨b, r, none⟩ = some v := by rw [ag_cell hb2, hz]
    clear h hb hc hp hs hv hq hr hm hqr hb2 hs2 hrow hz
    go_enter Try.func85, Try.ntmps85
    go_wp2_with (go_at_call 74; refine (HNO.out _).mono ?_; rintro e w1 ⟨rfl, hw1⟩; subst w1)
    go_ret
    exact ⟨rfl, ag_bel1 _ _⟩
set_option maxHeartbeats 4000000 in
set_option maxRecDepth 100000 in
theorem ofW_any (w : World) {lo P n : Nat} {pg : Nat → Option Nat} {f : Nat → Value} (h : TB w 116 120 (.int .u64 0) lo P n pg f) (l : Nat) (hl : l < 4294967296) (hn : l / 2 / 1024 < n) :
    Calls Try.prog 89 #[.agg #[.slice (some ⟨P, 0, none⟩) n n], .int .u32 (l : Int)] w fun e w' => e = .returned (f (l / 2)) ∧ Below w.heap.size w w' := by
  have HNO : Hid (∀ W, Calls Try.prog 74 #[.int .u32 (l : Int)] W fun e w' => e = .returned (.int .i64 ((l / 2 : Nat) : Int)) ∧ w' = W) := fun W => nodeOf_any l hl W
  obtain ⟨v, hv⟩ : ∃ v, f (l / 2) = v := ⟨_, rfl⟩
  rw [hv]
  obtain ⟨m, hm⟩ : ∃ m, l / 2 = m := ⟨_, rfl⟩
  rw [hm] at HNO hn hv
  obtain ⟨q, hq⟩ : ∃ q, m / 1024 = q := ⟨_, rfl⟩
  obtain ⟨r, hr⟩ : ∃ r, m % 1024 = r := ⟨_, rfl⟩
  rw [hq] at hn
  have e1 : (m : Int) / 1024 = (q : Int) := by omega
  have e2 : (m : Int) % 1024 = (r : Int) := by omega
  have hr2 : r < 1024 := by omega
  have hqr : 1024 * q + r = m := by omega
  have hml : m < 4294967296 := by omega
  obtain ⟨cs, hb, hs, hc⟩ := h.blk
  have qn : (q : Int) < (n : Int) := by omega
  have hPl : P < w.heap.size := (Array.getElem?_eq_some_iff.1 hb).1
  have qS : ∀ (w : World) (a : Option Addr) (l c : Nat), (binOp .neq 116 (.slice a l c) (.slice none 0 0)).run Try.prog w = .ok (.bool (!a.isNone)) w := fun w a l c => run_neq_slice_nil w _ _ a l c Try.underlying116
  cases hp : pg q with
  | none =>
    have hz := h.void q hn hp r hr2
    rw [hqr, hv] at hz
    subst hz
    have c0 : w.cell? ⟨P, q, none⟩ = some (.slice none 0 0) := by rw [ag_cell hb, hc q hn, hp]
    clear h hb hc hp hs hv hq hr hm hqr
    go_enter Try.func89, Try.ntmps89
    go_wp2_with (go_at_call 74; refine (HNO.out _).mono ?_; rintro e w1 ⟨rfl, hw1⟩; subst w1)
    go_ret
    exact ⟨rfl, ag_bel1 _ _⟩
  | some b =>
    obtain ⟨-, -, row, hb2, hs2, hrow⟩ := h.page q b hn hp
    have hz := hrow r hr2
    rw [hqr, hv] at hz
    have c0 : w.cell? ⟨P, q, none⟩ = some (.slice (some ⟨b, 0, none⟩) 1024 1024) := by rw [ag_cell hb, hc q hn, hp]
    have hbl : b < w.heap.size := (Array.getElem?_eq_some_iff.1 hb2).1
    have c1 : w.cell? ⟨b, r, none⟩ = some v := by rw [ag_cell hb2, hz]
    clear h hb hc hp hs hv hq hr hm hqr hb2 hs2 hrow hz
    go_enter Try.func89, Try.ntmps89
    go_wp2_with (go_at_call 74; refine (HNO.out _).mono ?_; rintro e w1 ⟨rfl, hw1⟩; subst w1)
    go_ret
    exact ⟨rfl, ag_bel1 _ _⟩
end Go.Proofs.Ytkomadlmonhlhaa
