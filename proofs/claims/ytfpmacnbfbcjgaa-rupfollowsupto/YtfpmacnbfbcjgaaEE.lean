import Derived.Test.YtfpmacnbfbcjgaaED
import Derived.WalkSpells
import Derived.LoopTactic
import Derived.Deep.LoopGhost
namespace Go.Proofs.Ytfpmacnbfbcjgaa
open Go.ChangeShapes Go.WideShapes Go.ChangeAt Go.RowKit
open Go.Pr
/-- a list of codes to be read -/
def Rd (w : World) (ad : Option Addr) (L : List Nat) : Prop :=
  0 < L.length → ∃ b o, ad = some ⟨b, o, none⟩ ∧ ∀ j, j < L.length → w.cell? ⟨b, o + j, none⟩ = some (.int .i32 (L.getD j 0 : Int))
theorem Mem.read {w : World} {g : Nat} {O : Nat → Prop} {S : ES} {p : Nat → Value} (h : Mem w g O S p) (hw : WF S) {k : Nat} (hk : k < S.cls.length) {bl c : Nat} (hp : p 0 = .slice (some ⟨bl, 0, none⟩) S.lits.length c) {ad : Option Addr} (ha : (S.clause k).s < (S.clause k).e → ad = some ⟨bl, (S.clause k).s, none⟩) : Rd w ad (S.inside k) := by
  intro h0
  have hl := hw.inside_len hk
  have hc := hw.clause_ok hk
  refine ⟨bl, (S.clause k).s, ha (by omega), fun j hj => ?_⟩
  have h1 := h.row 0 (by unfold used; omega)
  rw [hp] at h1
  have hj2 : (S.clause k).s + j < S.lits.length := by omega
  have h2 : w.cell? ⟨bl, (S.clause k).s + j, none⟩ = (codesV S.lits)[(S.clause k).s + j]? := h1.cellAt _ (by show _ < S.lits.length * 1; omega)
  rw [h2]
  unfold codesV
  rw [List.getElem?_map, List.getElem?_eq_getElem hj2]
  have e : (S.inside k).getD j 0 = S.lits[(S.clause k).s + j] := by
    rw [List.getD_eq_getElem?_getD]
    unfold ES.inside
    rw [List.getElem?_take_of_lt (by omega), List.getElem?_drop, List.getElem?_eq_getElem hj2]
    rfl
  rw [e]
  rfl
set_option maxHeartbeats 2000000 in
theorem inside_mem {w : World} {g : Nat} {O : Nat → Prop} {S : ES} {p : Nat → Value} (h : Mem w g O S p) (hw : WF S) {k : Nat} (hk : k < S.cls.length) :
    Calls Try.prog 48 #[.pointer (some ⟨g, 0, none⟩), .int .i32 (k : Int)] w fun r w' => ∃ ad cp, r = .returned (.slice ad (S.inside k).length cp) ∧ Rd w' ad (S.inside k) ∧ Mem w' g O S p ∧ Fr O w w' O := by
  obtain ⟨b, c, hp1, d0, d1, d2, d3, d4, _⟩ := h.clauses hk
  have h1 : w.cell? ⟨g, 1, none⟩ = some (.slice (some ⟨b, 0, none⟩) S.cls.length c) := (h.gcell 1).trans (congrArg some hp1)
  have hck := hw.clause_ok hk
  have hll := hw.litl
  have hcl := hw.cll
  have hil := hw.inside_len hk
  have q1 : (k : Int) < (S.cls.length : Int) := by omega
  obtain ⟨a0, c0, hp0, hc0⟩ := h.slice (i := 0) (by unfold used; omega)
  have hp0' : p 0 = .slice a0 S.lits.length c0 := hp0
  have hc0' : S.lits.length ≤ c0 := hc0
  generalize hPP : (fun (r : Ending) (w' : World) => ∃ ad cp, r = .returned (.slice ad (S.inside k).length cp) ∧ Rd w' ad (S.inside k) ∧ Mem w' g O S p ∧ Fr O w w' O) = PP
  have HPP : Hid (∀ r w', (∃ ad cp, r = .returned (.slice ad (S.inside k).length cp) ∧ Rd w' ad (S.inside k) ∧ Mem w' g O S p ∧ Fr O w w' O) → PP r w') := fun r w' h => by rw [← hPP]; exact h
  clear hPP hp0 hc0
  have HIL : Hid ((S.inside k).length = (S.clause k).e - (S.clause k).s) := hil
  have HRD : Hid (∀ W bl ad, Mem W g O S p → p 0 = .slice (some ⟨bl, 0, none⟩) S.lits.length c0 → ((S.clause k).s < (S.clause k).e → ad = some ⟨bl, (S.clause k).s, none⟩) → Rd W ad (S.inside k)) := fun W bl ad m e ha => m.read hw hk e ha
  have HM : Hid (Mem w g O S p) := h
  have hcs := hck.1
  have hce := hck.2.1
  have HP0 : Hid (p 0 = .slice a0 S.lits.length c0) := hp0'
  have hG : ∀ o, (w.alloc o).cell? ⟨g, 0, none⟩ = some (.slice a0 S.lits.length c0) := fun o => ((h.alloc o).gcell 0).trans (congrArg some hp0')
  have hNil : a0 = none → S.lits.length = 0 ∧ c0 = 0 := fun e => by
    have h5 := h.row 0 (by unfold used; omega)
    rw [hp0', e] at h5
    rcases h5.2 with ⟨e1, e2⟩ | ⟨g', cap, cur, e1, _⟩
    · injection e1 with _ _ h8; exact ⟨e2, h8⟩
    · cases e1
  have hSome : ∀ a, a0 = some a → ∃ bl, a = ⟨bl, 0, none⟩ := fun a e => by
    have h5 := h.row 0 (by unfold used; omega)
    rw [hp0', e] at h5
    rcases h5.2 with ⟨e1, e2⟩ | ⟨g', cap, cur, e1, _⟩
    · cases e1
    · injection e1 with h7 _ _; injection h7 with h7; exact ⟨g', h7⟩
  clear h hw hck hil hp0' hp1
  generalize hs' : (S.clause k).s = s at *
  generalize he' : (S.clause k).e = e at *
  generalize (S.clause k).f = f at *
  generalize (S.clause k).a = a at *
  generalize (S.clause k).b = bb at *
  clear hs' he'
  have q2 : (s : Int) ≤ (e : Int) := by omega
  have q3 : (e : Int) ≤ (c0 : Int) := by omega
  have f1 : (w.alloc (.cells #[.int .i32 s, .int .i32 e, .int .i32 f, .int .i32 a, .int .i32 bb] 73)).cell? ⟨w.heap.size, 0, none⟩ = some (.int .i32 s) := blk_cell (heap_alloc_at _ _) 0
  have f2 : (w.alloc (.cells #[.int .i32 s, .int .i32 e, .int .i32 f, .int .i32 a, .int .i32 bb] 73)).cell? ⟨w.heap.size, 1, none⟩ = some (.int .i32 e) := blk_cell (heap_alloc_at _ _) 1
  have f0 := hG (.cells #[.int .i32 s, .int .i32 e, .int .i32 f, .int .i32 a, .int .i32 bb] 73)
  have HMA : Hid (Mem (w.alloc (.cells #[.int .i32 s, .int .i32 e, .int .i32 f, .int .i32 a, .int .i32 bb] 73)) g O S p ∧ Fr O w (w.alloc (.cells #[.int .i32 s, .int .i32 e, .int .i32 f, .int .i32 a, .int .i32 bb] 73)) O) := ⟨HM.out.alloc _, (Fr.refl O w).alloc _⟩
  clear hG HM
  go_enter Try.func48, Try.ntmps48
  go_wp2
  generalize w.alloc (.cells #[.int .i32 s, .int .i32 e, .int .i32 f, .int .i32 a, .int .i32 bb] 73) = W at *
  clear d0 d1 d2 d3 d4 h1
  cases a0 with
  | none =>
    obtain ⟨hL0, hC0⟩ := hNil rfl
    have e0 : e = 0 := by omega
    have s0 : s = 0 := by omega
    subst e0
    subst s0
    subst hC0
    rw [hL0] at f0
    clear hSome
    go_quiet (fail)
    go_wp2
    exact HPP.out _ _ ⟨_, _, by rw [HIL.out], fun h => by rw [HIL.out] at h; exact absurd h (by omega), HMA.out.1.drewN, HMA.out.2.drewN⟩
  | some aa =>
    obtain ⟨bl, rfl⟩ := hSome aa rfl
    clear hNil hSome
    by_cases hcs : c0 = s
    · have e0 : e = s := by omega
      subst hcs
      subst e0
      go_quiet (fail)
      go_wp2
      exact HPP.out _ _ ⟨_, _, by rw [HIL.out, Nat.sub_self]; rfl, fun h => by rw [HIL.out] at h; exact absurd h (by omega), HMA.out.1.drewN, HMA.out.2.drewN⟩
    · go_quiet (fail)
      go_wp2
      exact HPP.out _ _ ⟨_, _, by rw [HIL.out]; rfl, HRD.out _ bl _ HMA.out.1.drewN HP0.out (fun _ => rfl), HMA.out.1.drewN, HMA.out.2.drewN⟩
end Go.Proofs.Ytfpmacnbfbcjgaa
