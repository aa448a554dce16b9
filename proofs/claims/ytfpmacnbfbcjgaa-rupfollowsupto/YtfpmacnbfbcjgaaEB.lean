import Derived.Test.YtfpmacnbfbcjgaaEA
import Derived.Deep.RegionHeld3
namespace Go.Proofs.Ytfpmacnbfbcjgaa
open Go.ChangeShapes Go.WideShapes Go.ChangeAt Go.RowKit
open Go.Pr
theorem WF.marks_len {S : ES} (h : WF S) : S.marks.length ≤ S.n := by
  have h1 := nat_nodup_len S.marks (List.range S.trail.length) (h.mkd.imp fun h => Nat.ne_of_lt h) (fun x hx => List.mem_range.2 (h.mks x hx))
  have h2 := h.trail_len
  rw [List.length_range] at h1
  omega
theorem Mem.slice {w : World} {g : Nat} {O : Nat → Prop} {S : ES} {p : Nat → Value} (h : Mem w g O S p) {i : Nat} (hi : used S i) : ∃ ad c, p i = .slice ad (nR S i) c ∧ nR S i ≤ c := by
  rcases (h.row i hi).2 with ⟨e, h0⟩ | ⟨b, cap, cur, e, _, _, hc, _⟩
  · exact ⟨none, 0, by rw [e, h0], by omega⟩
  · exact ⟨_, cap, e, hc⟩
theorem Mem.form {w : World} {g : Nat} {O : Nat → Prop} {S : ES} {p : Nat → Value} (h : Mem w g O S p) {i : Nat} (hi : used S i) (hn : 0 < nR S i) : ∃ b c, p i = .slice (some ⟨b, 0, none⟩) (nR S i) c ∧ nR S i ≤ c ∧ (∀ j, j < nR S i * szR i → w.cell? ⟨b, j, none⟩ = (lR S p i)[j]?) ∧ ∀ j, w.frozen? ⟨b, j, none⟩ = false := by
  have h1 := h.row i hi
  rcases h1.2 with ⟨e, h0⟩ | ⟨b, cap, cur, e, _, _, hc, _⟩
  · omega
  · rw [e] at h1
    exact ⟨b, cap, e, hc, fun j hj => h1.cellAt j hj, fun j => h1.frozenAt j⟩
theorem Mem.gcell {w : World} {g : Nat} {O : Nat → Prop} {S : ES} {p : Nat → Value} (h : Mem w g O S p) (j : Nat) : w.cell? ⟨g, j, none⟩ = (gcells S p)[j]? := blk_cell h.blk j
theorem Mem.gfrozen {w : World} {g : Nat} {O : Nat → Prop} {S : ES} {p : Nat → Value} (h : Mem w g O S p) (j : Nat) : w.frozen? ⟨g, j, none⟩ = false := by simp [World.frozen?, h.blk]
theorem Mem.valsL {w : World} {g : Nat} {O : Nat → Prop} {S : ES} {p : Nat → Value} (h : Mem w g O S p) (hvl : S.vals.length = 2 * S.n + 2) : ∃ b c, p 3 = .slice (some ⟨b, 0, none⟩) (2 * S.n + 2) c ∧ (∀ j, j < 2 * S.n + 2 → w.cell? ⟨b, j, none⟩ = some (.int .i8 (S.val j))) ∧ ∀ j, w.frozen? ⟨b, j, none⟩ = false := by
  have hn : nR S 3 = 2 * S.n + 2 := hvl
  obtain ⟨b, c, h1, _, h2, h3⟩ := h.form (i := 3) (by unfold used; omega) (by omega)
  rw [hn] at h1 h2
  refine ⟨b, c, h1, fun j hj => ?_, h3⟩
  rw [h2 j (by show j < (2 * S.n + 2) * 1; omega)]
  show (S.vals.map (Value.int .i8))[j]? = _
  have hj2 : j < S.vals.length := by rw [hvl]; exact hj
  rw [List.getElem?_map, List.getElem?_eq_getElem hj2]
  unfold ES.val
  rw [getD_of _ _ _ hj2]
  rfl
theorem Mem.vals {w : World} {g : Nat} {O : Nat → Prop} {S : ES} {p : Nat → Value} (h : Mem w g O S p) (hw : WF S) : ∃ b c, p 3 = .slice (some ⟨b, 0, none⟩) (2 * S.n + 2) c ∧ (∀ j, j < 2 * S.n + 2 → w.cell? ⟨b, j, none⟩ = some (.int .i8 (S.val j))) ∧ ∀ j, w.frozen? ⟨b, j, none⟩ = false := h.valsL hw.vall
theorem Mem.givsL {w : World} {g : Nat} {O : Nat → Prop} {S : ES} {p : Nat → Value} (h : Mem w g O S p) (hgl : S.giv.length = S.n + 1) : ∃ b c, p 4 = .slice (some ⟨b, 0, none⟩) (S.n + 1) c ∧ (∀ j, j < S.n + 1 → w.cell? ⟨b, j * 2, none⟩ = some (.int .i32 ((S.giv.getD j (0, none)).1 : Int)) ∧ w.cell? ⟨b, j * 2 + 1, none⟩ = some (.int .i32 (clI (S.giv.getD j (0, none)).2))) ∧ ∀ j, w.frozen? ⟨b, j, none⟩ = false := by
  have hn : nR S 4 = S.n + 1 := hgl
  obtain ⟨b, c, h1, _, h2, h3⟩ := h.form (i := 4) (by unfold used; omega) (by omega)
  rw [hn] at h1 h2
  refine ⟨b, c, h1, fun j hj => ?_, h3⟩
  have hj2 : j < S.giv.length := by rw [hgl]; exact hj
  have e1 : (lR S p 4)[j * 2 + 0]? = _ := fm_get givF 2 (fun _ => rfl) S.giv j 0 hj2 (by omega)
  have e2 : (lR S p 4)[j * 2 + 1]? = _ := fm_get givF 2 (fun _ => rfl) S.giv j 1 hj2 (by omega)
  rw [h2 (j * 2) (by show _ < (S.n + 1) * 2; omega), h2 (j * 2 + 1) (by show _ < (S.n + 1) * 2; omega)]
  rw [e2]
  rw [Nat.add_zero] at e1
  rw [e1, getD_of _ _ _ hj2]
  exact ⟨rfl, rfl⟩
theorem Mem.givs {w : World} {g : Nat} {O : Nat → Prop} {S : ES} {p : Nat → Value} (h : Mem w g O S p) (hw : WF S) : ∃ b c, p 4 = .slice (some ⟨b, 0, none⟩) (S.n + 1) c ∧ (∀ j, j < S.n + 1 → w.cell? ⟨b, j * 2, none⟩ = some (.int .i32 ((S.giv.getD j (0, none)).1 : Int)) ∧ w.cell? ⟨b, j * 2 + 1, none⟩ = some (.int .i32 (clI (S.giv.getD j (0, none)).2))) ∧ ∀ j, w.frozen? ⟨b, j, none⟩ = false := h.givsL hw.givl
theorem Mem.clauses {w : World} {g : Nat} {O : Nat → Prop} {S : ES} {p : Nat → Value} (h : Mem w g O S p) {k : Nat} (hk : k < S.cls.length) : ∃ b c, p 1 = .slice (some ⟨b, 0, none⟩) S.cls.length c ∧ w.cell? ⟨b, k * 5, none⟩ = some (.int .i32 ((S.clause k).s : Int)) ∧ w.cell? ⟨b, k * 5 + 1, none⟩ = some (.int .i32 ((S.clause k).e : Int)) ∧ w.cell? ⟨b, k * 5 + 2, none⟩ = some (.int .i32 ((S.clause k).f : Int)) ∧ w.cell? ⟨b, k * 5 + 3, none⟩ = some (.int .i32 ((S.clause k).a : Int)) ∧ w.cell? ⟨b, k * 5 + 4, none⟩ = some (.int .i32 ((S.clause k).b : Int)) ∧ ∀ j, w.frozen? ⟨b, j, none⟩ = false := by
  obtain ⟨b, c, h1, _, h2, h3⟩ := h.form (i := 1) (by unfold used; omega) (by show 0 < S.cls.length; omega)
  have e0 : (lR S p 1)[k * 5 + 0]? = _ := fm_get clF 5 (fun _ => rfl) S.cls k 0 hk (by omega)
  have e1 : (lR S p 1)[k * 5 + 1]? = _ := fm_get clF 5 (fun _ => rfl) S.cls k 1 hk (by omega)
  have e2 : (lR S p 1)[k * 5 + 2]? = _ := fm_get clF 5 (fun _ => rfl) S.cls k 2 hk (by omega)
  have e3 : (lR S p 1)[k * 5 + 3]? = _ := fm_get clF 5 (fun _ => rfl) S.cls k 3 hk (by omega)
  have e4 : (lR S p 1)[k * 5 + 4]? = _ := fm_get clF 5 (fun _ => rfl) S.cls k 4 hk (by omega)
  have hb : ∀ i, i < 5 → k * 5 + i < nR S 1 * szR 1 := fun i hi => by show _ < S.cls.length * 5; omega
  rw [← h2 _ (hb 0 (by omega))] at e0
  rw [← h2 _ (hb 1 (by omega))] at e1
  rw [← h2 _ (hb 2 (by omega))] at e2
  rw [← h2 _ (hb 3 (by omega))] at e3
  rw [← h2 _ (hb 4 (by omega))] at e4
  have e : S.clause k = S.cls[k] := by unfold ES.clause; rw [getD_of _ _ _ hk]
  rw [Nat.add_zero] at e0
  exact ⟨b, c, h1, by rw [e0, e]; rfl, by rw [e1, e]; rfl, by rw [e2, e]; rfl, by rw [e3, e]; rfl, by rw [e4, e]; rfl, h3⟩
/-- the answer's post -/
def DoneW (w : World) (g : Nat) (O : Nat → Prop) (p : Nat → Value) (S : ES) (w' : World) : Prop := ∃ O' p', Mem w' g O' S p' ∧ Fr O w w' O' ∧ ∀ j, 12 ≤ j → p' j = p j
def Done (w : World) (g : Nat) (O : Nat → Prop) (S : ES) (w' : World) : Prop := ∃ O' p', Mem w' g O' S p' ∧ Fr O w w' O'
theorem DoneW.done {w w' : World} {g : Nat} {O : Nat → Prop} {p : Nat → Value} {S : ES} (h : DoneW w g O p S w') : Done w g O S w' := by
  obtain ⟨O', p', a, b, _⟩ := h
  exact ⟨O', p', a, b⟩
theorem upd_12 {p : Nat → Value} {i : Nat} {v : Value} (hi : i < 12) : ∀ j, 12 ≤ j → upd p i v j = p j := fun j hj => by
  unfold upd
  rw [if_neg (by omega)]
theorem falseSince_mem {w : World} {g : Nat} {O : Nat → Prop} {S : ES} {p : Nat → Value} (h : Mem w g O S p) (hw : WF S) {l : Nat} (hl : l < 2 * S.n + 2) :
    Calls Try.prog 42 #[.pointer (some ⟨g, 0, none⟩), .int .i32 (l : Int)] w fun e w' => e = .returned (.int .i32 (S.fs l : Int)) ∧ w' = w := by
  obtain ⟨bv, cv, hp3, hc3, _⟩ := h.vals hw
  obtain ⟨bg, cg, hp4, hc4, _⟩ := h.givs hw
  have d3 : w.cell? ⟨g, 3, none⟩ = some (.slice (some ⟨bv, 0, none⟩) (2 * S.n + 2) cv) := (h.gcell 3).trans (by rw [← hp3]; rfl)
  have d4 : w.cell? ⟨g, 4, none⟩ = some (.slice (some ⟨bg, 0, none⟩) (S.n + 1) cg) := (h.gcell 4).trans (by rw [← hp4]; rfl)
  have c0 := hc3 l hl
  have c1 := (hc4 (l / 2) (by omega)).1
  have hn := hw.n
  have e2 : ((l : Int) / 2) = ((l / 2 : Nat) : Int) := by omega
  have q2 : ((l / 2 : Nat) : Int) < (S.n : Int) + 1 := by omega
  have q1 : (l : Int) < 2 * (S.n : Int) + 2 := by omega
  have efs : (S.fs l : Int) = if 0 ≤ S.val l then 2147483647 else ((S.giv.getD (l / 2) (0, none)).1 : Int) := by
    unfold ES.fs
    split
    · rfl
    · rfl
  rw [efs]
  clear hp3 hc3 hp4 hc4 hw h efs hl
  generalize S.val l = x at *
  generalize l / 2 = ld at *
  generalize (S.giv.getD ld (0, none)).1 = y at *
  generalize S.n = n at *
  by_cases hx : 0 ≤ x
  · rw [if_pos hx]
    go_enter Try.func42, Try.ntmps42
    go_wp2
    go_ret
    exact ⟨rfl, rfl⟩
  · rw [if_neg hx]
    have hx2 : x < 0 := by omega
    go_enter Try.func42, Try.ntmps42
    go_wp2
    go_ret
    exact ⟨rfl, rfl⟩
end Go.Proofs.Ytfpmacnbfbcjgaa
