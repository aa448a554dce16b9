import Derived.Test.YtmfdcemfdkdalaaDoorTmN
import Derived.Shelf.Pu.Clone
namespace Go.Proofs.YtmfdcemfdkdalaaDoor
open Go.ChangeShapes Go.WideShapes Go.ChangeAt Go.RowKit Go.Lib Go.Tm Go.Bw Go.Bn Go.WideMaps Go.Maps Go.ChangeMaps

set_option maxHeartbeats 4000000 in
theorem namef_any (ty : TypeId) (B0 B : Nat) (lim : Int) (L : List Nd) (v : Value) (M1 M2 : Option Nat) (n : Nd) (w : World) (h : SM ty w B0 B lim L v M1 M2) (hn : n.name.size ≤ 140737488355328) :
    Calls Tryd.prog 68 #[.pointer (some ⟨B, 0, none⟩), nodeV n] w fun e w' => e = .returned (.bool (nf L n)) ∧ Below w.heap.size w w' := by
  have HN : Hid (∀ W, Calls Tryd.prog 80 #[.string n.name] W fun e w' => e = .returned (.bool (nmB n.name)) ∧ Below W.heap.size W w') := fun W => name_bel n.name W (by unfold maxLen; omega)
  have HR : Hid (nf L n = (nmB n.name && (match vw n.name L with | none => true | some u => decide (u = n.w)))) := rfl
  have HS : Hid (SM ty w B0 B lim L v M1 M2) := h
  have HK : Hid (n.name.size ≤ 140737488355328) := hn
  obtain ⟨op, u, a, b, c, num, nm⟩ := n
  dsimp only at HN HR HK
  clear h hn
  generalize nf L ⟨op, u, a, b, c, num, nm⟩ = R at *
  cases hnm : nmB nm with
  | false =>
    rw [hnm] at HN HR
    go_enter Tryd.func68, Tryd.ntmps68
    go_wp2_with (go_at_call 80; refine (HN.out _).mono ?_; rintro e w1 ⟨rfl, hb⟩)
    go_ret
    exact ⟨ret_bool (by rw [HR.out]; rfl), (bel1 _ _).trans (hb.mono (by simp))⟩
  | true =>
    rw [hnm] at HN HR
    go_enter Tryd.func68, Tryd.ntmps68
    go_wp2_with fail
    refine (HN.out _).mono ?_
    rintro e w1 ⟨rfl, hb⟩
    have hb1 : Below w.heap.size w w1 := (bel1 _ _).trans (hb.mono (by simp))
    have hS1 := HS.out.below hb1
    have hlt : w.heap.size < w1.heap.size := by have := hb.size; simp at this; omega
    obtain ⟨D, hm, hF⟩ := hS1.m2
    have hrun := hF.look lawS Tryd.underlying54 hm nm HK.out
    have hrunD := hF.look lawS Tryd.underlying54 hm.drew nm HK.out
    have c3 : w1.cell? ⟨B, 3, none⟩ = some (.map M2) := blk_cell hS1.blk 3
    have hnode : ∀ j, j < 7 → w1.cell? ⟨w.heap.size, j, none⟩ = (#[Value.int .i64 op, .int .i64 u, .int .i64 a, .int .i64 b, .int .i64 c, .int .u64 num, .string nm] : Array Value)[j]? := fun j hj => by
      rw [hb.cell (p := ⟨w.heap.size, j, none⟩) (by simp)]
      exact blk_cell (heap_alloc_new w _) j
    have d1 : w1.cell? ⟨w.heap.size, 1, none⟩ = some (.int .i64 u) := hnode 1 (by omega)
    have d6 : w1.cell? ⟨w.heap.size, 6, none⟩ = some (.string nm) := hnode 6 (by omega)
    clear hS1 hm hF hnode hb
    unfold varF at hrun hrunD
    cases hv : vw nm L with
    | none =>
      rw [hv] at hrun hrunD HR
      go_wp2
      go_region
      all_goals go_wp2
      all_goals go_ret
      all_goals exact ⟨ret_bool (by rw [HR.out]; rfl), by first | exact hb1.drew | exact hb1⟩
    | some x =>
      rw [hv] at hrun hrunD HR
      go_wp2
      go_region
      all_goals go_wp2
      all_goals go_ret
      all_goals exact ⟨ret_bool (by rw [HR.out]; rfl), by first | exact hb1.drew | exact hb1⟩
end Go.Proofs.YtmfdcemfdkdalaaDoor
