import Derived.Test.YtkbfoahfehfjnaaGreatDoorTmE3
import Derived.Deep.RegionWith
namespace Go.Proofs.YtkbfoahfehfjnaaGreatDoor
open Go.ChangeShapes Go.WideShapes Go.ChangeAt Go.RowKit Go.Lib Go.Tm Go.Bw Go.Bn Go.WideMaps Go.Maps Go.ChangeMaps

/-- the document's count: -1 of a number that is no operation -/
def rpt (op : Int) : Int := if op < 1 ∨ 33 < op then -1 else pt op
set_option maxHeartbeats 4000000 in
theorem rparts_any (op : Int) (w : World) :
    Calls Tryz.prog 29 #[.int .i64 op] w fun e w' => e = .returned (.int .i64 (rpt op)) ∧ w' = w := by
  go_enter Tryz.func29, Tryz.ntmps29
  go_wp2
  all_goals go_ret
  all_goals refine ⟨ret_int ?_, rfl⟩
  all_goals (try simp only [beq_iff_eq, beq_eq_false_iff_ne] at *)
  all_goals unfold rpt pt
  all_goals repeat' split
  all_goals omega
theorem is_any (ty : TypeId) (B0 B : Nat) (lim : Int) (L : List Nd) (v : Value) (M1 M2 : Option Nat) (t : Int) (w : World) (h : SM ty w B0 B lim L v M1 M2) :
    Calls Tryz.prog 30 #[.pointer (some ⟨B, 0, none⟩), .int .i64 t] w fun e w' => e = .returned (.bool (isT L t)) ∧ w' = w := by
  obtain ⟨ad, c, rfl, hc, _⟩ := h.form
  have c1 : w.cell? ⟨B, 1, none⟩ = some (.slice ad L.length c) := blk_cell h.blk 1
  have hl : Hid (∀ t, isT L t = decide (1 ≤ t ∧ t ≤ (L.length : Int))) := fun t => rfl
  generalize L.length = n at *
  clear h
  by_cases h1 : 1 ≤ t
  · have hl2 : Hid (isT L t = decide (t ≤ (n : Int))) := by show _ = _; rw [hl.out]; simp [h1]
    have q1 : decide (1 ≤ t) = true := decide_eq_true h1
    go_enter Tryz.func30, Tryz.ntmps30
    go_wp2
    go_ret
    exact ⟨ret_bool hl2.out.symm, rfl⟩
  · have hl2 : Hid (isT L t = false) := by show _ = _; rw [hl.out]; exact decide_eq_false (fun h7 => h1 h7.1)
    have q1 : decide (1 ≤ t) = false := decide_eq_false h1
    go_enter Tryz.func30, Tryz.ntmps30
    go_wp2
    go_ret
    exact ⟨ret_bool hl2.out.symm, rfl⟩
theorem w_any (ty : TypeId) (B0 B : Nat) (lim : Int) (L : List Nd) (v : Value) (M1 M2 : Option Nat) (t : Int) (w : World) (h : SM ty w B0 B lim L v M1 M2) (hi : isT L t = true) :
    Calls Tryz.prog 28 #[.pointer (some ⟨B, 0, none⟩), .int .i64 t] w fun e w' => e = .returned (.int .i64 (wd L t)) ∧ w' = w := by
  have ht : 1 ≤ t ∧ t ≤ (L.length : Int) := of_decide_eq_true hi
  have hw : Hid (wd L t = (L.getD (t.toNat - 1) z0).w) := by show _ = _; unfold wd; rw [if_pos hi]
  clear hi
  obtain ⟨ad, c, rfl, hc, hcell⟩ := h.form
  obtain ⟨g, rfl, hg⟩ := hcell (by omega)
  have c1 : w.cell? ⟨B, 1, none⟩ = some (.slice (some ⟨g, 0, none⟩) L.length c) := blk_cell h.blk 1
  obtain ⟨i, rfl⟩ : ∃ i : Nat, t = (i : Int) + 1 := ⟨t.toNat - 1, by omega⟩
  have c2 : w.cell? ⟨g, i * 7 + 1, none⟩ = some (.int .i64 (L.getD i z0).w) := by rw [hg i 1 (by omega) (by omega)]; rfl
  have e0 : ((i : Int) + 1).toNat - 1 = i := by omega
  rw [e0] at hw
  generalize (L.getD i z0).w = W at *
  have q1 : (i : Int) < (L.length : Int) := by omega
  have hlen := h.len
  clear h hg hcell
  generalize L.length = n at *
  clear ht e0
  go_enter Tryz.func28, Tryz.ntmps28
  go_wp2
  go_ret
  exact ⟨ret_int hw.out.symm, rfl⟩
set_option maxHeartbeats 4000000 in
theorem extra_any (n : Nd) (w : World) :
    Calls Tryz.prog 31 #[nodeV n, .int .i64 (pt n.op)] w fun e w' => e = .returned (.bool (!br n)) ∧ Below w.heap.size w w' := by
  obtain ⟨op, v, a, b, c, num, nm⟩ := n
  have HR : Hid (br ⟨op, v, a, b, c, num, nm⟩ = ((decide (1 ≤ pt op) || decide (a = 0)) && ((decide (2 ≤ pt op) || decide (b = 0)) && ((decide (3 ≤ pt op) || decide (c = 0)) && ((decide (op = 3) || (decide (op = 31) || decide (num = 0))) && (decide (op = 4) || decide (nm.size = 0))))))) := rfl
  have he : Hid (nm.toList.isEmpty = decide (nm.size = 0)) := by
    show _ = _
    by_cases h0 : nm.size = 0
    · rw [empty_yes nm h0, decide_eq_true h0]
    · rw [empty_no nm h0, decide_eq_false h0]
  have HQ : Hid ((nm.toList = [] ↔ nm = ByteArray.empty) ∧ (nm.size = 0 ↔ nm = ByteArray.empty)) := by
    have hs : nm.size = 0 ↔ nm = ByteArray.empty := by
      constructor
      · intro h
        simpa using h
      · intro h
        rw [h]
        rfl
    refine ⟨?_, hs⟩
    rw [← hs]
    have h1 := he.out
    rw [← List.isEmpty_iff, h1]
    simp
  dsimp only
  obtain ⟨p, hpp⟩ : ∃ p, pt op = p := ⟨_, rfl⟩
  have hp3 := pt_lo op
  rw [hpp] at HR hp3
  rw [hpp]
  generalize br ⟨op, v, a, b, c, num, nm⟩ = R at *
  clear hpp
  have hc : p = 0 ∨ p = 1 ∨ p = 2 ∨ p = 3 := by omega
  clear hp3
  rcases hc with rfl | rfl | rfl | rfl
  all_goals go_enter Tryz.func31, Tryz.ntmps31
  all_goals go_wp2
  all_goals go_ret
  all_goals refine ⟨ret_bool ?_, bel1 _ _⟩
  all_goals rw [HR.out]
  all_goals have hq1 := HQ.out.1
  all_goals have hq2 := HQ.out.2
  all_goals clear HR HQ he
  all_goals simp_all [bne]
  all_goals have h9 : nm.toList.isEmpty = false := (by
    cases hx : nm.toList.isEmpty with
    | false => rfl
    | true => exact absurd (List.isEmpty_iff.1 hx) (by assumption))
  all_goals rw [h9]
  all_goals rfl
end Go.Proofs.YtkbfoahfehfjnaaGreatDoor
