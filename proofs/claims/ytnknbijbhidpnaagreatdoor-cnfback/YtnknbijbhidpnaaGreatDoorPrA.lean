import Derived.Test.YtnknbijbhidpnaaGreatDoorShelfI
import Derived.ArgAppend
import Derived.Below
import Derived.Deep.AppendLies
import Derived.Deep.Draws
import Derived.Deep.LoopGhost
import Derived.Deep.QuietTactic
import Derived.Deep.RegionLaw
import Derived.Laws.BitsAllLaws
import Derived.Lib.AppendIntMem
import Derived.Lib.AppendStr
import Derived.Lib.AtoiErrMem
import Derived.Lib.ConvBytes
import Derived.Lib.Hide
import Derived.Lib.ItoaLen
import Derived.Lib.ItoaMem
import Derived.Lib.Strings
import Derived.LoopTactic
import Derived.Maps.AppendAt
import Derived.OneCell
import Derived.OpenShut
import Derived.ProofKit
import Derived.WalkKit
import Derived.WalkSpells
namespace Go.Proofs.YtnknbijbhidpnaaGreatDoor
open Go.ChangeShapes Go.WideShapes Go.RowKit Go.Lib

theorem Tryz.infoB : (Tryz.prog.info? 5).map (fun i => (i.zero, i.size, i.bytes)) = some (some (.int .u8 0), 1, 1) := by kernel_rfl
/-- a row of bytes of which no cell is frozen; what stands beyond it is not asked -/
structure OMx (w : World) (g cap : Nat) (l : List UInt8) : Prop where
  lt : g < w.heap.size
  le : l.length ≤ cap
  mx : cap ≤ maxLen
  ok : ∀ j, j < cap → (w.cell? ⟨g, j, none⟩).isSome = true ∧ w.frozen? ⟨g, j, none⟩ = false
  ats : ∀ j u, (Lib.byteCells l)[j]? = some u → w.cell? ⟨g, j, none⟩ = some u
def OwnM (w : World) (B : Nat) (v : Value) (l : List UInt8) : Prop :=
  (v = .slice none 0 0 ∧ l = []) ∨ ∃ g cap, v = .slice (some ⟨g, 0, none⟩) l.length cap ∧ B ≤ g ∧ OMx w g cap l
theorem bc_len (l : List UInt8) : (Lib.byteCells l).length = l.length := by simp [Lib.byteCells]
theorem bc_app2 (a b : List UInt8) : Lib.byteCells (a ++ b) = Lib.byteCells a ++ Lib.byteCells b := by simp [Lib.byteCells]
theorem add_lit0 (g j : Nat) : (⟨g, 0, none⟩ : Addr).add j = ⟨g, j, none⟩ := by unfold Addr.add; split <;> simp_all
theorem OwnM.of_row {w : World} {B : Nat} {v : Value} {l : List UInt8} (h : w.ownsRow B 5 1 v l.length (Lib.byteCells l)) : OwnM w B v l := by
  rcases h.2 with ⟨e, h0⟩ | ⟨g, cap, cur, rfl, hb, hg, h1, h2, h3, h4⟩
  · exact Or.inl ⟨e, List.eq_nil_of_length_eq_zero h0⟩
  · refine Or.inr ⟨g, cap, rfl, hb, (Array.getElem?_eq_some_iff.1 hg).1, h1, h2, fun j hj => ⟨?_, ?_⟩, fun j u hu => ?_⟩
    · rw [cell_of_row w g j cur _ _ hg, Array.getElem?_eq_getElem (by omega)]
      rfl
    · simp [World.frozen?, hg]
    · have := h.cells (g := g) rfl j u hu
      rw [add_lit0] at this
      exact this
theorem OwnM.below {w w' : World} {B : Nat} {v : Value} {l : List UInt8} (h : OwnM w B v l) (hb : Below w.heap.size w w') : OwnM w' B v l := by
  rcases h with h | ⟨g, cap, e, hB, h1, h2, h3, h4, h5⟩
  · exact Or.inl h
  · have hk := hb.block g h1
    refine Or.inr ⟨g, cap, e, hB, Nat.lt_of_lt_of_le h1 hb.size, h2, h3, fun j hj => ⟨?_, ?_⟩, fun j u hu => ?_⟩
    · rw [World.cell?_of_block (w' := w') (w := w) (a := ⟨g, j, none⟩) hk]
      exact (h4 j hj).1
    · rw [World.frozen?_of_block (w' := w') (w := w) (a := ⟨g, j, none⟩) hk]
      exact (h4 j hj).2
    · rw [World.cell?_of_block (w' := w') (w := w) (a := ⟨g, j, none⟩) hk]
      exact h5 j u hu
theorem OwnM.mono {w : World} {B B' : Nat} {v : Value} {l : List UInt8} (h : OwnM w B v l) (hB : B' ≤ B) : OwnM w B' v l := by
  rcases h with h | ⟨g, cap, e, h1, h2⟩
  · exact Or.inl h
  · exact Or.inr ⟨g, cap, e, Nat.le_trans hB h1, h2⟩
theorem bel_one {B g : Nat} (hB : B ≤ g) (w : World) (o : Nat) (v : Value) : Below B w (w.setCell ⟨g, o, none⟩ v) :=
  ⟨rfl, rfl, rfl, by simp, fun k hk => heap_setCell_other _ _ _ _ (fun e => by simp at e; omega)⟩
theorem bel_cells {B g : Nat} (hB : B ≤ g) : ∀ (vs : List Value) (o : Nat) (w : World), Below B w (w.setCells g o vs)
  | [], _, _ => Below.refl _ _
  | v :: vs, o, w => (bel_one hB w o v).trans (bel_cells hB vs (o + 1) (w.setCell ⟨g, o, none⟩ v))
theorem size_cells (g : Nat) : ∀ (vs : List Value) (o : Nat) (w : World), (w.setCells g o vs).heap.size = w.heap.size
  | [], _, _ => rfl
  | v :: vs, o, w => (size_cells g vs (o + 1) (w.setCell ⟨g, o, none⟩ v)).trans (by simp)
theorem OMx.more {w : World} {g cap : Nat} {l m : List UInt8} (h : OMx w g cap l) (hm : l.length + m.length ≤ cap) : OMx (w.setCells g l.length (Lib.byteCells m)) g cap (l ++ m) := by
  have hml := bc_len m
  refine ⟨by rw [size_cells]; exact h.lt, by rw [List.length_append]; exact hm, h.mx, fun j hj => ⟨?_, ?_⟩, fun j u hu => ?_⟩
  · by_cases hin : l.length ≤ j ∧ j < l.length + m.length
    · have := World.cell?_setCells_in g (Lib.byteCells m) l.length w (fun i hi => (h.ok _ (by omega)).1) (j - l.length) (by omega)
      rw [show l.length + (j - l.length) = j by omega] at this
      rw [this]
      rfl
    · rw [World.cell?_setCells_out g _ _ _ _ (fun _ _ => by show j < _ ∨ _ ≤ j; omega)]
      exact (h.ok j hj).1
  · rw [World.frozen?_setCells]
    exact (h.ok j hj).2
  · rw [bc_app2] at hu
    by_cases hlt : j < l.length
    · rw [World.cell?_setCells_out g _ _ _ _ (fun _ _ => Or.inl hlt)]
      rw [List.getElem?_append_left (by rw [bc_len]; exact hlt)] at hu
      exact h.ats j u hu
    · rw [List.getElem?_append_right (by rw [bc_len]; omega), bc_len] at hu
      obtain ⟨hj, e⟩ := List.getElem?_eq_some_iff.1 hu
      have := World.cell?_setCells_in g (Lib.byteCells m) l.length w (fun i hi => (h.ok _ (by omega)).1) (j - l.length) hj
      rw [show l.length + (j - l.length) = j by omega, e] at this
      exact this
theorem bc_one (m : List UInt8) : ∀ u ∈ Lib.byteCells m, u.oneCell' = true := by
  intro u hu
  simp only [Lib.byteCells, List.mem_map] at hu
  obtain ⟨b, _, rfl⟩ := hu
  rfl
theorem OwnM.holds {w : World} {g cap : Nat} {l : List UInt8} (h : OMx w g cap l) : ∀ j u, (Lib.byteCells l)[j]? = some u → w.cell? ((⟨g, 0, none⟩ : Addr).add j) = some u := fun j u hu => by rw [add_lit0]; exact h.ats j u hu
/-- bytes that lie somewhere, appended -/
theorem om_cells {w : World} {B : Nat} {v : Value} {l : List UInt8} (h : OwnM w B v l) (ty : TypeId) (ad : Addr) (m : List UInt8) (c : Nat) (hnews : ∀ j u, (Lib.byteCells m)[j]? = some u → w.cell? (ad.add j) = some u) (hm : 0 < m.length) (hl : l.length + m.length ≤ 140737488355328) (hB : B ≤ w.heap.size) :
    ∃ v' w', (Builtin.append_ #[48, 48] ty #[v, .slice (some ad) m.length c]).run Tryz.prog w = .ok v' w' ∧ OwnM w' B v' (l ++ m) ∧ Below B w w' := by
  obtain ⟨i0, hi0, hz0, hz1, hz2⟩ := info_parts Tryz.infoB
  have hmx : l.length + m.length ≤ maxLen := by unfold maxLen; omega
  rcases h with ⟨rfl, rfl⟩ | ⟨g, cap, rfl, hBg, hx⟩
  · obtain ⟨g, cap, w', hr, ho, hg, _, _⟩ := run_append_lies (P := Tryz.prog) w 48 ty B 5 i0 (.int .u8 0) 1 1 Tryz.underlying48 hi0 hz0 hz1 hz2 rfl (by decide) (.slice none 0 0) 0 [] (World.ownsRow_nil _ _ _ _) ad m.length c (Lib.byteCells m) (by rw [bc_len, Nat.mul_one]) hnews (bc_one m) hm (by simpa using hmx) (by simpa using hl) hB _ rfl
    refine ⟨_, w', hr, OwnM.of_row ?_, ⟨hg.os, hg.tape, hg.output, hg.size, fun k hk => hg.block k (by omega) (by simp [Value.ownBlock])⟩⟩
    simpa using ho
  · by_cases hroom : l.length + m.length ≤ cap
    · have hr := run_append_room_cells (P := Tryz.prog) w 48 ty 5 i0 Tryz.underlying48 hi0 g 0 l.length cap ad m.length c (Lib.byteCells m) (by rw [bc_len, hz1, Nat.mul_one]) hnews (bc_one m) hroom (fun j hj => by rw [bc_len] at hj; rw [hz1]; simp only [Nat.mul_one, Nat.zero_add]; exact (hx.ok _ (by omega)).1) (fun j hj => by rw [bc_len] at hj; rw [hz1]; simp only [Nat.mul_one, Nat.zero_add]; exact (hx.ok _ (by omega)).2)
      rw [hz1] at hr
      simp only [Nat.mul_one, Nat.zero_add] at hr
      exact ⟨_, _, hr, Or.inr ⟨g, cap, by rw [List.length_append], hBg, hx.more hroom⟩, bel_cells hBg _ _ _⟩
    · obtain ⟨v', w', hr, ho, hg⟩ := run_append_arg_grows (P := Tryz.prog) w 48 ty 5 i0 (.int .u8 0) 1 1 Tryz.underlying48 hi0 hz0 hz1 hz2 rfl (by decide) ⟨g, 0, none⟩ l.length cap (Lib.byteCells l) (by rw [bc_len, Nat.mul_one]) (OwnM.holds hx) ad m.length c (Lib.byteCells m) (by rw [bc_len, Nat.mul_one]) hnews (by omega) hmx (by omega)
      refine ⟨v', w', hr, (OwnM.of_row ?_ : OwnM w' w.heap.size v' (l ++ m)).mono hB, ⟨hg.os, hg.tape, hg.output, hg.size, fun k hk => hg.block k (by omega) (by simp)⟩⟩
      rw [List.length_append, bc_app2]
      exact ho
theorem sc_bc (s : ByteArray) : strCells s = Lib.byteCells s.data.toList := by simp [strCells, Lib.byteCells]
/-- a string appended -/
theorem om_str {w : World} {B : Nat} {v : Value} {l : List UInt8} (h : OwnM w B v l) (ty : TypeId) (s : ByteArray) (hl : l.length + s.size ≤ 140737488355328) (hB : B ≤ w.heap.size) :
    ∃ v' w', (Builtin.append_ #[48, 9] ty #[v, .string s]).run Tryz.prog w = .ok v' w' ∧ OwnM w' B v' (l ++ s.data.toList) ∧ Below B w w' := by
  obtain ⟨i0, hi0, hz0, hz1, hz2⟩ := info_parts Tryz.infoB
  have hmx : l.length + s.size ≤ maxLen := by unfold maxLen; omega
  have hsz : s.data.toList.length = s.size := (Lib.size_eq s).symm
  rcases h with ⟨rfl, rfl⟩ | ⟨g, cap, rfl, hBg, hx⟩
  · obtain ⟨v', w', hr, ho, hg, _⟩ := run_append_own_string (P := Tryz.prog) w B 48 9 ty 5 i0 Tryz.underlying48 Tryz.underlying9 hi0 hz0 hz1 hz2 (.slice none 0 0) 0 [] (World.ownsRow_nil _ _ _ _) s (by simpa using hmx) (by simpa using hl) hB
    refine ⟨v', w', hr, OwnM.of_row ?_, ⟨hg.os, hg.tape, hg.output, hg.size, fun k hk => hg.block k (by omega) (by simp [Value.ownBlock])⟩⟩
    rw [List.nil_append, hsz, ← sc_bc]
    simpa using ho
  · by_cases hroom : l.length + s.size ≤ cap
    · have hf := run_firstCells_string (P := Tryz.prog) w 1 s
      have hst := run_storeCells_cells (P := Tryz.prog) g l.length (strCells s) 0 w (fun j hj => by rw [strCells_length] at hj; simpa using (hx.ok (l.length + j) (by omega)).1) (fun j hj => by rw [strCells_length] at hj; simpa using (hx.ok (l.length + j) (by omega)).2) (strCells_oneCell s)
      simp only [Nat.add_zero] at hst
      have hr : (Builtin.append_ #[48, 9] ty #[.slice (some ⟨g, 0, none⟩) l.length cap, .string s]).run Tryz.prog w = .ok (.slice (some ⟨g, 0, none⟩) (l.length + s.size) cap) (w.setCells g l.length (strCells s)) := by
        simp [Builtin.append_, run_underlying Tryz.underlying48, run_underlying Tryz.underlying9, sizeOf, typeInfo, hi0, hz1, Builtin.lenOf, hroom, hf, Addr.add_lit, hst]
      rw [sc_bc] at hr
      exact ⟨_, _, hr, Or.inr ⟨g, cap, by rw [List.length_append, hsz], hBg, hx.more (by rw [hsz]; exact hroom)⟩, bel_cells hBg _ _ _⟩
    · have hr := run_append_grow_string (P := Tryz.prog) w 48 9 ty 5 i0 (.int .u8 0) Tryz.underlying48 Tryz.underlying9 hi0 hz0 ⟨g, 0, none⟩ l.length cap (Lib.byteCells l) (by rw [bc_len, hz1, Nat.mul_one]) (OwnM.holds hx) s (by omega) (by omega) (by rw [hz2]; exact growslice_fits (by omega) (by omega))
      have hge := grownCap_ge w (l.length + s.size) cap 5
      have hcm : grownCap w (l.length + s.size) cap 5 ≤ maxLen := grownCap_le_maxLen w (l.length + s.size) cap 5 hmx
      refine ⟨_, _, hr, (OwnM.of_row ?_ : OwnM _ w.heap.size _ (l ++ s.data.toList)).mono hB, ⟨rfl, rfl, rfl, by simp, fun k hk => Below.heap_alloc w.drew _ k (by show k < w.heap.size; omega)⟩⟩
      rw [List.length_append, hsz, bc_app2, ← sc_bc]
      refine ⟨by rw [List.length_append, bc_len, strCells_length, Nat.mul_one], .inr ⟨w.heap.size, _, _, rfl, Nat.le_refl _, heap_alloc_new w.drew _, hge, hcm, ?_, ?_⟩⟩
      · have hz1' : (Value.int IntKind.u8 0).cells.size = 1 := rfl
        simp only [Array.size_append, List.size_toArray, size_zeroCells, hz1', bc_len, strCells_length]
        omega
      · simp only [Array.toList_append, List.append_assoc]
        rw [← List.append_assoc]
        have e7 : (l.length + s.size) * 1 = (Lib.byteCells l ++ strCells s).length := by rw [List.length_append, bc_len, strCells_length, Nat.mul_one]
        rw [e7]
        exact List.take_left
/-- the bytes of a string -/
theorem om_of_str (w : World) (s : ByteArray) (hs : s.size ≤ 140737488355328) : ∃ v' w', (convert 9 48 (.string s)).run Tryz.prog w = .ok v' w' ∧ OwnM w' w.heap.size v' s.data.toList ∧ Below w.heap.size w w' := by
  have hsz : s.data.toList.length = s.size := (Lib.size_eq s).symm
  refine ⟨_, _, Lib.run_convert_string_bytes (P := Tryz.prog) w 9 48 5 s Tryz.underlying9 Tryz.underlying48 Tryz.underlying5, Or.inr ⟨w.heap.size, grownCap w s.size 0 5, by rw [hsz], Nat.le_refl _, ?_⟩, ?_⟩
  · have hge := grownCap_ge w s.size 0 5
    have hcs : (bytesCells w 5 s).size = grownCap w s.size 0 5 := by
      simp [bytesCells]
      have : s.data.size = s.size := rfl
      omega
    refine ⟨by rw [bytesWorld_size]; omega, by rw [hsz]; exact hge, grownCap_le_maxLen w s.size 0 5 (by unfold maxLen; omega), fun j hj => ⟨?_, ?_⟩, fun j u hu => ?_⟩
    · rw [cell_of_row _ _ j _ _ _ (bytesWorld_at_new w 5 s), Array.getElem?_eq_getElem (by omega)]
      rfl
    · have := bytesWorld_at_new w 5 s
      simp [World.frozen?, this]
      omega
    · obtain ⟨hj, e⟩ := List.getElem?_eq_some_iff.1 hu
      rw [bc_len, hsz] at hj
      rw [bytesWorld_cell w 5 s j hj, ← e]
      simp [Lib.byteCells, hj, List.getD]
  · exact ⟨rfl, rfl, rfl, by rw [bytesWorld_size]; omega, fun k hk => bytesWorld_at_old w 5 s k hk⟩
theorem om_back {w : World} {B : Nat} {v : Value} {l : List UInt8} (h : OwnM w B v l) : (convert 48 9 v).run Tryz.prog w = .ok (.string ⟨l.toArray⟩) w := by
  rcases h with ⟨rfl, rfl⟩ | ⟨g, cap, rfl, hBg, hx⟩
  · exact run_convert_bytes_string w 48 9 5 none 0 0 Tryz.underlying48 Tryz.underlying5 Tryz.underlying9
  · exact run_convert_bytes_back (P := Tryz.prog) w 48 9 5 ⟨g, 0, none⟩ cap l Tryz.underlying48 Tryz.underlying5 Tryz.underlying9 (fun j hj => OwnM.holds hx j _ (by simp [Lib.byteCells, hj]))
end Go.Proofs.YtnknbijbhidpnaaGreatDoor
