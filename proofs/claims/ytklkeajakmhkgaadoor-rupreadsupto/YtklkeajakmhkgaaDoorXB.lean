import Derived.Test.YtklkeajakmhkgaaDoorXA
namespace Go.Proofs.YtklkeajakmhkgaaDoor
open Go.ChangeShapes Go.WideShapes Go.ChangeAt Go.RowKit Go.Lib

/-- steps of a proof in memory -/
def Stp (w : World) (ad : Option Addr) (ps : List (Bool × List Int)) : Prop :=
  0 < ps.length → ∃ b off, ad = some ⟨b, off, none⟩ ∧ b < w.heap.size ∧ ∀ j, j < ps.length → ∃ aj cj, w.cell? ⟨b, off + j * 2, none⟩ = some (.bool (ps.getD j (false, [])).1) ∧ w.cell? ⟨b, off + j * 2 + 1, none⟩ = some (.slice aj (ps.getD j (false, [])).2.length cj) ∧ Ints w aj (ps.getD j (false, [])).2
theorem Stp.below {w w' : World} {ad : Option Addr} {ps : List (Bool × List Int)} (h : Stp w ad ps) (hb : Below w.heap.size w w') : Stp w' ad ps := by
  intro h0
  obtain ⟨b, off, e, hlt, hc⟩ := h h0
  refine ⟨b, off, e, Nat.lt_of_lt_of_le hlt hb.size, fun j hj => ?_⟩
  obtain ⟨aj, cj, h1, h2, h3⟩ := hc j hj
  exact ⟨aj, cj, (hb.cell (p := ⟨b, off + j * 2, none⟩) hlt).trans h1, (hb.cell (p := ⟨b, off + j * 2 + 1, none⟩) hlt).trans h2, h3.below hb⟩
def stT (s : Bool × List Int) : List UInt8 := (if s.1 = true then [100, 32] else []) ++ txtL s.2 ++ [48, 10]
/-- the text of a proof -/
def txtS (ps : List (Bool × List Int)) : List UInt8 := ps.flatMap stT
theorem txtS_snoc (ps : List (Bool × List Int)) (s : Bool × List Int) : txtS (ps ++ [s]) = txtS ps ++ stT s := by simp [txtS, List.flatMap_append]
theorem takeS (ps : List (Bool × List Int)) (k : Nat) (h : k < ps.length) : ps.take (k + 1) = ps.take k ++ [ps.getD k (false, [])] := by
  rw [List.take_add_one, List.getElem?_eq_getElem h, getD_of _ _ _ h]
  rfl
/-- bounds of what came in -/
structure SBd (ps : List (Bool × List Int)) : Prop where
  len : ps.length ≤ 1048576
  each : ∀ s ∈ ps, s.2.length ≤ 1048576 ∧ ∀ x ∈ s.2, -9223372036854775808 ≤ x ∧ x ≤ 9223372036854775807
theorem stT_len {s : Bool × List Int} (h : s.2.length ≤ 1048576 ∧ ∀ x ∈ s.2, -9223372036854775808 ≤ x ∧ x ≤ 9223372036854775807) : (stT s).length ≤ 23068676 := by
  have h1 := txtL_len s.2 h.2
  have h2 := h.1
  unfold stT
  rw [List.length_append, List.length_append]
  split <;> simp <;> omega
theorem txtS_len : ∀ {ps : List (Bool × List Int)}, (∀ s ∈ ps, s.2.length ≤ 1048576 ∧ ∀ x ∈ s.2, -9223372036854775808 ≤ x ∧ x ≤ 9223372036854775807) → (txtS ps).length ≤ 23068676 * ps.length
  | [], _ => by simp [txtS]
  | s :: ps, h => by
    have h1 := txtS_len (ps := ps) (fun t ht => h t (List.mem_cons_of_mem _ ht))
    have h2 := stT_len (h s (List.mem_cons_self ..))
    have e : txtS (s :: ps) = stT s ++ txtS ps := rfl
    rw [e, List.length_append, List.length_cons]
    omega
theorem SBd.txt {ps : List (Bool × List Int)} (h : SBd ps) (k : Nat) : (txtS (ps.take k)).length ≤ 24189260005376 := by
  have h1 := txtS_len (ps := ps.take k) (fun s hs => h.each s (List.mem_of_mem_take hs))
  have h2 := h.len
  rw [List.length_take] at h1
  have h3 : 23068676 * min k ps.length ≤ 23068676 * 1048576 := Nat.mul_le_mul_left _ (by omega)
  omega
theorem cells2 (a b : UInt8) : Lib.strCells ⟨#[a, b]⟩ = Lib.byteCells [a, b] := rfl
end Go.Proofs.YtklkeajakmhkgaaDoor
