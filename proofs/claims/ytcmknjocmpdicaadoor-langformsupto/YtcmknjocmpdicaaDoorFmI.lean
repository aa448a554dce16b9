import Derived.Test.YtcmknjocmpdicaaDoorFmH
import Derived.Test.YtcmknjocmpdicaaDoorFmG
namespace Go.Proofs.YtcmknjocmpdicaaDoor
open Go.ChangeShapes Go.WideShapes Go.ChangeAt Go.RowKit Go.Bn

/-- how many expressions a list has, with all that stand in them -/
def CS (w : World) : Nat → Value → Nat
  | 0, _ => 0
  | m + 1, .slice (some ⟨b, o, _⟩) len _ => ((List.range len).map fun j => 1 + CS w m ((w.cell? ⟨b, o + j * 4 + 3, none⟩).getD undef)).sum
  | _ + 1, _ => 0
/-- the weight of what is left -/
def wtE (w : World) (E : List (Value × Nat)) : Nat := (E.map fun p => 1 + CS w p.2 p.1).sum
theorem wtE_app (w : World) (A B : List (Value × Nat)) : wtE w (A ++ B) = wtE w A + wtE w B := by simp [wtE]
theorem wtE_len (w : World) (E : List (Value × Nat)) : E.length ≤ wtE w E := by
  induction E with
  | nil => simp
  | cons p E ih => simp only [wtE, List.map_cons, List.sum_cons, List.length_cons] at *; omega
/-- the lists that are left: trees in memory; FA holds just if all of them are of the form -/
structure LI (w : World) (FA : Prop) (E : List (Value × Nat)) : Prop where
  tr : ∀ p ∈ E, SX w (EX w p.2) p.1
  iff : FA ↔ ∀ p ∈ E, SF w (FE w p.2) p.1
/-- one list is taken, its first j expressions are looked at -/
structure LJ (w : World) (FA : Prop) (E : List (Value × Nat)) (ad : Option Addr) (len m j : Nat) : Prop where
  tr : ∀ p ∈ E, SX w (EX w p.2) p.1
  iff : FA ↔ (∀ p ∈ E, SF w (FE w p.2) p.1) ∧ ∀ i, j ≤ i → i < len → KO w (FE w m) ad i
theorem LI.pop {w : World} {FA : Prop} {E : List (Value × Nat)} {ad : Option Addr} {len cap m : Nat} (h : LI w FA (E ++ [(.slice ad len cap, m)])) : LJ w FA E ad len m 0 ∧ SX w (EX w m) (.slice ad len cap) := by
  refine ⟨⟨fun p hp => h.tr p (List.mem_append_left _ hp), h.iff.trans ⟨fun h2 => ⟨fun p hp => h2 p (List.mem_append_left _ hp), fun i _ hi => SF_iff.1 (h2 (.slice ad len cap, m) (List.mem_append_right _ (List.mem_singleton.2 rfl))) i hi⟩, fun h2 p hp => ?_⟩⟩, h.tr (.slice ad len cap, m) (List.mem_append_right _ (List.mem_singleton.2 rfl))⟩
  rcases List.mem_append.1 hp with h3 | h3
  · exact h2.1 p h3
  · rw [List.mem_singleton.1 h3]
    exact SF_iff.2 fun i hi => h2.2 i (Nat.zero_le _) hi
theorem LJ.done {w : World} {FA : Prop} {E : List (Value × Nat)} {ad : Option Addr} {len m : Nat} (h : LJ w FA E ad len m len) : LI w FA E := ⟨h.tr, h.iff.trans ⟨fun h2 => h2.1, fun h2 => ⟨h2, fun i h3 h4 => absurd h3 (by omega)⟩⟩⟩
/-- an expression is good in itself, and its parts are laid to the rest -/
theorem LJ.step {w : World} {FA : Prop} {E : List (Value × Nat)} {b o len m j : Nat} {k x : Int} {s : ByteArray} {sl : Value} (h : LJ w FA E (some ⟨b, o, none⟩) len (m + 1) j) (hj : j < len)
    (h0 : w.cell? ⟨b, o + j * 4, none⟩ = some (.int .i64 k)) (h1 : w.cell? ⟨b, o + j * 4 + 1, none⟩ = some (.int .u64 x)) (h2 : w.cell? ⟨b, o + j * 4 + 2, none⟩ = some (.string s)) (h3 : w.cell? ⟨b, o + j * 4 + 3, none⟩ = some sl) (hs : SX w (EX w m) sl) (hok : okE k x s sl) : LJ w FA (E ++ [(sl, m)]) (some ⟨b, o, none⟩) len (m + 1) (j + 1) := by
  have hk : KO w (FE w (m + 1)) (some ⟨b, o, none⟩) j ↔ SF w (FE w m) sl := (KO_at h0 h1 h2 h3).trans (FE_succ.trans ⟨fun h => h.2, fun h => ⟨hok, h⟩⟩)
  refine ⟨fun p hp => ?_, h.iff.trans ⟨fun h4 => ⟨fun p hp => ?_, fun i hi hl => h4.2 i (by omega) hl⟩, fun h4 => ⟨fun p hp => h4.1 p (List.mem_append_left _ hp), fun i hi hl => ?_⟩⟩⟩
  · rcases List.mem_append.1 hp with h5 | h5
    · exact h.tr p h5
    · rw [List.mem_singleton.1 h5]; exact hs
  · rcases List.mem_append.1 hp with h5 | h5
    · exact h4.1 p h5
    · rw [List.mem_singleton.1 h5]; exact hk.1 (h4.2 j (Nat.le_refl _) hj)
  · by_cases e : i = j
    · subst e
      exact hk.2 (h4.1 (sl, m) (List.mem_append_right _ (List.mem_singleton.2 rfl)))
    · exact h4.2 i (by omega) hl
/-- what FA says of the expression that comes -/
theorem LJ.next {w : World} {FA : Prop} {E : List (Value × Nat)} {b o len m j : Nat} {k x : Int} {s : ByteArray} {sl : Value} (h : LJ w FA E (some ⟨b, o, none⟩) len (m + 1) j) (hj : j < len)
    (h0 : w.cell? ⟨b, o + j * 4, none⟩ = some (.int .i64 k)) (h1 : w.cell? ⟨b, o + j * 4 + 1, none⟩ = some (.int .u64 x)) (h2 : w.cell? ⟨b, o + j * 4 + 2, none⟩ = some (.string s)) (h3 : w.cell? ⟨b, o + j * 4 + 3, none⟩ = some sl) (hf : FA) : okE k x s sl :=
  (FE_succ.1 ((KO_at h0 h1 h2 h3).1 ((h.iff.1 hf).2 j (Nat.le_refl _) hj))).1
theorem CS_step {w : World} {m b o len cap : Nat} : CS w (m + 1) (.slice (some ⟨b, o, none⟩) len cap) = ((List.range len).map fun j => 1 + CS w m ((w.cell? ⟨b, o + j * 4 + 3, none⟩).getD undef)).sum := rfl
theorem sum_take {f : Nat → Nat} {j len : Nat} (h : j ≤ len) : ((List.range j).map f).sum ≤ ((List.range len).map f).sum := by
  induction len with
  | zero => have e : j = 0 := by omega
            subst e; exact Nat.le_refl _
  | succ n ih =>
    by_cases e : j = n + 1
    · subst e; exact Nat.le_refl _
    · rw [List.range_succ, List.map_append, List.sum_append]
      have := ih (by omega)
      omega
/-- an expression as it is handed to a round: where it stands, what it holds; what FA says of it -/
abbrev NX (w : World) (FA : Prop) := { p : (Nat × Nat) × (Int × Int × ByteArray × Value) // p.1.1 < w.heap.size ∧ w.cell? ⟨p.1.1, p.1.2, none⟩ = some (.int .i64 p.2.1) ∧ w.cell? ⟨p.1.1, p.1.2 + 1, none⟩ = some (.int .u64 p.2.2.1) ∧ w.cell? ⟨p.1.1, p.1.2 + 2, none⟩ = some (.string p.2.2.2.1) ∧ w.cell? ⟨p.1.1, p.1.2 + 3, none⟩ = some p.2.2.2.2 ∧ p.2.2.2.1.size ≤ maxLen ∧ (∃ ad len cap, p.2.2.2.2 = .slice ad len cap) ∧ (FA → okE p.2.1 p.2.2.1 p.2.2.2.1 p.2.2.2.2) }
def encN {w : World} {FA : Prop} (x : NX w FA) : Array Value := #[.pointer (some ⟨x.1.1.1, x.1.1.2, none⟩)]
def goodN {w : World} {FA : Prop} (x : NX w FA) : Prop := okE x.1.2.1 x.1.2.2.1 x.1.2.2.2.1 x.1.2.2.2.2
end Go.Proofs.YtcmknjocmpdicaaDoor
