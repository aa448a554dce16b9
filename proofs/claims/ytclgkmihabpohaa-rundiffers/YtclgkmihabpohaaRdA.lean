import Derived.Test.YtclgkmihabpohaaRows
import Derived.WalkKit
import Derived.ProofKit
import Derived.OpenShut
import Derived.WalkSpells
import Derived.LoopTactic
import Derived.Below
import Derived.Deep.LoopGhost
import Derived.Deep.Draws
import Derived.Deep.QuietTactic
import Derived.Deep.RegionLaw
import Derived.Deep.RegionHeld3
import Derived.Deep.AppendLies
import Derived.Deep.Cut
import Derived.Lib.Hide
import Derived.Laws.StructEq
import Derived.Laws.ResultCell
import Derived.Laws.Rows
import Derived.BigQuiet
namespace Go.Proofs.Ytclgkmihabpohaa
open Go.ChangeShapes Go.WideShapes Go.ChangeAt Go.RowKit Go.Lib

abbrev S3 := Int × Int × Int
abbrev z3 : S3 := (0, 0, 0)
abbrev evV (x : S3) : Value := .agg #[.int .i64 x.1, .int .u64 x.2.1, .int .u64 x.2.2]
/-- how far two lists go the same way -/
def pre : List S3 → List S3 → Nat
  | [], _ => 0
  | _ :: _, [] => 0
  | x :: r, y :: s => if x = y then pre r s + 1 else 0
theorem pre_le : ∀ t u : List S3, pre t u ≤ t.length ∧ pre t u ≤ u.length
  | [], _ => by simp [pre]
  | _ :: _, [] => by simp [pre]
  | x :: r, y :: s => by
    have h := pre_le r s
    unfold pre
    split <;> simp <;> omega
theorem pre_eq : ∀ (t u : List S3) (i : Nat), i < pre t u → t.getD i z3 = u.getD i z3
  | [], _, i, h => absurd h (by simp [pre])
  | _ :: _, [], i, h => absurd h (by simp [pre])
  | x :: r, y :: s, i, h => by
    unfold pre at h
    split at h
    · rename_i e
      cases i with
      | zero => simp [e]
      | succ j => simpa using pre_eq r s j (by omega)
    · omega
theorem pre_ne : ∀ (t u : List S3), pre t u < t.length → pre t u < u.length → t.getD (pre t u) z3 ≠ u.getD (pre t u) z3
  | [], _, h, _ => absurd h (by simp)
  | _ :: _, [], _, h => absurd h (by simp)
  | x :: r, y :: s, h, h2 => by
    unfold pre at h h2 ⊢
    split
    · rename_i e
      rw [if_pos e] at h h2
      simpa using pre_ne r s (by simpa using h) (by simpa using h2)
    · rename_i e
      simpa using e
/-- events in memory -/
def EVS (w : World) (ad : Option Addr) (es : List S3) : Prop := 0 < es.length → ∃ b off, ad = some ⟨b, off, none⟩ ∧ b < w.heap.size ∧ ∀ j, j < es.length → w.cell? ⟨b, off + j * 3, none⟩ = some (.int .i64 (es.getD j z3).1) ∧ w.cell? ⟨b, off + j * 3 + 1, none⟩ = some (.int .u64 (es.getD j z3).2.1) ∧ w.cell? ⟨b, off + j * 3 + 2, none⟩ = some (.int .u64 (es.getD j z3).2.2)
theorem EVS.below {w w' : World} {ad : Option Addr} {es : List S3} (h : EVS w ad es) (hb : Below w.heap.size w w') : EVS w' ad es := fun h0 => by
  obtain ⟨b, off, e, hlt, hc⟩ := h h0
  exact ⟨b, off, e, by have := hb.size; omega, fun j hj => by
    obtain ⟨c0, c1, c2⟩ := hc j hj
    exact ⟨(hb.cell (p := ⟨b, _, none⟩) hlt).trans c0, (hb.cell (p := ⟨b, _, none⟩) hlt).trans c1, (hb.cell (p := ⟨b, _, none⟩) hlt).trans c2⟩⟩
theorem fieldsE : Try.prog.underlying 30 = some (.struct (Try.prog.fieldsOf 30)) := by kernel_rfl
theorem heldE : Try.prog.stoodInHeld 30 = false := by kernel_rfl
set_option maxRecDepth 100000 in
theorem eqIn_e (x y : S3) (w : World) : (Op.equalIn 10000 30 (evV x) (evV y)).run Try.prog w = .ok (decide (x = y)) w := by
  rw [show (10000 : Nat) = 9999 + 1 from rfl, run_equalIn_struct w 9999 30 _ _ fieldsE heldE]
  obtain ⟨fs, hfs⟩ : ∃ fs, (Try.prog.fieldsOf 30).toList = fs := ⟨_, rfl⟩
  rw [hfs]
  have hu := Try.underlying30
  rw [fieldsE] at hu
  injection hu with hu
  injection hu with hu
  rw [hu] at hfs
  subst hfs
  obtain ⟨a, b, c⟩ := x
  obtain ⟨a', b', c'⟩ := y
  by_cases e0 : a = a'
  · by_cases e1 : b = b'
    · by_cases e2 : c = c' <;> simp [Op.eqFields, part, run_equalIn_int w 9998 3 .i64 .i64 _ _ Try.underlying3, run_equalIn_int w 9998 28 .u64 .u64 _ _ Try.underlying28, e0, e1, e2]
    · simp [Op.eqFields, part, run_equalIn_int w 9998 3 .i64 .i64 _ _ Try.underlying3, run_equalIn_int w 9998 28 .u64 .u64 _ _ Try.underlying28, e0, e1]
  · simp [Op.eqFields, part, run_equalIn_int w 9998 3 .i64 .i64 _ _ Try.underlying3, e0]
theorem eq_e (a b c a' b' c' : Int) (r : Bool) (hr : decide ((a, b, c) = (a', b', c')) = r) (w : World) : (binOp .eql 30 (.agg #[.int .i64 a, .int .u64 b, .int .u64 c]) (.agg #[.int .i64 a', .int .u64 b', .int .u64 c'])).run Try.prog w = .ok (.bool r) w := by
  rw [run_eql_struct, eqIn_e (a, b, c) (a', b', c'), hr]
  rfl
theorem neq_e (a b c a' b' c' : Int) (r : Bool) (hr : decide ((a, b, c) = (a', b', c')) = r) (w : World) : (binOp .neq 30 (.agg #[.int .i64 a, .int .u64 b, .int .u64 c]) (.agg #[.int .i64 a', .int .u64 b', .int .u64 c'])).run Try.prog w = .ok (.bool (!r)) w := by
  rw [run_neq_struct, eqIn_e (a, b, c) (a', b', c'), hr]
  rfl
theorem has_any (w : World) (C : Nat) (a : Option Addr) (n c k : Nat) (hc : w.cell? ⟨C, 0, none⟩ = some (.slice a n c)) : Calls Try.prog 9 #[.pointer (some ⟨C, 0, none⟩), .int .i64 k] w fun e w' => e = .returned (.bool (decide (k < n))) ∧ w' = w := by
  by_cases h : k < n
  · have q : decide ((k : Int) < (n : Int)) = true := by simp; omega
    have q2 : decide (k < n) = true := by simp; omega
    go_enter Try.func9, Try.ntmps9
    go_wp2
    go_ret
    exact ⟨by simp [h], rfl⟩
  · have q : decide ((k : Int) < (n : Int)) = false := by simp; omega
    have q2 : decide (k < n) = false := by simp; omega
    go_enter Try.func9, Try.ntmps9
    go_wp2
    go_ret
    exact ⟨by simp [h], rfl⟩
end Go.Proofs.Ytclgkmihabpohaa
