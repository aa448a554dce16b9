import Derived.Test.YtcmknjocmpdicaaDoorFmC
import Derived.OrdersHeld
import Derived.Deep.RegionHeld
import Derived.Deep.LoopGhost
import Derived.Deep.RegionLaw
import Derived.Deep.RegionHeld3
namespace Go.Proofs.YtcmknjocmpdicaaDoor
open Go.ChangeShapes Go.WideShapes Go.ChangeAt Go.RowKit Go.Bn

/-- a truth is answered, and it is F; all that was there stands -/
def BP (F : Prop) (W : World) (e : Ending) (w' : World) : Prop := ∃ b, e = .returned (.bool b) ∧ (b = true ↔ F) ∧ Below W.heap.size W w'
theorem BP.t {F : Prop} {W w' : World} (h : F) (hb : Below W.heap.size W w') : BP F W (.returned (.bool true)) w' := ⟨true, rfl, ⟨fun _ => h, fun _ => rfl⟩, hb⟩
theorem BP.f {F : Prop} {W w' : World} (h : ¬ F) (hb : Below W.heap.size W w') : BP F W (.returned (.bool false)) w' := ⟨false, rfl, ⟨fun e => (by cases e), fun e => absurd e h⟩, hb⟩
/-- how long a list is -/
def slen : Value → Nat
  | .slice _ len _ => len
  | _ => 0
/-- a list of expressions in memory, of each of which E holds -/
def SX (w : World) (E : List Value → Prop) (sl : Value) : Prop := ∃ ad len cap, sl = .slice ad len cap ∧ len ≤ 1048576 ∧ (0 < len → ∃ b o, ad = some ⟨b, o, none⟩ ∧ b < w.heap.size ∧ ∀ j, j < len → ∃ v0 v1 v2 v3, w.cell? ⟨b, o + j * 4, none⟩ = some v0 ∧ w.cell? ⟨b, o + j * 4 + 1, none⟩ = some v1 ∧ w.cell? ⟨b, o + j * 4 + 2, none⟩ = some v2 ∧ w.cell? ⟨b, o + j * 4 + 3, none⟩ = some v3 ∧ E [v0, v1, v2, v3])
/-- of each expression of a list E holds -/
def SF (w : World) (E : List Value → Prop) (sl : Value) : Prop := ∀ b o len cap, sl = .slice (some ⟨b, o, none⟩) len cap → ∀ j, j < len → ∀ v0 v1 v2 v3, w.cell? ⟨b, o + j * 4, none⟩ = some v0 → w.cell? ⟨b, o + j * 4 + 1, none⟩ = some v1 → w.cell? ⟨b, o + j * 4 + 2, none⟩ = some v2 → w.cell? ⟨b, o + j * 4 + 3, none⟩ = some v3 → E [v0, v1, v2, v3]
/-- an expression, at most n deep -/
def EX (w : World) : Nat → List Value → Prop
  | 0, _ => False
  | n + 1, cs => ∃ (k x : Int) (s : ByteArray) (sl : Value), cs = [.int .i64 k, .int .u64 x, .string s, sl] ∧ s.size ≤ maxLen ∧ SX w (EX w n) sl
/-- how many parts a kind takes -/
def prt (k : Int) : Int := if k < 1 ∨ 26 < k then -1 else if k ≤ 2 then 0 else if k ≤ 5 then 1 else if k = 26 then 3 else 2
/-- what is asked of an expression itself -/
def okE (k x : Int) (s : ByteArray) (sl : Value) : Prop := ((slen sl : Nat) : Int) = prt k ∧ (if k = 2 ∨ k = 3 then nameB s = true else s.size = 0) ∧ (k = 1 ∨ x = 0)
/-- an expression of the form -/
def FE (w : World) : Nat → List Value → Prop
  | 0, _ => False
  | n + 1, cs => ∃ (k x : Int) (s : ByteArray) (sl : Value), cs = [.int .i64 k, .int .u64 x, .string s, sl] ∧ okE k x s sl ∧ SF w (FE w n) sl
theorem FE_succ {w : World} {n : Nat} {k x : Int} {s : ByteArray} {sl : Value} : FE w (n + 1) [.int .i64 k, .int .u64 x, .string s, sl] ↔ okE k x s sl ∧ SF w (FE w n) sl := by
  constructor
  · rintro ⟨k', x', s', sl', e, h1, h2⟩
    cases e
    exact ⟨h1, h2⟩
  · rintro ⟨h1, h2⟩
    exact ⟨k, x, s, sl, rfl, h1, h2⟩
theorem nameB_pos {s : ByteArray} (h : nameB s = true) : s.size ≠ 0 := fun e => by
  unfold nameB at h
  rw [nm_size s (by omega)] at h
  cases h
/-- E holds of the j-th expression of a list -/
def KO (w : World) (E : List Value → Prop) (ad : Option Addr) (j : Nat) : Prop := ∀ b o, ad = some ⟨b, o, none⟩ → ∀ v0 v1 v2 v3, w.cell? ⟨b, o + j * 4, none⟩ = some v0 → w.cell? ⟨b, o + j * 4 + 1, none⟩ = some v1 → w.cell? ⟨b, o + j * 4 + 2, none⟩ = some v2 → w.cell? ⟨b, o + j * 4 + 3, none⟩ = some v3 → E [v0, v1, v2, v3]
theorem SF_iff {w : World} {E : List Value → Prop} {ad : Option Addr} {len cap : Nat} : SF w E (.slice ad len cap) ↔ ∀ j, j < len → KO w E ad j := by
  constructor
  · intro h j hj b o e v0 v1 v2 v3 h0 h1 h2 h3
    subst e
    exact h b o len cap rfl j hj v0 v1 v2 v3 h0 h1 h2 h3
  · intro h b o len' cap' e j hj v0 v1 v2 v3 h0 h1 h2 h3
    cases e
    exact h j hj b o rfl v0 v1 v2 v3 h0 h1 h2 h3
theorem KO_at {w : World} {E : List Value → Prop} {b o j : Nat} {v0 v1 v2 v3 : Value} (h0 : w.cell? ⟨b, o + j * 4, none⟩ = some v0) (h1 : w.cell? ⟨b, o + j * 4 + 1, none⟩ = some v1) (h2 : w.cell? ⟨b, o + j * 4 + 2, none⟩ = some v2) (h3 : w.cell? ⟨b, o + j * 4 + 3, none⟩ = some v3) : KO w E (some ⟨b, o, none⟩) j ↔ E [v0, v1, v2, v3] := by
  constructor
  · exact fun h => h b o rfl v0 v1 v2 v3 h0 h1 h2 h3
  · intro h b' o' e u0 u1 u2 u3 k0 k1 k2 k3
    cases e
    rw [h0] at k0; rw [h1] at k1; rw [h2] at k2; rw [h3] at k3
    cases k0; cases k1; cases k2; cases k3
    exact h
set_option maxHeartbeats 2000000 in
theorem parts_any (k : Int) (w : World) : Calls Tryd.prog 30 #[.int .i64 k] w fun e w' => e = .returned (.int .i64 (prt k)) ∧ w' = w := by
  have h : k < 1 ∨ 26 < k ∨ (1 ≤ k ∧ k ≤ 2) ∨ (3 ≤ k ∧ k ≤ 5) ∨ k = 26 ∨ (6 ≤ k ∧ k ≤ 25) := by omega
  unfold prt
  rcases h with h | h | h | h | h | h
  · have t1 : k < 1 := h
    rw [if_pos (by omega)]
    go_enter Tryd.func30, Tryd.ntmps30
    go_wp2
    go_ret
    exact ⟨rfl, rfl⟩
  · have t1 : ¬ k < 1 := by omega
    have t2 : 26 < k := h
    rw [if_pos (by omega)]
    go_enter Tryd.func30, Tryd.ntmps30
    go_wp2
    go_ret
    exact ⟨rfl, rfl⟩
  · have t1 : ¬ k < 1 := by omega
    have t2 : ¬ 26 < k := by omega
    have t3 : k ≤ 2 := by omega
    rw [if_neg (by omega), if_pos t3]
    go_enter Tryd.func30, Tryd.ntmps30
    go_wp2
    go_ret
    exact ⟨rfl, rfl⟩
  · have t1 : ¬ k < 1 := by omega
    have t2 : ¬ 26 < k := by omega
    have t3 : ¬ k ≤ 2 := by omega
    have t4 : k ≤ 5 := by omega
    rw [if_neg (by omega), if_neg t3, if_pos t4]
    go_enter Tryd.func30, Tryd.ntmps30
    go_wp2
    go_ret
    exact ⟨rfl, rfl⟩
  · subst h
    rw [if_neg (by omega), if_neg (by omega), if_neg (by omega), if_pos rfl]
    go_enter Tryd.func30, Tryd.ntmps30
    go_wp2
    go_ret
    exact ⟨rfl, rfl⟩
  · have t1 : ¬ k < 1 := by omega
    have t2 : ¬ 26 < k := by omega
    have t3 : ¬ k ≤ 2 := by omega
    have t4 : ¬ k ≤ 5 := by omega
    have t5 : (k == 26) = false := by simp; omega
    rw [if_neg (by omega), if_neg t3, if_neg t4, if_neg (by omega)]
    go_enter Tryd.func30, Tryd.ntmps30
    go_wp2
    go_ret
    exact ⟨rfl, rfl⟩
end Go.Proofs.YtcmknjocmpdicaaDoor
