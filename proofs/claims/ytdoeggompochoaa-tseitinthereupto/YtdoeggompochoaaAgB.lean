import Derived.Test.YtdoeggompochoaaAgA
import Derived.Test.YtdoeggompochoaaProg
import Derived.WalkKit
import Derived.ProofKit
import Derived.OpenShut
import Derived.WalkSpells
import Derived.LoopTactic
import Derived.Below
import Derived.Deep.LoopGhost
import Derived.Deep.Draws
import Derived.Deep.QuietTactic
import Derived.Deep.RegionLaw
import Derived.Deep.AppendLies
import Derived.Maps.AppendAt
import Derived.Maps.OwnSet
import Derived.Maps.OwnOps
import Derived.DeepKeys4
import Derived.Carry
import Derived.Lib.Hide
import Derived.Laws.Rows
namespace Go.Proofs.Ytdoeggompochoaa
open Go.ChangeShapes Go.WideShapes Go.ChangeAt Go.RowKit Go.Lib Go.Ag Go.WideMaps Go.Maps Go.ChangeMaps

theorem ret_u32 {a b : Int} (h : a = b) : Ending.returned (.int .u32 a) = .returned (.int .u32 b) := by rw [h]
theorem ag_reti {a b : Int} (h : a = b) : Ending.returned (.int .i64 a) = .returned (.int .i64 b) := by rw [h]
theorem ag_cell {w : World} {G : Nat} {cs : Array Value} {e : TypeId} (h : w.heap[G]? = some (.cells cs e (0, 0))) (j : Nat) : w.cell? ⟨G, j, none⟩ = cs[j]? := by
  simp [World.cell?, h]
theorem ag_fz {w : World} {G : Nat} {cs : Array Value} {e : TypeId} (h : w.heap[G]? = some (.cells cs e (0, 0))) (j : Nat) : w.frozen? ⟨G, j, none⟩ = false := by simp [World.frozen?, h]
theorem ag_ne {w : World} {B e size n G : Nat} {v : Value} {L : List Value} {cs : Array Value} {t : TypeId} {fr : Nat × Nat} (h : w.ownsRow B e size v n L) (hb : w.heap[G]? = some (.cells cs t fr)) (hne : e ≠ t) : v.ownBlock ≠ some G := by
  intro e1
  rcases h.2 with ⟨h0, _⟩ | ⟨g, cap, cur, h0, _, hg, _⟩
  · rw [h0] at e1; cases e1
  · rw [h0] at e1
    have e2 : g = G := by simpa [Value.ownBlock] using e1
    rw [← e2, hg] at hb
    cases hb
    exact hne rfl
theorem ag_same {w w' : World} {base e size n : Nat} {v : Value} {L : List Value} (h : w.ownsRow base e size v n L) (hk : ∀ k, v.ownBlock = some k → w'.heap[k]? = w.heap[k]?) : w'.ownsRow base e size v n L := by
  refine ⟨h.1, ?_⟩
  rcases h.2 with h3 | ⟨b, cap, cur, e, h4, h5, h6⟩
  · exact Or.inl h3
  · exact Or.inr ⟨b, cap, cur, e, h4, (hk b (by rw [e]; rfl)).trans h5, h6⟩
theorem ag_next {w w1 w2 : World} (h : Below w.heap.size w w1) (h2 : Below w1.heap.size w1 w2) : Below w.heap.size w w2 := h.trans (h2.mono h.size)
/-- the opposite literal -/
theorem xor1_u32 (l : Nat) (h : l < 4294967296) : bits .xor .u32 (l : Int) 1 = (notN l : Int) ∧ notN l < 4294967296 := by
  have hx : l ^^^ 1 < 2 ^ 32 := Nat.xor_lt_two_pow (by omega) (by decide)
  refine ⟨?_, by unfold notN; omega⟩
  show IntKind.u32.wrap ((BitVec.ofInt 32 (l : Int) ^^^ BitVec.ofInt 32 1).toNat : Int) = _
  have h1 : (BitVec.ofInt 32 (l : Int)).toNat = l := by
    rw [BitVec.toNat_ofInt]
    omega
  have h2 : (BitVec.ofInt 32 1).toNat = 1 := rfl
  rw [BitVec.toNat_xor, h1, h2, IntKind.wrap_u32]
  unfold notN
  omega
theorem not_any (l : Nat) (h : l < 4294967296) (w : World) :
    Calls Try.prog 87 #[.int .u32 (l : Int)] w fun e w' => e = .returned (.int .u32 (notN l : Int)) ∧ w' = w := by
  have hx := (xor1_u32 l h).1
  go_enter Try.func87, Try.ntmps87
  go_wp2
  go_ret
  exact ⟨rfl, rfl⟩
theorem nodeOf_any (l : Nat) (h : l < 4294967296) (w : World) :
    Calls Try.prog 85 #[.int .u32 (l : Int)] w fun e w' => e = .returned (.int .i64 ((l / 2 : Nat) : Int)) ∧ w' = w := by
  go_enter Try.func85, Try.ntmps85
  go_wp2
  go_ret
  exact ⟨ag_reti (by omega), rfl⟩
end Go.Proofs.Ytdoeggompochoaa
