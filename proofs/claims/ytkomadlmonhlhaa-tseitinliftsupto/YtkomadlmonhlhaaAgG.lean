import Derived.WalkKit
import Derived.ProofKit
import Derived.Below
import Derived.Test.YtkomadlmonhlhaaProg
import Derived.OpenShut
import Derived.WalkSpells
import Derived.LoopTactic
import Derived.Deep.LoopGhost
import Derived.Deep.Draws
import Derived.Deep.QuietTactic
import Derived.Deep.RegionLaw
import Derived.Deep.AppendLies
import Derived.Maps.AppendAt
import Derived.Maps.OwnSet
import Derived.Maps.OwnOps
import Derived.DeepKeys4
import Derived.Carry
import Derived.Lib.Hide
import Derived.Laws.Rows
import Derived.Lib.AppendZerosOnto
namespace Go.Ag

/-! ### a graph: of each node behind node 0: none, an input; or the operands of a gate -/
abbrev Nds := List (Option (Nat × Nat))
/-- the gates, in their order -/
def gatesL (ns : Nds) : List (Nat × Nat) := ns.filterMap id
/-- how many gates stand ahead of a place -/
def cntG (ns : Nds) (k : Nat) : Nat := (gatesL (ns.take k)).length
theorem gatesL_in (ns : Nds) : gatesL (ns ++ [none]) = gatesL ns := by simp [gatesL]
theorem gatesL_gate (ns : Nds) (g : Nat × Nat) : gatesL (ns ++ [some g]) = gatesL ns ++ [g] := by simp [gatesL]
theorem gatesL_le (ns : Nds) : (gatesL ns).length ≤ ns.length := List.length_filterMap_le _ _
theorem cntG_all (ns : Nds) : cntG ns ns.length = (gatesL ns).length := by unfold cntG; rw [List.take_length]
theorem cntG_le (ns : Nds) (k : Nat) : cntG ns k ≤ (gatesL ns).length := by
  unfold cntG gatesL
  have h : (ns.take k).filterMap id ++ (ns.drop k).filterMap id = ns.filterMap id := by rw [← List.filterMap_append, List.take_append_drop]
  rw [← h, List.length_append]
  omega
theorem cntG_succ (ns : Nds) (k : Nat) (h : k < ns.length) : cntG ns (k + 1) = cntG ns k + (if (ns[k]).isSome then 1 else 0) := by
  unfold cntG gatesL
  rw [List.take_succ_eq_append_getElem h, List.filterMap_append, List.length_append]
  cases ns[k] <;> simp
/-- a gate is the one whose number is that of the gates ahead of it -/
theorem gate_at (ns : Nds) (k : Nat) (g : Nat × Nat) (h : k < ns.length) (hg : ns[k] = some g) : (gatesL ns)[cntG ns k]? = some g := by
  have h1 : ns = ns.take k ++ some g :: ns.drop (k + 1) := by
    rw [← hg]
    simp
  have h2 : gatesL ns = gatesL (ns.take k) ++ g :: gatesL (ns.drop (k + 1)) := by
    conv => lhs; rw [h1]
    simp [gatesL]
  rw [h2]
  unfold cntG
  rw [List.getElem?_append_right (Nat.le_refl _)]
  simp
/-- the literal of a gate that is there -/
def fnd (ns : Nds) (g : Nat × Nat) : Option Nat := (ns.findIdx? (fun x => decide (x = some g))).map fun i => 2 * (i + 1)
theorem fnd_nil (g : Nat × Nat) : fnd [] g = none := rfl
theorem fnd_in (ns : Nds) (g : Nat × Nat) : fnd (ns ++ [none]) g = fnd ns g := by
  unfold fnd
  rw [List.findIdx?_append]
  cases ns.findIdx? (fun x => decide (x = some g)) with
  | none => simp
  | some i => simp
theorem fnd_gate (ns : Nds) (g x : Nat × Nat) (h : fnd ns g = none) : fnd (ns ++ [some g]) x = if x = g then some (2 * (ns.length + 1)) else fnd ns x := by
  unfold fnd at h ⊢
  rw [List.findIdx?_append]
  by_cases e : x = g
  · subst e
    rw [if_pos rfl]
    cases hf : ns.findIdx? (fun y => decide (y = some x)) with
    | some i => rw [hf] at h; cases h
    | none => simp
  · rw [if_neg e]
    have : ¬ g = x := fun e2 => e e2.symm
    cases ns.findIdx? (fun y => decide (y = some x)) with
    | none => simp [this]
    | some i => simp
theorem fnd_is {ns : Nds} {g : Nat × Nat} {l : Nat} (h : fnd ns g = some l) : ∃ i, i < ns.length ∧ l = 2 * (i + 1) ∧ ns[i]? = some (some g) := by
  unfold fnd at h
  cases hf : ns.findIdx? (fun x => decide (x = some g)) with
  | none => rw [hf] at h; cases h
  | some i =>
    rw [hf] at h
    simp at h
    obtain ⟨h1, h2, _⟩ := List.findIdx?_eq_some_iff_getElem.1 hf
    exact ⟨i, h1, by omega, by rw [List.getElem?_eq_getElem h1]; simpa using h2⟩
/-- a literal's node -/
def nodeN (l : Nat) : Nat := l / 2
def okL (ns : Nds) (l : Nat) : Prop := l / 2 ≤ ns.length
/-- the opposite literal -/
def notN (l : Nat) : Nat := l ^^^ 1
theorem not_not (l : Nat) : notN (notN l) = l := by unfold notN; rw [Nat.xor_assoc, Nat.xor_self, Nat.xor_zero]
theorem not_half (l : Nat) : notN l / 2 = l / 2 := by
  unfold notN
  have h : (l ^^^ 1) >>> 1 = l >>> 1 := by rw [Nat.shiftRight_xor_distrib]; simp
  rw [Nat.shiftRight_eq_div_pow, Nat.shiftRight_eq_div_pow] at h
  simpa using h
/-- what an and comes to: a literal, or none: it wants a gate -/
def andS (a b : Nat) : Option Nat := if a = 0 ∨ b = 0 ∨ a = notN b then some 0 else if a = 1 ∨ a = b then some b else if b = 1 then some a else none
/-- and: the literal and the nodes behind it; none: there is no room -/
def andN (ns : Nds) (a b : Nat) : Option (Nat × Nds) := match andS a b with
  | some l => some (l, ns)
  | none => match fnd ns (a, b) with
    | some l => some (l, ns)
    | none => if 1073741823 ≤ ns.length then none else some (2 * (ns.length + 1), ns ++ [some (a, b)])
/-- the bits of a block of 64 places: a bit each, set of a gate -/
def bitsB (ns : Nds) (j : Nat) : Nat → Nat
  | 0 => 0
  | k + 1 => bitsB ns j k + (if (ns.getD (64 * j + k) none).isSome then 2 ^ k else 0)
theorem bitsB_lt (ns : Nds) (j : Nat) : ∀ k, bitsB ns j k < 2 ^ k
  | 0 => by simp [bitsB]
  | k + 1 => by
    have := bitsB_lt ns j k
    unfold bitsB
    rw [Nat.pow_succ]
    split <;> omega
theorem bitsB_bit (ns : Nds) (j : Nat) : ∀ k i, i < k → (bitsB ns j k).testBit i = (ns.getD (64 * j + i) none).isSome
  | 0, i, h => by omega
  | k + 1, i, h => by
    have hl := bitsB_lt ns j k
    unfold bitsB
    by_cases e : i = k
    · subst e
      split
      · next hs => rw [hs, Nat.add_comm, Nat.testBit_two_pow_add_eq, Nat.testBit_lt_two_pow hl]; rfl
      · next hs => rw [Nat.add_zero, Nat.testBit_lt_two_pow hl]; simpa using hs
    · have hi : i < k := by omega
      split
      · rw [Nat.add_comm, Nat.testBit_two_pow_add_gt hi]; exact bitsB_bit ns j k i hi
      · rw [Nat.add_zero]; exact bitsB_bit ns j k i hi
/-- the same bits in a longer graph, but for one -/
theorem bitsB_app (ns : Nds) (x : Option (Nat × Nat)) (j : Nat) : ∀ k, bitsB (ns ++ [x]) j k = bitsB ns j k + (if 64 * j ≤ ns.length ∧ ns.length < 64 * j + k ∧ x.isSome = true then 2 ^ (ns.length - 64 * j) else 0)
  | 0 => by
    rw [if_neg (by omega)]
    rfl
  | k + 1 => by
    have ih := bitsB_app ns x j k
    unfold bitsB
    rw [ih]
    by_cases e : 64 * j + k = ns.length
    · have h1 : (ns ++ [x]).getD (64 * j + k) none = x := by rw [e, List.getD_eq_getElem?_getD, List.getElem?_append_right (Nat.le_refl _)]; simp
      have h2 : ns.getD (64 * j + k) none = none := by rw [List.getD_eq_getElem?_getD, List.getElem?_eq_none (by omega)]; rfl
      have hA : ¬ (64 * j ≤ ns.length ∧ ns.length < 64 * j + k ∧ x.isSome = true) := fun h => by have := h.2.1; omega
      have e0 : (if (none : Option (Nat × Nat)).isSome = true then 2 ^ k else 0) = 0 := rfl
      rw [h1, h2, if_neg hA, e0]
      by_cases hx : x.isSome = true
      · have e1 : (if x.isSome = true then 2 ^ k else 0) = 2 ^ k := if_pos hx
        have hB : 64 * j ≤ ns.length ∧ ns.length < 64 * j + (k + 1) ∧ x.isSome = true := ⟨by omega, by omega, hx⟩
        rw [e1, if_pos hB, show ns.length - 64 * j = k by omega]
      · have e1 : (if x.isSome = true then 2 ^ k else 0) = 0 := if_neg hx
        have hB : ¬ (64 * j ≤ ns.length ∧ ns.length < 64 * j + (k + 1) ∧ x.isSome = true) := fun h => hx h.2.2
        rw [e1, if_neg hB]
    · have h1 : (ns ++ [x]).getD (64 * j + k) none = ns.getD (64 * j + k) none := by
        rw [List.getD_eq_getElem?_getD, List.getD_eq_getElem?_getD]
        by_cases hl : 64 * j + k < ns.length
        · rw [List.getElem?_append_left hl]
        · rw [List.getElem?_eq_none (l := ns) (by omega), List.getElem?_eq_none (by simp; omega)]
      rw [h1]
      by_cases hq : 64 * j ≤ ns.length ∧ ns.length < 64 * j + k ∧ x.isSome = true
      · have hB : 64 * j ≤ ns.length ∧ ns.length < 64 * j + (k + 1) ∧ x.isSome = true := ⟨hq.1, by have := hq.2.1; omega, hq.2.2⟩
        rw [if_pos hq, if_pos hB]
        omega
      · have hB : ¬ (64 * j ≤ ns.length ∧ ns.length < 64 * j + (k + 1) ∧ x.isSome = true) := fun h => hq ⟨h.1, by have := h.2.1; omega, h.2.2⟩
        rw [if_neg hq, if_neg hB, Nat.add_zero, Nat.add_zero]
end Go.Ag
namespace Go.Proofs.Ytkomadlmonhlhaa
open Go.ChangeShapes Go.WideShapes Go.ChangeAt Go.RowKit Go.Lib Go.Ag Go.WideMaps Go.Maps Go.ChangeMaps

theorem ret_u32 {a b : Int} (h : a = b) : Ending.returned (.int .u32 a) = .returned (.int .u32 b) := by rw [h]
theorem ag_reti {a b : Int} (h : a = b) : Ending.returned (.int .i64 a) = .returned (.int .i64 b) := by rw [h]
theorem ag_cell {w : World} {G : Nat} {cs : Array Value} {e : TypeId} (h : w.heap[G]? = some (.cells cs e (0, 0))) (j : Nat) : w.cell? ⟨G, j, none⟩ = cs[j]? := by
  simp [World.cell?, h]
theorem ag_fz {w : World} {G : Nat} {cs : Array Value} {e : TypeId} (h : w.heap[G]? = some (.cells cs e (0, 0))) (j : Nat) : w.frozen? ⟨G, j, none⟩ = false := by simp [World.frozen?, h]
theorem ag_ne {w : World} {B e size n G : Nat} {v : Value} {L : List Value} {cs : Array Value} {t : TypeId} {fr : Nat × Nat} (h : w.ownsRow B e size v n L) (hb : w.heap[G]? = some (.cells cs t fr)) (hne : e ≠ t) : v.ownBlock ≠ some G := by
  intro e1
  rcases h.2 with ⟨h0, _⟩ | ⟨g, cap, cur, h0, _, hg, _⟩
  · rw [h0] at e1; cases e1
  · rw [h0] at e1
    have e2 : g = G := by simpa [Value.ownBlock] using e1
    rw [← e2, hg] at hb
    cases hb
    exact hne rfl
theorem ag_same {w w' : World} {base e size n : Nat} {v : Value} {L : List Value} (h : w.ownsRow base e size v n L) (hk : ∀ k, v.ownBlock = some k → w'.heap[k]? = w.heap[k]?) : w'.ownsRow base e size v n L := by
  refine ⟨h.1, ?_⟩
  rcases h.2 with h3 | ⟨b, cap, cur, e, h4, h5, h6⟩
  · exact Or.inl h3
  · exact Or.inr ⟨b, cap, cur, e, h4, (hk b (by rw [e]; rfl)).trans h5, h6⟩
theorem ag_next {w w1 w2 : World} (h : Below w.heap.size w w1) (h2 : Below w1.heap.size w1 w2) : Below w.heap.size w w2 := h.trans (h2.mono h.size)
/-- the opposite literal -/
theorem xor1_u32 (l : Nat) (h : l < 4294967296) : bits .xor .u32 (l : Int) 1 = (notN l : Int) ∧ notN l < 4294967296 := by
  have hx : l ^^^ 1 < 2 ^ 32 := Nat.xor_lt_two_pow (by omega) (by decide)
  refine ⟨?_, by unfold notN; omega⟩
  show IntKind.u32.wrap ((BitVec.ofInt 32 (l : Int) ^^^ BitVec.ofInt 32 1).toNat : Int) = _
  have h1 : (BitVec.ofInt 32 (l : Int)).toNat = l := by
    rw [BitVec.toNat_ofInt]
    omega
  have h2 : (BitVec.ofInt 32 1).toNat = 1 := rfl
  rw [BitVec.toNat_xor, h1, h2, IntKind.wrap_u32]
  unfold notN
  omega
theorem not_any (l : Nat) (h : l < 4294967296) (w : World) :
    Calls Try.prog 76 #[.int .u32 (l : Int)] w fun e w' => e = .returned (.int .u32 (notN l : Int)) ∧ w' = w := by
  have hx := (xor1_u32 l h).1
  go_enter Try.func76, Try.ntmps76
  go_wp2
  go_ret
  exact ⟨rfl, rfl⟩
theorem nodeOf_any (l : Nat) (h : l < 4294967296) (w : World) :
    Calls Try.prog 74 #[.int .u32 (l : Int)] w fun e w' => e = .returned (.int .i64 ((l / 2 : Nat) : Int)) ∧ w' = w := by
  go_enter Try.func74, Try.ntmps74
  go_wp2
  go_ret
  exact ⟨ag_reti (by omega), rfl⟩
end Go.Proofs.Ytkomadlmonhlhaa
namespace Go.Proofs.Ytkomadlmonhlhaa
open Go.ChangeShapes Go.WideShapes Go.ChangeAt Go.RowKit Go.Lib Go.Ag Go.WideMaps Go.Maps Go.ChangeMaps

theorem laidOut : laidOutB Try.prog = true := by kernel_rfl
theorem rowG : 96 < Try.prog.types.size := by decide +kernel
theorem lawG : Keyed Try.prog 96 := Keyed.of_law (deep_law_laid laidOut (m := 3) (by omega) rowG (by kernel_rfl) (by kernel_rfl))
theorem cG : Try.prog.cellsOf 96 = 2 := by kernel_rfl
theorem cU3 : Try.prog.cellsOf 42 = 1 := by kernel_rfl
def gateV (g : Nat × Nat) : Value := .agg #[.int .u32 (g.1 : Int), .int .u32 (g.2 : Int)]
def okG (g : Nat × Nat) : Prop := g.1 < 4294967296 ∧ g.2 < 4294967296
theorem wf_u3 {x : Nat} (h : x < 4294967296) : (Lit.int .u32 (x : Int)).wf = true := by
  simp [Lit.wf, IntKind.min, IntKind.max, IntKind.bits, IntKind.signed]
  omega
theorem key_gate (g : Nat × Nat) (h : okG g) : ∃ l, keyOf Try.prog 96 (gateV g) = some l := by
  have hk : ∃ ls, Try.prog.keyLits (Try.prog.types.size + 1) 96 [.int .u32 (g.1 : Int), .int .u32 (g.2 : Int)] = some ls := by
    obtain ⟨k, hk⟩ : ∃ k, Try.prog.types.size + 1 = k + 1 + 1 := ⟨Try.prog.types.size - 1, by have : 0 < Try.prog.types.size := (by decide +kernel); omega⟩
    rw [hk]
    have h1 := wf_u3 h.1
    have h2 := wf_u3 h.2
    simp [Program.keyLits, Try.underlying96, Try.underlying42, cG, cU3, h1, h2]
  obtain ⟨ls, hls⟩ := hk
  refine ⟨.string (keyBytes ls), ?_⟩
  have hf : (gateV g).formed Try.prog 96 = true := by simp [gateV, Value.formed, Try.underlying96, cG]
  have ht : Try.prog.keyType 96 = true := by kernel_rfl
  simp [keyOf, gateV, Try.underlying96]
  simp [gateV] at hf
  simp [hf, ht]
  exact ⟨ls, hls, rfl⟩
theorem gate_inj (x y : Nat × Nat) (h : gateV x = gateV y) : x = y := by
  unfold gateV at h
  simp at h
  exact Prod.ext (by omega) (by omega)
/-- a map that reads as a function -/
def FM {α : Type} (k : TypeId) (kv : α → Value) (dom : α → Prop) (D : DataW Unit) (f : α → Option Int) : Prop :=
  IsMap D ∧ ∀ x, dom x → ∃ kl, keyOf Try.prog k (kv x) = some kl ∧ Maps.has D kl = (f x).isSome ∧ ∀ i, f x = some i → ∀ zd, D.atKey kl zd = .lit (.int .u32 i)
theorem isMap_put {D : DataW Unit} (h : IsMap D) (k : Lit) (d : DataW Unit) : IsMap (D.put k d) := by
  obtain ⟨es, rfl⟩ := h
  exact ⟨_, rfl⟩
theorem FM.put {α : Type} [dec : DecidableEq α] {k : TypeId} {kv : α → Value} {dom : α → Prop} {D : DataW Unit} {f : α → Option Int} (K : Keyed Try.prog k) (inj : ∀ x y, kv x = kv y → x = y) (h : FM k kv dom D f) {x : α} {kl : Lit} (hkl : keyOf Try.prog k (kv x) = some kl) (i : Int) :
    FM k kv dom (D.put kl (.lit (.int .u32 i))) (fun y => if y = x then some i else f y) := by
  refine ⟨isMap_put h.1 _ _, fun y hy => ?_⟩
  obtain ⟨ky, h1, h2, h3⟩ := h.2 y hy
  refine ⟨ky, h1, ?_, ?_⟩
  · by_cases e : y = x
    · subst e
      rw [h1] at hkl
      cases hkl
      rw [has_put_same h.1 (K.key h1)]
      show true = (if y = y then some i else f y).isSome
      rw [if_pos rfl]
      rfl
    · rw [has_put_other (fun e2 => e (inj _ _ (K.inj (by rw [h1, e2]) hkl))), h2]
      show _ = (if y = x then some i else f y).isSome
      rw [if_neg e]
  · intro j hj0 zd
    have hj : (if y = x then some i else f y) = some j := hj0
    by_cases e : y = x
    · subst e
      rw [h1] at hkl
      cases hkl
      rw [if_pos rfl] at hj
      cases hj
      rw [atKey_put_same h.1 (K.key h1)]
    · rw [if_neg e] at hj
      rw [atKey_put_other (fun e2 => e (inj _ _ (K.inj (by rw [h1, e2]) hkl))), h3 j hj zd]
theorem FM.nil {α : Type} {k : TypeId} {kv : α → Value} {dom : α → Prop} (hk : ∀ x, dom x → ∃ kl, keyOf Try.prog k (kv x) = some kl) : FM k kv dom (.map []) (fun _ => none) :=
  ⟨isMap_empty, fun x hx => by obtain ⟨kl, h⟩ := hk x hx; exact ⟨kl, h, rfl, fun i hi => by cases hi⟩⟩
theorem FM.congr {α : Type} {k : TypeId} {kv : α → Value} {dom : α → Prop} {D : DataW Unit} {f g : α → Option Int} (h : FM k kv dom D f) (e : ∀ x, f x = g x) : FM k kv dom D g := by
  have : f = g := funext e
  rw [← this]
  exact h
theorem zeroI (w : World) : (zeroValue 42).run Try.prog w = .ok (.int .u32 0) w := Try.zeroValue42 w
/-- a map of memory, or none -/
def MapO (k : TypeId) (w : World) (M : Option Nat) (n : Nat) (D : DataW Unit) : Prop :=
  match M with
  | none => D = .map []
  | some m => w.ownsMap Try.prog k (plainElem Try.prog 42) m n D
theorem MapO.drew {k : TypeId} {w : World} {M : Option Nat} {n : Nat} {D : DataW Unit} (h : MapO k w M n D) : MapO k w.drew M n D := by
  cases M with
  | none => exact h
  | some m => exact World.ownsMap.drew h
theorem MapO.keep {k : TypeId} {w w' : World} {M : Option Nat} {n : Nat} {D : DataW Unit} (h : MapO k w M n D) (hb : ∀ m es clock, M = some m → w.heap[m]? = some (Obj.map es clock) → w'.heap[m]? = some (Obj.map es clock)) : MapO k w' M n D := by
  cases M with
  | none => exact h
  | some m =>
    obtain ⟨es, clock, h1, h2⟩ := h
    exact ⟨es, clock, hb m es clock rfl h1, h2⟩
theorem MapO.block {k : TypeId} {w : World} {M : Option Nat} {n : Nat} {D : DataW Unit} (h : MapO k w M n D) {m : Nat} (e : M = some m) : ∃ es clock, w.heap[m]? = some (Obj.map es clock) := by
  subst e
  obtain ⟨es, clock, h1, h2⟩ := h
  exact ⟨es, clock, h1⟩
theorem FM.look {α : Type} {k t : TypeId} {kv : α → Value} {dom : α → Prop} {D : DataW Unit} {f : α → Option Int} {w : World} {M : Option Nat} {n : Nat} (K : Keyed Try.prog k) (ht : Try.prog.underlying t = some (.map k 42)) (hm : MapO k w M n D) (h : FM k kv dom D f) (x : α) (hx : dom x) :
    (Instr.lookup t (.map M) (kv x) true).run Try.prog w = .ok (.tuple #[.int .u32 ((f x).getD 0), .bool (f x).isSome]) w := by
  obtain ⟨kl, h1, h2, h3⟩ := h.2 x hx
  cases M with
  | none =>
    obtain rfl : D = .map [] := hm
    have hf : f x = none := by
      cases hf : f x with
      | none => rfl
      | some i => rw [hf] at h2; cases h2
    rw [hf]
    exact Maps.look_nil true K ht (zeroI w) h1
  | some M =>
  obtain ⟨vv, pss, hrun, hR⟩ := World.ownsMap.look_ok (show w.ownsMap Try.prog k (plainElem Try.prog 42) M n D from hm) K ht (zeroI w) (plainElem_int Try.underlying42 (by decide)) h1
  cases hf : f x with
  | none =>
    rw [hrun, h2, hf]
    rw [hf] at h2
    have hz : D.atKey kl (.lit (.int .u32 0)) = .lit (.int .u32 0) := by
      exact atKey_of_not_has h2 _
    rw [hz] at hR
    obtain ⟨cc, rfl, ecc, -⟩ := plainElem_int_inv Try.underlying42 hR
    have hcc : cc = 0 := by have := ecc.symm; simp at this; exact this.1
    rw [hcc]
    rfl
  | some i =>
    rw [hrun, h2, hf]
    rw [h3 i hf] at hR
    obtain ⟨cc, rfl, ecc, -⟩ := plainElem_int_inv Try.underlying42 hR
    have hcc : cc = i := by have := ecc.symm; simp at this; exact this.1
    rw [hcc]
    rfl
/-- the cells of gates, and of blocks -/
def gateC (g : Nat × Nat) : List Value := [.int .u32 (g.1 : Int), .int .u32 (g.2 : Int)]
def gatesC (gs : List (Nat × Nat)) : List Value := gs.flatMap gateC
def blkC (ns : Nds) (j : Nat) : List Value := [.int .u64 (bitsB ns j 64 : Int), .int .i64 (cntG ns (64 * j) : Int)]
def blksC (ns : Nds) (nb : Nat) : List Value := (List.range nb).flatMap (blkC ns)
theorem gatesC_len (gs : List (Nat × Nat)) : (gatesC gs).length = gs.length * 2 := by
  induction gs with
  | nil => rfl
  | cons g gs ih => unfold gatesC at ih ⊢; rw [List.flatMap_cons, List.length_append, ih]; simp [gateC]; omega
theorem blksC_len (ns : Nds) (nb : Nat) : (blksC ns nb).length = nb * 2 := by
  induction nb with
  | zero => rfl
  | succ nb ih => unfold blksC at ih ⊢; rw [List.range_succ, List.flatMap_append, List.length_append, ih]; simp [blkC]; omega
theorem cntG_app (ns : Nds) (x : Option (Nat × Nat)) (k : Nat) (h : k ≤ ns.length) : cntG (ns ++ [x]) k = cntG ns k := by
  unfold cntG
  rw [List.take_append_of_le_length h]
theorem flat_congr {α β : Type} (f g : α → List β) : ∀ l : List α, (∀ x ∈ l, f x = g x) → l.flatMap f = l.flatMap g
  | [], _ => rfl
  | a :: l, h => by
    rw [List.flatMap_cons, List.flatMap_cons, h a (List.mem_cons_self ..), flat_congr f g l (fun x hx => h x (List.mem_cons_of_mem _ hx))]
/-- an input more: the blocks are as they were -/
theorem blksC_in (ns : Nds) (nb : Nat) (h : 64 * nb ≤ ns.length + 63) : blksC (ns ++ [none]) nb = blksC ns nb := by
  unfold blksC
  refine flat_congr _ _ _ ?_
  intro j hj
  have hj2 := List.mem_range.1 hj
  unfold blkC
  rw [bitsB_app, cntG_app ns none (64 * j) (by omega)]
  simp
/-- the graph in memory -/
structure GM (w : World) (B R : Nat) (ns : Nds) (nb : Nat) (vb vg : Value) (M : Option Nat) (D : DataW Unit) : Prop where
  blk : w.heap[R]? = some (.cells #[.int .i64 (ns.length : Int), vb, vg, .map M] 91 (0, 0))
  rb : w.ownsRow B 153 2 vb nb (blksC ns nb)
  rg : w.ownsRow B 96 2 vg (gatesL ns).length (gatesC (gatesL ns))
  mo : MapO 96 w M (gatesL ns).length D
  fm : FM 96 gateV okG D (fun g => (fnd ns g).map fun l => (l : Int))
  cov : ∀ p, 64 * nb ≤ p → ns.getD p none = none
  few : 64 * nb ≤ ns.length + 63
  ops : ∀ p g, ns[p]? = some (some g) → g.1 / 2 ≤ p ∧ g.2 / 2 ≤ p ∧ okG g
  len : ns.length ≤ 1073741823
  low : B ≤ R
end Go.Proofs.Ytkomadlmonhlhaa
namespace Go.Proofs.Ytkomadlmonhlhaa
open Go.ChangeShapes Go.WideShapes Go.ChangeAt Go.RowKit Go.Lib Go.Ag Go.WideMaps Go.Maps Go.ChangeMaps

theorem GM.over {w w' : World} {B R : Nat} {ns : Nds} {nb : Nat} {vb vg : Value} {M : Option Nat} {D : DataW Unit} (h : GM w B R ns nb vb vg M D) (hb : Below w.heap.size w w') : GM w' B R ns nb vb vg M D :=
  ⟨(hb.block R (Array.getElem?_eq_some_iff.1 h.blk).1).trans h.blk, ag_same h.rb (fun j hj => hb.block j (h.rb.lt j hj).2), ag_same h.rg (fun j hj => hb.block j (h.rg.lt j hj).2),
    h.mo.keep (fun m _ _ _ hm => (hb.block m (Array.getElem?_eq_some_iff.1 hm).1).trans hm), h.fm, h.cov, h.few, h.ops, h.len, h.low⟩
theorem GM.new {w : World} {R : Nat} (hw : w.heap[R]? = some (.cells #[.int .i64 0, .slice none 0 0, .slice none 0 0, .map none] 91 (0, 0))) {B : Nat} (hB : B ≤ R) : GM w B R [] 0 (.slice none 0 0) (.slice none 0 0) none (.map []) :=
  ⟨hw, World.ownsRow_nil _ _ _ _, World.ownsRow_nil _ _ _ _, rfl, FM.nil key_gate, fun p _ => by simp, by simp, fun p g h => by simp at h, by simp, hB⟩
/-- one input more -/
theorem GM.input {w : World} {B R : Nat} {ns : Nds} {nb : Nat} {vb vg : Value} {M : Option Nat} {D : DataW Unit} (h : GM w B R ns nb vb vg M D) (hl : ns.length < 1073741823) : GM (w.setCell ⟨R, 0, none⟩ (.int .i64 ((ns.length : Int) + 1))) B R (ns ++ [none]) nb vb vg M D := by
  have ho : ∀ j, j ≠ R → (w.setCell ⟨R, 0, none⟩ (.int .i64 ((ns.length : Int) + 1))).heap[j]? = w.heap[j]? := fun j hj => heap_setCell_other _ _ _ _ hj
  refine ⟨?_, ?_, ?_, ?_, ?_, ?_, ?_, ?_, by simp; omega, h.low⟩
  · rw [heap_setCell_same _ R 0 _ _ _ h.blk]
    simp
  · rw [blksC_in ns nb h.few]
    exact ag_same h.rb (fun j hj => ho j (fun e => ag_ne h.rb h.blk (by decide) (by rw [hj, e])))
  · rw [gatesL_in]
    exact ag_same h.rg (fun j hj => ho j (fun e => ag_ne h.rg h.blk (by decide) (by rw [hj, e])))
  · rw [gatesL_in]
    exact h.mo.keep (fun m _ _ _ hm => (ho m (fun e => by rw [e, h.blk] at hm; cases hm)).trans hm)
  · exact h.fm.congr (fun g => by rw [fnd_in])
  · intro p hp
    have h1 := h.cov p hp
    rw [List.getD_eq_getElem?_getD] at h1 ⊢
    by_cases e : p < ns.length
    · rw [List.getElem?_append_left e]; exact h1
    · by_cases e2 : p = ns.length
      · subst e2
        rw [List.getElem?_append_right (Nat.le_refl _)]; simp
      · rw [List.getElem?_eq_none (by simp; omega)]; rfl
  · have := h.few
    simp
    omega
  · intro p g hg
    by_cases e : p < ns.length
    · rw [List.getElem?_append_left e] at hg
      exact h.ops p g hg
    · by_cases e2 : p = ns.length
      · subst e2
        rw [List.getElem?_append_right (Nat.le_refl _)] at hg
        simp at hg
      · rw [List.getElem?_eq_none (by simp; omega)] at hg
        cases hg
theorem new_any (w : World) : Calls Try.prog 24 #[] w fun e w' => e = .returned (.pointer (some ⟨w.heap.size, 0, none⟩)) ∧ w' = w.alloc (.cells #[.int .i64 0, .slice none 0 0, .slice none 0 0, .map none] 91) := by
  go_enter Try.func24, Try.ntmps24
  go_wp2
  go_ret
  exact ⟨rfl, rfl⟩
theorem full_any (w : World) (R : Nat) (m : Nat) (hc : w.cell? ⟨R, 0, none⟩ = some (.int .i64 (m : Int))) :
    Calls Try.prog 46 #[.pointer (some ⟨R, 0, none⟩)] w fun e w' => e = .returned (.bool (decide (1073741823 ≤ m))) ∧ w' = w := by
  by_cases h : 1073741823 ≤ m
  · have q1 : (1073741823 : Int) ≤ (m : Int) := by omega
    rw [decide_eq_true h]
    go_enter Try.func46, Try.ntmps46
    go_wp2
    go_ret
    exact ⟨by first | rfl | simp [q1], rfl⟩
  · have q1 : ¬ (1073741823 : Int) ≤ (m : Int) := by omega
    rw [decide_eq_false h]
    go_enter Try.func46, Try.ntmps46
    go_wp2
    go_ret
    exact ⟨by first | rfl | simp [q1], rfl⟩
theorem add_any (w : World) (R : Nat) (m : Nat) (hm : m < 1073741823) (hc : w.cell? ⟨R, 0, none⟩ = some (.int .i64 (m : Int))) (hf : w.frozen? ⟨R, 0, none⟩ = false) :
    Calls Try.prog 47 #[.pointer (some ⟨R, 0, none⟩)] w fun e w' => e = .returned (.int .u32 ((2 * (m + 1) : Nat) : Int)) ∧ w' = w.setCell ⟨R, 0, none⟩ (.int .i64 ((m : Int) + 1)) := by
  go_enter Try.func47, Try.ntmps47
  go_wp2
  go_ret
  exact ⟨ret_u32 (by omega), rfl⟩
theorem input_any (w : World) {B R : Nat} {ns : Nds} {nb : Nat} {vb vg : Value} {M : Option Nat} {D : DataW Unit} (h : GM w B R ns nb vb vg M D) (hl : ns.length < 1073741823) :
    Calls Try.prog 26 #[.pointer (some ⟨R, 0, none⟩)] w fun e w' => e = .returned (.tuple #[.int .u32 ((2 * (ns.length + 1) : Nat) : Int), .int .i64 0]) ∧ w' = w.setCell ⟨R, 0, none⟩ (.int .i64 ((ns.length : Int) + 1)) := by
  have hc : w.cell? ⟨R, 0, none⟩ = some (.int .i64 (ns.length : Int)) := ag_cell h.blk 0
  have HF : Hid (Calls Try.prog 46 #[.pointer (some ⟨R, 0, none⟩)] w fun e w' => e = .returned (.bool false) ∧ w' = w) := by
    have h5 := full_any w R ns.length hc
    rw [decide_eq_false (by omega)] at h5
    exact h5
  have HA : Hid (Calls Try.prog 47 #[.pointer (some ⟨R, 0, none⟩)] w fun e w' => e = .returned (.int .u32 ((2 * (ns.length + 1) : Nat) : Int)) ∧ w' = w.setCell ⟨R, 0, none⟩ (.int .i64 ((ns.length : Int) + 1))) := add_any w R ns.length hl hc (ag_fz h.blk 0)
  clear h hc
  generalize ns.length = m at *
  go_enter Try.func26, Try.ntmps26
  go_wp2_with fail
  refine HF.out.mono ?_
  rintro e w1 ⟨rfl, hw⟩
  obtain rfl := hw.symm
  go_wp2_with fail
  refine HA.out.mono ?_
  rintro e w2 ⟨rfl, hw2⟩
  subst hw2
  go_wp2
  first | exact ⟨rfl, rfl⟩ | (go_ret2; exact ⟨rfl, rfl⟩)
/-- literals in a row, as they are read -/
def U32s (w : World) (ad : Option Addr) (ls : List Nat) : Prop := 0 < ls.length → ∃ b off, ad = some ⟨b, off, none⟩ ∧ b < w.heap.size ∧ ∀ j, j < ls.length → w.cell? ⟨b, off + j, none⟩ = some (.int .u32 ((ls.getD j 0 : Nat) : Int))
theorem U32s.below {w w' : World} {ad : Option Addr} {ls : List Nat} (h : U32s w ad ls) (hb : Below w.heap.size w w') : U32s w' ad ls := fun h0 => by
  obtain ⟨b, off, e, hl, hc⟩ := h h0
  exact ⟨b, off, e, Nat.lt_of_lt_of_le hl hb.size, fun j hj => (hb.cell (p := ⟨b, off + j, none⟩) hl).trans (hc j hj)⟩
theorem U32s.drewN {w : World} {ad : Option Addr} {ls : List Nat} (h : U32s w ad ls) (m : Nat) : U32s (w.drewN m) ad ls := h
/-- may all literals be? -/
def refE (m : Nat) : List Nat → Int
  | [] => 0
  | l :: ls => if m < l / 2 then 100 else refE m ls
set_option maxHeartbeats 2000000 in
theorem refusal_any (w : World) (R m : Nat) (hc : w.cell? ⟨R, 0, none⟩ = some (.int .i64 (m : Int))) (ad : Option Addr) (ls : List Nat) (cp : Nat) (hl : U32s w ad ls) (h32 : ∀ l ∈ ls, l < 4294967296) (hn : ls.length ≤ 1000000000000) :
    Calls Try.prog 48 #[.pointer (some ⟨R, 0, none⟩), .slice ad ls.length cp] w fun e w' => e = .returned (.int .i64 (refE m ls)) ∧ ∃ d, w' = w.drewN d := by
  have HU : Aside (U32s w ad ls) := hl
  have H32 : Aside (∀ l ∈ ls, l < 4294967296) := h32
  have HN : Hid (∀ (l : Nat) W, l < 4294967296 → Calls Try.prog 74 #[.int .u32 (l : Int)] W fun e w' => e = .returned (.int .i64 ((l / 2 : Nat) : Int)) ∧ w' = W) := fun l W h => nodeOf_any l h W
  clear hl h32
  generalize hnn : ls.length = n at *
  have HL : Aside (ls.length = n) := hnn
  have HR0 : Aside (refE m ls = refE m (ls.drop 0)) := rfl
  generalize refE m ls = E0 at *
  clear hnn
  go_enter Try.func48, Try.ntmps48
  go_wp2_with fail
  go_loopg [11] n (fun gk v11 wr => ∃ k d : Nat, v11 = .int .i64 (k : Int) ∧ k + gk = n ∧ wr = w.drewN d ∧ Aside (E0 = refE m (ls.drop k)))
  case atStart => exact ⟨0, 0, rfl, by omega, rfl, HR0⟩
  case round =>
    obtain ⟨k, d, rfl, hk, rfl, HE⟩ := hrel
    clear HR0
    by_cases hlt : k < n
    · obtain ⟨b, off, rfl, hb, hcc⟩ := HU.out (by rw [HL.out]; omega)
      have ck := hcc k (by rw [HL.out]; exact hlt)
      have hx : ls.getD k 0 < 4294967296 := H32.out _ (by rw [List.getD_eq_getElem?_getD, List.getElem?_eq_getElem (by rw [HL.out]; exact hlt)]; exact List.getElem_mem _)
      have hdr : ls.drop k = ls.getD k 0 :: ls.drop (k + 1) := by rw [List.drop_eq_getElem_cons (by rw [HL.out]; exact hlt), List.getD_eq_getElem?_getD, List.getElem?_eq_getElem (by rw [HL.out]; exact hlt)]; rfl
      have HE2 : Aside (E0 = if m < ls.getD k 0 / 2 then 100 else refE m (ls.drop (k + 1))) := by show _ = _; rw [HE.out, hdr, refE]
      have y1 : (w.drewN d).cell? ⟨b, off + k, none⟩ = some (.int .u32 ((ls.getD k 0 : Nat) : Int)) := ck
      have y2 : (w.drewN d).cell? ⟨R, 0, none⟩ = some (.int .i64 (m : Int)) := hc
      have HDN : Aside (∀ q, ∃ z, (w.drewN d).drewN q = w.drewN z) := fun q => ⟨d + q, by rw [World.drewN_drewN]⟩
      clear hcc ck hdr HE
      generalize ls.getD k 0 = x at *
      have HN1 : Hid (∀ W, Calls Try.prog 74 #[.int .u32 (x : Int)] W fun e w' => e = .returned (.int .i64 ((x / 2 : Nat) : Int)) ∧ w' = W) := fun W => HN.out x W hx
      have q1 : (k : Int) < (n : Int) := by omega
      generalize hxx : x / 2 = xh at *
      generalize w.drewN d = WQ at *
      by_cases hm : m < xh
      · have HF : Hid (E0 = 100) := by show _ = _; rw [HE2.out, if_pos hm]
        have q2 : (m : Int) < (xh : Int) := by omega
        clear HE2
        go_wp2_with fail
        go_quiet ((go_at_call 74; exact Calls.quiet_of_same (HN1.out _)))
        go_wp2
        obtain ⟨z, hz⟩ := HDN.out nq
        first | exact ⟨ag_reti HF.out.symm, z, hz⟩ | (go_ret; exact ⟨ag_reti HF.out.symm, z, hz⟩)
      · have HF : Aside (E0 = refE m (ls.drop (k + 1))) := by show _ = _; rw [HE2.out, if_neg hm]
        have q2 : ¬ (m : Int) < (xh : Int) := by omega
        clear HE2
        go_wp2_with fail
        go_quiet ((go_at_call 74; exact Calls.quiet_of_same (HN1.out _)))
        go_wp2
        obtain ⟨z, hz⟩ := HDN.out nq
        go_roundg (gk - 1)
        case measure => omega
        case rel => exact ⟨k + 1, z, by simp, by omega, hz, HF⟩
    · obtain rfl : k = n := by omega
      have HF : Hid (E0 = 0) := by show _ = _; rw [HE.out, List.drop_eq_nil_of_le (by rw [HL.out]; exact Nat.le_refl _)]; rfl
      have q1 : ¬ (k : Int) < (k : Int) := by omega
      go_wp2
      first | exact ⟨ag_reti HF.out.symm, d, rfl⟩ | (go_ret; exact ⟨ag_reti HF.out.symm, d, rfl⟩)
end Go.Proofs.Ytkomadlmonhlhaa
namespace Go.Proofs.Ytkomadlmonhlhaa
open Go.ChangeShapes Go.WideShapes Go.ChangeAt Go.RowKit Go.Lib Go.Ag Go.WideMaps Go.Maps Go.ChangeMaps

theorem bz : (Value.agg #[.int .u64 0, .int .i64 0]).cells.size = 2 := rfl
/-- room for more blocks: the append of zeros that Grow makes -/
theorem grow_run (w : World) (B : Nat) (ad : Option Addr) (nb cap : Nat) (bc : List Value) (h : w.ownsRow B 153 2 (.slice ad nb cap) nb bc) (k : Nat) (hk : 0 < k) (hn : cap + k ≤ 1000000000) (hB : B ≤ w.heap.size) (ty : TypeId) :
    ∃ C w', (Builtin.append_ #[87, 3] ty #[.slice ad cap cap, .int .i64 (k : Int)]).run Try.prog w = .ok (.slice (some ⟨w.heap.size, 0, none⟩) (cap + k) C) w' ∧ cap + k ≤ C ∧ w'.ownsRow B 153 2 (.slice (some ⟨w.heap.size, 0, none⟩) nb C) nb bc ∧ Below w.heap.size w w' := by
  obtain ⟨i0, hi, hz0, hz1, hz2⟩ := info_parts (P := Try.prog) (e := 153) (z := .agg #[.int .u64 0, .int .i64 0]) (size := 2) (bytes := 16) (by kernel_rfl)
  obtain ⟨olds, hol, hot, hrun⟩ : ∃ olds : List Value, olds.length = cap * 2 ∧ olds.take (nb * 2) = bc ∧ (Builtin.firstCells i0.size cap (.slice ad cap cap)).run Try.prog w.drew = .ok olds.toArray w.drew := by
    rcases h.2 with ⟨e, h0⟩ | ⟨g, cap', cur, e, hb, hg, hc1, hc2, hc3, hc4⟩
    · cases e
      refine ⟨[], by simp, ?_, run_firstCells_none w.drew _ _ _ _⟩
      have := h.1
      have hx : bc = [] := List.eq_nil_of_length_eq_zero (by simpa using this)
      rw [hx]
      rfl
    · cases e
      refine ⟨cur.toList, by simpa using hc3, hc4, run_firstCells_some w.drew _ _ _ _ _ _ (by rw [hz1]; simpa using hc3) (fun j v hj => ?_)⟩
      have : w.cell? (Addr.add ⟨g, 0, none⟩ j) = cur[j]? := by
        rw [Addr.add_lit, Nat.zero_add]
        exact ag_cell hg j
      show w.cell? _ = _
      rw [this, ← hj]
      simp
  have hb16 : i0.bytes = 16 := hz2
  have hnc : nb ≤ cap := by
    rcases h.2 with ⟨e, h0⟩ | ⟨g, cap', cur, e, _, _, hc1, _⟩
    · omega
    · cases e
      omega
  have hnx := nextslicecap_le (need := cap + k) (old := cap) (by omega)
  have hr := run_append_grow_zeros (P := Try.prog) w 87 3 ty 153 i0 _ .i64 .i64 Try.underlying87 Try.underlying3 hi hz0 ad cap cap olds hrun k hk (by omega) (by omega) (by omega) (by rw [hb16]; omega) (by rw [hb16]; omega)
  have hge := grownCap_ge w (cap + k) cap 153
  have hle := grownCap_le_maxLen w (cap + k) cap 153 (by unfold maxLen; omega)
  refine ⟨_, _, hr, hge, ?_, ?_⟩
  · generalize grownCap w (cap + k) cap 153 = C at *
    refine ⟨h.1, Or.inr ⟨w.heap.size, C, _, rfl, hB, heap_alloc_new _ _, by omega, hle, ?_, ?_⟩⟩
    · simp only [Array.size_append, List.size_toArray, size_zeroCells, bz, hol]
      omega
    · rw [← hot]
      simp only [Array.toList_append]
      rw [List.take_append_of_le_length (by simp [hol]; omega), List.take_append_of_le_length (by simp [hol]; omega)]
  · have h5 : Below w.heap.size w w.drew := ⟨rfl, rfl, rfl, Nat.le_refl _, fun _ _ => rfl⟩
    exact h5.alloc (Nat.le_refl _) _
theorem wpList_zeros {ops : Array Oper} {rest : List Oper} {o : Oper} {a : Act} {w : World} {Q : Exit → Act → World → Prop} (hgd : o.guard = none) (sl x : Operand)
    (ho : o.op = .call { callee := .builtin .append, args := #[sl, x], argTypes := #[87, 3] }) {B nb cap : Nat} {ad : Option Addr} {bc : List Value} (hs : a.eval sl = .slice ad cap cap) (hown : w.ownsRow B 153 2 (.slice ad nb cap) nb bc) (k : Nat) (hx : a.eval x = .int .i64 (k : Int)) (hk : 0 < k) (hn : cap + k ≤ 1000000000) (hB : B ≤ w.heap.size)
    (h : ∀ C w', cap + k ≤ C → w'.ownsRow B 153 2 (.slice (some ⟨w.heap.size, 0, none⟩) nb C) nb bc → Below w.heap.size w w' → wpList Try.prog ops Q rest (a.put o.dst (.slice (some ⟨w.heap.size, 0, none⟩) (cap + k) C)) w') : wpList Try.prog ops Q (o :: rest) a w := by
  refine wpList_plain hgd fun K hK => ?_
  obtain ⟨C, w', hr, h1, h2, h3⟩ := grow_run w B ad nb cap bc hown k hk hn hB o.type
  unfold Oper.wp execOp
  simp only [ho, resolve, invoke, builtin, Sem.run_bind, Sem.run_pure, Result.andThen_ok, List.map_toArray, List.map_cons, List.map_nil, hs, hx, hr]
  exact hK _ _ (h C w' h1 h2 h3)
set_option maxHeartbeats 2000000 in
/-- room for so many blocks more: the blocks are as they were -/
theorem grow_any (w : World) (B : Nat) (ad : Option Addr) (nb cap n : Nat) (bc : List Value) (h : w.ownsRow B 153 2 (.slice ad nb cap) nb bc) (hn : nb + n ≤ 500000000) (hB : B ≤ w.heap.size) :
    Calls Try.prog 91 #[.slice ad nb cap, .int .i64 (n : Int)] w fun e w' => ∃ ad' cap', e = .returned (.slice ad' nb cap') ∧ w'.ownsRow B 153 2 (.slice ad' nb cap') nb bc ∧ Below w.heap.size w w' ∧ ∀ j, (Value.slice ad' nb cap').ownBlock = some j → (Value.slice ad nb cap).ownBlock = some j ∨ w.heap.size ≤ j := by
  have hnc : nb ≤ cap ∧ cap ≤ 9223372036854775807 := by
    rcases h.2 with ⟨e, h0⟩ | ⟨g, cap', cur, e, _, _, hc1, hc2, _⟩
    · cases e
      exact ⟨Nat.le_refl _, by omega⟩
    · cases e
      unfold maxLen at hc2
      omega
  obtain ⟨hnc, hcm⟩ := hnc
  have HO : Hid (w.ownsRow B 153 2 (.slice ad nb cap) nb bc) := h
  clear h
  by_cases hr : nb + n ≤ cap
  · have q1 : ¬ (0 : Int) < (n : Int) - ((cap : Int) - (nb : Int)) := by omega
    go_enter Try.func91, Try.ntmps91
    go_wp2
    first | exact ⟨ad, cap, rfl, HO.out, Below.refl _ _, fun j hj => Or.inl hj⟩ | (go_ret; exact ⟨ad, cap, rfl, HO.out, Below.refl _ _, fun j hj => Or.inl hj⟩)
  · obtain ⟨k, hk⟩ : ∃ k : Nat, (n : Int) - ((cap : Int) - (nb : Int)) = (k : Int) := ⟨nb + n - cap, by omega⟩
    have hk0 : 0 < k := by omega
    have q1 : (0 : Int) < (k : Int) := by omega
    go_enter Try.func91, Try.ntmps91
    go_wp2_with (at_builtin; refine wpList_zeros rfl _ _ rfl rfl HO.out k rfl hk0 (by omega) hB ?_; intro C w2 hC ho2 hb2; have HP : Hid (w2.ownsRow B 153 2 (.slice (some ⟨w.heap.size, 0, none⟩) nb C) nb bc ∧ Below w.heap.size w w2) := ⟨ho2, hb2⟩; have hC2 : nb ≤ C := (by omega); have hC3 : (nb : Int) ≤ (C : Int) := (by omega); clear ho2 hb2)
    first | exact ⟨_, C, rfl, HP.out.1, HP.out.2, fun j hj => Or.inr (by cases hj; exact Nat.le_refl _)⟩ | (go_ret; exact ⟨_, C, rfl, HP.out.1, HP.out.2, fun j hj => Or.inr (by cases hj; exact Nat.le_refl _)⟩)
end Go.Proofs.Ytkomadlmonhlhaa
namespace Go.Proofs.Ytkomadlmonhlhaa
open Go.ChangeShapes Go.WideShapes Go.ChangeAt Go.RowKit Go.Lib Go.Ag Go.WideMaps Go.Maps Go.ChangeMaps

/-- the blocks of memory that a graph owns -/
def ownG (R : Nat) (vb vg : Value) (M : Option Nat) (j : Nat) : Prop := j = R ∨ vb.ownBlock = some j ∨ vg.ownBlock = some j ∨ M = some j
/-- a graph on its way: its parts, and that all else stands since w0 -/
structure GX (w0 : World) (O : Nat → Prop) (w : World) (B R m nb : Nat) (bc : List Value) (gs : List (Nat × Nat)) (vb vg : Value) (M : Option Nat) (mn : Nat) (D : DataW Unit) : Prop where
  blk : w.heap[R]? = some (.cells #[.int .i64 (m : Int), vb, vg, .map M] 91 (0, 0))
  rb : w.ownsRow B 153 2 vb nb bc
  rg : w.ownsRow B 96 2 vg gs.length (gatesC gs)
  mo : MapO 96 w M mn D
  os : w.os = w0.os
  tape : w.tape = w0.tape
  output : w.output = w0.output
  size : w0.heap.size ≤ w.heap.size
  kp : ∀ j, j < w0.heap.size → ¬ O j → w.heap[j]? = w0.heap[j]?
  fr : ∀ j, ownG R vb vg M j → O j ∨ w0.heap.size ≤ j
  low : B ≤ w0.heap.size
theorem GX.lt {w0 : World} {O : Nat → Prop} {w : World} {B R m nb : Nat} {bc : List Value} {gs : List (Nat × Nat)} {vb vg : Value} {M : Option Nat} {mn : Nat} {D : DataW Unit} (h : GX w0 O w B R m nb bc gs vb vg M mn D) : R < w.heap.size := (Array.getElem?_eq_some_iff.1 h.blk).1
theorem GX.over {w0 : World} {O : Nat → Prop} {w w' : World} {B R m nb : Nat} {bc : List Value} {gs : List (Nat × Nat)} {vb vg : Value} {M : Option Nat} {mn : Nat} {D : DataW Unit} (h : GX w0 O w B R m nb bc gs vb vg M mn D) (hb : Below w.heap.size w w') : GX w0 O w' B R m nb bc gs vb vg M mn D :=
  ⟨(hb.block R h.lt).trans h.blk, ag_same h.rb (fun j hj => hb.block j (h.rb.lt j hj).2), ag_same h.rg (fun j hj => hb.block j (h.rg.lt j hj).2),
    h.mo.keep (fun m _ _ _ hm => (hb.block m (Array.getElem?_eq_some_iff.1 hm).1).trans hm), hb.os.trans h.os, hb.tape.trans h.tape, hb.output.trans h.output, Nat.le_trans h.size hb.size,
    fun j hj hO => (hb.block j (Nat.lt_of_lt_of_le hj h.size)).trans (h.kp j hj hO), h.fr, h.low⟩
/-- a cell of the graph's own block is set; the new parts stand already -/
theorem GX.setR {w0 : World} {O : Nat → Prop} {w : World} {B R m nb : Nat} {bc : List Value} {gs : List (Nat × Nat)} {vb vg : Value} {M : Option Nat} {mn : Nat} {D : DataW Unit} (h : GX w0 O w B R m nb bc gs vb vg M mn D) (i : Nat) (u : Value)
    {m' nb' : Nat} {bc' : List Value} {gs' : List (Nat × Nat)} {vb' vg' : Value} {M' : Option Nat} {mn' : Nat} {D' : DataW Unit}
    (hset : (#[Value.int .i64 (m : Int), vb, vg, .map M] : Array Value).setIfInBounds i u = #[.int .i64 (m' : Int), vb', vg', .map M'])
    (hb : w.ownsRow B 153 2 vb' nb' bc') (hg : w.ownsRow B 96 2 vg' gs'.length (gatesC gs')) (hm : MapO 96 w M' mn' D') (hf : ∀ j, ownG R vb' vg' M' j → O j ∨ w0.heap.size ≤ j) :
    GX w0 O (w.setCell ⟨R, i, none⟩ u) B R m' nb' bc' gs' vb' vg' M' mn' D' := by
  have ho : ∀ j, j ≠ R → (w.setCell ⟨R, i, none⟩ u).heap[j]? = w.heap[j]? := fun j hj => heap_setCell_other _ _ _ _ hj
  refine ⟨?_, ag_same hb (fun j hj => ho j (fun e => ag_ne hb h.blk (by decide) (by rw [hj, e]))), ag_same hg (fun j hj => ho j (fun e => ag_ne hg h.blk (by decide) (by rw [hj, e]))), hm.keep (fun x _ _ _ hx => (ho x (fun e => by rw [e, h.blk] at hx; cases hx)).trans hx), h.os, h.tape, h.output, by simp; exact h.size, fun j hj hO => ?_, hf, h.low⟩
  · rw [heap_setCell_same _ R i _ _ _ h.blk, hset]
  · rw [ho j (fun e => by
      rcases h.fr j (Or.inl e) with h1 | h1
      · exact hO h1
      · omega)]
    exact h.kp j hj hO
/-- what an append to a row of the graph leaves of the rest -/
theorem GX.grown {w0 : World} {O : Nat → Prop} {w w3 : World} {B R m nb : Nat} {bc : List Value} {gs : List (Nat × Nat)} {vb vg : Value} {M : Option Nat} {mn : Nat} {D : DataW Unit} (h : GX w0 O w B R m nb bc gs vb vg M mn D) {o : Obj} {v : Value} (hv : ∀ j, v.ownBlock = some j → ownG R vb vg M j) (hg : (w.alloc o).grownBy w3 v.ownBlock) :
    (∀ j, j < w.heap.size → v.ownBlock ≠ some j → w3.heap[j]? = w.heap[j]?) ∧ w3.os = w0.os ∧ w3.tape = w0.tape ∧ w3.output = w0.output ∧ w0.heap.size ≤ w3.heap.size ∧ (∀ j, j < w0.heap.size → ¬ O j → w3.heap[j]? = w0.heap[j]?) := by
  have hk : ∀ j, j < w.heap.size → v.ownBlock ≠ some j → w3.heap[j]? = w.heap[j]? := fun j hj hn => by
    rw [hg.block j (by simp; omega) (fun e => hn e.symm)]
    exact Below.heap_alloc _ _ j hj
  have hs := hg.size
  have hz := h.size
  refine ⟨hk, hg.os.trans h.os, hg.tape.trans h.tape, hg.output.trans h.output, by simp at hs; omega, fun j hj hO => ?_⟩
  rw [hk j (by omega) (fun e => by
    rcases h.fr j (hv j e) with h1 | h1
    · exact hO h1
    · omega)]
  exact h.kp j hj hO
/-- one block more -/
theorem GX.putB {w0 : World} {O : Nat → Prop} {w w3 : World} {B R m nb : Nat} {bc : List Value} {gs : List (Nat × Nat)} {vb vg : Value} {M : Option Nat} {mn : Nat} {D : DataW Unit} (h : GX w0 O w B R m nb bc gs vb vg M mn D) {o : Obj} {vb' : Value} {g : Nat} {new : List Value}
    (ho : w3.ownsRow B 153 2 vb' (nb + 1) (bc ++ new)) (hg : (w.alloc o).grownBy w3 vb.ownBlock) (hv : vb'.ownBlock = some g) (hat : vb.ownBlock = some g ∨ g = w.heap.size + 1) : GX w0 O (w3.setCell ⟨R, 1, none⟩ vb') B R m (nb + 1) (bc ++ new) gs vb' vg M mn D := by
  obtain ⟨hk, h1, h2, h3, h4, h5⟩ := h.grown (v := vb) (fun j hj => Or.inr (Or.inl hj)) hg
  have hbl : w3.heap[R]? = some (.cells #[.int .i64 (m : Int), vb, vg, .map M] 91 (0, 0)) := (hk R h.lt (ag_ne h.rb h.blk (by decide))).trans h.blk
  have hrg : w3.ownsRow B 96 2 vg gs.length (gatesC gs) := ag_same h.rg (fun j hj => hk j (h.rg.lt j hj).2 (fun e => by
    rcases h.rg.2 with ⟨e1, _⟩ | ⟨b, cap, cur, e1, _, hb2, _⟩
    · rw [e1] at hj; cases hj
    · rw [e1] at hj
      have e2 : b = j := by simpa [Value.ownBlock] using hj
      subst e2
      exact ag_ne h.rb hb2 (by decide) e))
  have hmo : MapO 96 w3 M mn D := h.mo.keep (fun x _ _ _ hx => (hk x (Array.getElem?_eq_some_iff.1 hx).1 (fun e => by
    rcases h.rb.2 with ⟨e1, _⟩ | ⟨b, cap, cur, e1, _, hb2, _⟩
    · rw [e1] at e; cases e
    · rw [e1] at e
      have e2 : b = x := by simpa [Value.ownBlock] using e
      subst e2
      rw [hb2] at hx
      cases hx)).trans hx)
  have ho2 : ∀ j, j ≠ R → (w3.setCell ⟨R, 1, none⟩ vb').heap[j]? = w3.heap[j]? := fun j hj => heap_setCell_other _ _ _ _ hj
  refine ⟨?_, ag_same ho (fun j hj => ho2 j (fun e => ag_ne ho hbl (by decide) (by rw [hj, e]))), ag_same hrg (fun j hj => ho2 j (fun e => ag_ne hrg hbl (by decide) (by rw [hj, e]))), hmo.keep (fun x _ _ _ hx => (ho2 x (fun e => by rw [e, hbl] at hx; cases hx)).trans hx), h1, h2, h3, by simp; exact h4, fun j hj hO => ?_, fun j hj => ?_, h.low⟩
  · rw [heap_setCell_same _ R 1 _ _ _ hbl]
    rfl
  · rw [ho2 j (fun e => by
      rcases h.fr j (Or.inl e) with h6 | h6
      · exact hO h6
      · omega)]
    exact h5 j hj hO
  · rcases hj with hj | hj | hj | hj
    · exact h.fr j (Or.inl hj)
    · rw [hv] at hj
      cases hj
      rcases hat with e | e
      · exact h.fr _ (Or.inr (Or.inl e))
      · right; have := h.size; omega
    · exact h.fr j (Or.inr (Or.inr (Or.inl hj)))
    · exact h.fr j (Or.inr (Or.inr (Or.inr hj)))
/-- one gate more -/
theorem GX.putG {w0 : World} {O : Nat → Prop} {w w3 : World} {B R m nb : Nat} {bc : List Value} {gs : List (Nat × Nat)} {vb vg : Value} {M : Option Nat} {mn : Nat} {D : DataW Unit} (h : GX w0 O w B R m nb bc gs vb vg M mn D) {o : Obj} {vg' : Value} {g : Nat} {x : Nat × Nat}
    (ho : w3.ownsRow B 96 2 vg' (gs.length + 1) (gatesC gs ++ gateC x)) (hg : (w.alloc o).grownBy w3 vg.ownBlock) (hv : vg'.ownBlock = some g) (hat : vg.ownBlock = some g ∨ g = w.heap.size + 1) : GX w0 O (w3.setCell ⟨R, 2, none⟩ vg') B R m nb bc (gs ++ [x]) vb vg' M mn D := by
  obtain ⟨hk, h1, h2, h3, h4, h5⟩ := h.grown (v := vg) (fun j hj => Or.inr (Or.inr (Or.inl hj))) hg
  have hbl : w3.heap[R]? = some (.cells #[.int .i64 (m : Int), vb, vg, .map M] 91 (0, 0)) := (hk R h.lt (ag_ne h.rg h.blk (by decide))).trans h.blk
  have hrb : w3.ownsRow B 153 2 vb nb bc := ag_same h.rb (fun j hj => hk j (h.rb.lt j hj).2 (fun e => by
    rcases h.rb.2 with ⟨e1, _⟩ | ⟨b, cap, cur, e1, _, hb2, _⟩
    · rw [e1] at hj; cases hj
    · rw [e1] at hj
      have e2 : b = j := by simpa [Value.ownBlock] using hj
      subst e2
      exact ag_ne h.rg hb2 (by decide) e))
  have ho' : w3.ownsRow B 96 2 vg' (gs ++ [x]).length (gatesC (gs ++ [x])) := by
    have e1 : gatesC (gs ++ [x]) = gatesC gs ++ gateC x := by simp [gatesC]
    rw [e1, List.length_append]
    exact ho
  have hmo : MapO 96 w3 M mn D := h.mo.keep (fun x _ _ _ hx => (hk x (Array.getElem?_eq_some_iff.1 hx).1 (fun e => by
    rcases h.rg.2 with ⟨e1, _⟩ | ⟨b, cap, cur, e1, _, hb2, _⟩
    · rw [e1] at e; cases e
    · rw [e1] at e
      have e2 : b = x := by simpa [Value.ownBlock] using e
      subst e2
      rw [hb2] at hx
      cases hx)).trans hx)
  have ho2 : ∀ j, j ≠ R → (w3.setCell ⟨R, 2, none⟩ vg').heap[j]? = w3.heap[j]? := fun j hj => heap_setCell_other _ _ _ _ hj
  refine ⟨?_, ag_same hrb (fun j hj => ho2 j (fun e => ag_ne hrb hbl (by decide) (by rw [hj, e]))), ag_same ho' (fun j hj => ho2 j (fun e => ag_ne ho' hbl (by decide) (by rw [hj, e]))), hmo.keep (fun x _ _ _ hx => (ho2 x (fun e => by rw [e, hbl] at hx; cases hx)).trans hx), h1, h2, h3, by simp; exact h4, fun j hj hO => ?_, fun j hj => ?_, h.low⟩
  · rw [heap_setCell_same _ R 2 _ _ _ hbl]
    rfl
  · rw [ho2 j (fun e => by
      rcases h.fr j (Or.inl e) with h6 | h6
      · exact hO h6
      · omega)]
    exact h5 j hj hO
  · rcases hj with hj | hj | hj | hj
    · exact h.fr j (Or.inl hj)
    · exact h.fr j (Or.inr (Or.inl hj))
    · rw [hv] at hj
      cases hj
      rcases hat with e | e
      · exact h.fr _ (Or.inr (Or.inr (Or.inl e)))
      · right; have := h.size; omega
    · exact h.fr j (Or.inr (Or.inr (Or.inr hj)))
/-- a cell of the row of blocks is set -/
theorem GX.setBit {w0 : World} {O : Nat → Prop} {w : World} {B R m nb : Nat} {bc : List Value} {gs : List (Nat × Nat)} {b cap : Nat} {vg : Value} {M : Option Nat} {mn : Nat} {D : DataW Unit} (h : GX w0 O w B R m nb bc gs (.slice (some ⟨b, 0, none⟩) nb cap) vg M mn D) (i : Nat) (u : Value) :
    GX w0 O (w.setCell ⟨b, i, none⟩ u) B R m nb (bc.set i u) gs (.slice (some ⟨b, 0, none⟩) nb cap) vg M mn D := by
  have ho : ∀ j, j ≠ b → (w.setCell ⟨b, i, none⟩ u).heap[j]? = w.heap[j]? := fun j hj => heap_setCell_other _ _ _ _ hj
  rcases h.rb.2 with ⟨e1, _⟩ | ⟨g, cap', cur, e1, hb1, hb2, hb3, hb4, hb5, hb6⟩
  · cases e1
  · cases e1
    refine ⟨?_, ?_, ?_, ?_, h.os, h.tape, h.output, by simp; exact h.size, fun j hj hO => ?_, h.fr, h.low⟩
    · rw [ho R (fun e => by have h1 := h.blk; rw [e, hb2] at h1; cases h1)]
      exact h.blk
    · refine ⟨by rw [List.length_set]; exact h.rb.1, Or.inr ⟨b, cap, cur.setIfInBounds i u, rfl, hb1, heap_setCell_same _ b i _ _ _ hb2, hb3, hb4, by rw [Array.size_setIfInBounds]; exact hb5, ?_⟩⟩
      rw [Array.toList_setIfInBounds, List.take_set, hb6]
    · refine ag_same h.rg (fun j hj => ho j (fun e => ?_))
      subst e
      exact ag_ne h.rg hb2 (by decide) hj
    · exact h.mo.keep (fun x _ _ _ hx => (ho x (fun e => by rw [e, hb2] at hx; cases hx)).trans hx)
    · rw [ho j (fun e => by
        rcases h.fr j (Or.inr (Or.inl (by rw [e]; rfl))) with h6 | h6
        · exact hO h6
        · omega)]
      exact h.kp j hj hO
end Go.Proofs.Ytkomadlmonhlhaa
namespace Go.Proofs.Ytkomadlmonhlhaa
open Go.ChangeShapes Go.WideShapes Go.ChangeAt Go.RowKit Go.Lib Go.Ag Go.WideMaps Go.Maps Go.ChangeMaps

theorem GX.mapped {w0 : World} {O : Nat → Prop} {w w' : World} {B R m nb : Nat} {bc : List Value} {gs : List (Nat × Nat)} {vb vg : Value} {b : Nat} {mn mn' : Nat} {D D' : DataW Unit} (h : GX w0 O w B R m nb bc gs vb vg (some b) mn D) (ho : w'.ownsMap Try.prog 96 (plainElem Try.prog 42) b mn' D') (hg : w.grownBy w' (some b)) : GX w0 O w' B R m nb bc gs vb vg (some b) mn' D' := by
  obtain ⟨es, cl, hb⟩ := h.mo.block rfl
  have hk : ∀ j, j < w.heap.size → j ≠ b → w'.heap[j]? = w.heap[j]? := fun j hj hn => hg.block j hj (fun e => hn (by cases e; rfl))
  have row : ∀ {e n : Nat} {v : Value} {L : List Value}, w.ownsRow B e 2 v n L → w'.ownsRow B e 2 v n L := fun {e n v L} hv => ag_same hv (fun j hj => hk j (hv.lt j hj).2 (fun e2 => by
    rcases hv.2 with ⟨e1, _⟩ | ⟨g, cap, cur, e1, _, hb2, _⟩
    · rw [e1] at hj; cases hj
    · rw [e1] at hj
      have e3 : g = j := by simpa [Value.ownBlock] using hj
      subst e3
      rw [e2, hb] at hb2
      cases hb2))
  refine ⟨?_, row h.rb, row h.rg, ho, hg.os.trans h.os, hg.tape.trans h.tape, hg.output.trans h.output, Nat.le_trans h.size hg.size, fun j hj hO => ?_, h.fr, h.low⟩
  · rw [hk R h.lt (fun e => by have h1 := h.blk; rw [e, hb] at h1; cases h1)]
    exact h.blk
  · have hz := h.size
    rw [hk j (by omega) (fun e => by
      rcases h.fr j (Or.inr (Or.inr (Or.inr (by rw [e])))) with h6 | h6
      · exact hO h6
      · omega)]
    exact h.kp j hj hO
theorem made0 {W : World} {m : Nat} (h : W.heap[m]? = some (Obj.map #[] 0)) : MapO 96 W (some m) 0 (.map []) :=
  ⟨#[], 0, h, ⟨by simp, MapKept.stamped_empty 0, by simp⟩, Nat.le_refl _, rfl⟩
theorem bitsB_succ (ns : Nds) (j k : Nat) : bitsB ns j (k + 1) = bitsB ns j k + (if (ns.getD (64 * j + k) none).isSome then 2 ^ k else 0) := rfl
/-! ### the blocks, as addGate makes them -/
theorem blksC_succ (ns : Nds) (nb : Nat) : blksC ns (nb + 1) = blksC ns nb ++ blkC ns nb := by
  unfold blksC
  rw [List.range_succ, List.flatMap_append]
  simp
theorem bitsB_zero (ns : Nds) (j : Nat) (h : ∀ p, 64 * j ≤ p → ns.getD p none = none) : ∀ k, bitsB ns j k = 0
  | 0 => rfl
  | k + 1 => by
    unfold bitsB
    rw [bitsB_zero ns j h k, h (64 * j + k) (by omega)]
    rfl
theorem cntG_cov (ns : Nds) (k : Nat) (h : ∀ p, k ≤ p → ns.getD p none = none) : cntG ns k = (gatesL ns).length := by
  unfold cntG gatesL
  have e : ns.filterMap id = (ns.take k).filterMap id ++ (ns.drop k).filterMap id := by rw [← List.filterMap_append, List.take_append_drop]
  have h2 : (ns.drop k).filterMap id = [] := by
    rw [List.filterMap_eq_nil_iff]
    intro a ha
    obtain ⟨i, hi, e⟩ := List.getElem_of_mem ha
    rw [List.getElem_drop] at e
    have h3 := h (k + i) (by omega)
    rw [List.getD_eq_getElem?_getD, List.getElem?_eq_getElem (by simp at hi; omega)] at h3
    rw [← e]
    exact h3
  rw [e, h2, List.append_nil]
theorem blkC_new (ns : Nds) (nb : Nat) (h : ∀ p, 64 * nb ≤ p → ns.getD p none = none) : blkC ns nb = [.int .u64 0, .int .i64 ((gatesL ns).length : Int)] := by
  unfold blkC
  rw [bitsB_zero ns nb h, cntG_cov ns _ h]
  rfl
/-- the bit of the new gate is set -/
theorem blksC_gate (ns : Nds) (g : Nat × Nat) (q : Nat) (hq : q = ns.length / 64) : (blksC ns (q + 1)).set (2 * q) (.int .u64 ((bitsB ns q 64 + 2 ^ (ns.length % 64) : Nat) : Int)) = blksC (ns ++ [some g]) (q + 1) := by
  have hl := blksC_len ns q
  have e0 : blksC (ns ++ [some g]) q = blksC ns q := by
    unfold blksC
    refine flat_congr _ _ _ (fun j hj => ?_)
    have hj2 := List.mem_range.1 hj
    unfold blkC
    rw [bitsB_app, cntG_app ns _ (64 * j) (by omega), if_neg (by omega), Nat.add_zero]
  rw [blksC_succ, blksC_succ, e0, List.set_append_right _ _ (by omega)]
  congr 1
  rw [hl, show 2 * q - q * 2 = 0 by omega]
  unfold blkC
  rw [bitsB_app, cntG_app ns _ (64 * q) (by omega)]
  rw [if_pos ⟨by omega, by omega, rfl⟩, show ns.length - 64 * q = ns.length % 64 by omega]
  rfl
theorem bits_or (ns : Nds) (q : Nat) (hq : q = ns.length / 64) : bitsB ns q 64 ||| 2 ^ (ns.length % 64) = bitsB ns q 64 + 2 ^ (ns.length % 64) := by
  have hp : ns.length % 64 < 64 := Nat.mod_lt _ (by decide)
  have hz : bitsB ns q 64 < 2 ^ (ns.length % 64) := by
    have key : ∀ k, ns.length % 64 ≤ k → bitsB ns q k = bitsB ns q (ns.length % 64) := by
      intro k hk
      induction k with
      | zero => rw [show ns.length % 64 = 0 by omega]
      | succ k ih =>
        by_cases e : ns.length % 64 = k + 1
        · rw [e]
        · have h1 := ih (by omega)
          have h2 : ns.getD (64 * q + k) none = none := by
            rw [List.getD_eq_getElem?_getD, List.getElem?_eq_none (by omega)]
            rfl
          rw [bitsB_succ, h1, h2]
          rfl
    rw [key 64 (by omega)]
    exact bitsB_lt _ _ _
  have h9 := Nat.two_pow_add_eq_or_of_lt hz 1
  rw [Nat.mul_one] at h9
  rw [Nat.or_comm, ← h9, Nat.add_comm]
end Go.Proofs.Ytkomadlmonhlhaa
