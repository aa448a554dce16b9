import Derived.Test.YtdoeggompochoaaAgB
namespace Go.Proofs.Ytdoeggompochoaa
open Go.ChangeShapes Go.WideShapes Go.ChangeAt Go.RowKit Go.Lib Go.Ag Go.WideMaps Go.Maps Go.ChangeMaps

theorem laidOut : laidOutB Try.prog = true := by kernel_rfl
theorem rowG : 103 < Try.prog.types.size := by decide +kernel
theorem lawG : Keyed Try.prog 103 := Keyed.of_law (deep_law_laid laidOut (m := 3) (by omega) rowG (by kernel_rfl) (by kernel_rfl))
theorem cG : Try.prog.cellsOf 103 = 2 := by kernel_rfl
theorem cU3 : Try.prog.cellsOf 42 = 1 := by kernel_rfl
def gateV (g : Nat × Nat) : Value := .agg #[.int .u32 (g.1 : Int), .int .u32 (g.2 : Int)]
def okG (g : Nat × Nat) : Prop := g.1 < 4294967296 ∧ g.2 < 4294967296
theorem wf_u3 {x : Nat} (h : x < 4294967296) : (Lit.int .u32 (x : Int)).wf = true := by
  simp [Lit.wf, IntKind.min, IntKind.max, IntKind.bits, IntKind.signed]
  omega
theorem key_gate (g : Nat × Nat) (h : okG g) : ∃ l, keyOf Try.prog 103 (gateV g) = some l := by
  have hk : ∃ ls, Try.prog.keyLits (Try.prog.types.size + 1) 103 [.int .u32 (g.1 : Int), .int .u32 (g.2 : Int)] = some ls := by
    obtain ⟨k, hk⟩ : ∃ k, Try.prog.types.size + 1 = k + 1 + 1 := ⟨Try.prog.types.size - 1, by have : 0 < Try.prog.types.size := (by decide +kernel); omega⟩
    rw [hk]
    have h1 := wf_u3 h.1
    have h2 := wf_u3 h.2
    simp [Program.keyLits, Try.underlying103, Try.underlying42, cG, cU3, h1, h2]
  obtain ⟨ls, hls⟩ := hk
  refine ⟨.string (keyBytes ls), ?_⟩
  have hf : (gateV g).formed Try.prog 103 = true := by simp [gateV, Value.formed, Try.underlying103, cG]
  have ht : Try.prog.keyType 103 = true := by kernel_rfl
  simp [keyOf, gateV, Try.underlying103]
  simp [gateV] at hf
  simp [hf, ht]
  exact ⟨ls, hls, rfl⟩
theorem gate_inj (x y : Nat × Nat) (h : gateV x = gateV y) : x = y := by
  unfold gateV at h
  simp at h
  exact Prod.ext (by omega) (by omega)
/-- a map that reads as a function -/
def FM {α : Type} (k : TypeId) (kv : α → Value) (dom : α → Prop) (D : DataW Unit) (f : α → Option Int) : Prop :=
  IsMap D ∧ ∀ x, dom x → ∃ kl, keyOf Try.prog k (kv x) = some kl ∧ Maps.has D kl = (f x).isSome ∧ ∀ i, f x = some i → ∀ zd, D.atKey kl zd = .lit (.int .u32 i)
theorem isMap_put {D : DataW Unit} (h : IsMap D) (k : Lit) (d : DataW Unit) : IsMap (D.put k d) := by
  obtain ⟨es, rfl⟩ := h
  exact ⟨_, rfl⟩
theorem FM.put {α : Type} [dec : DecidableEq α] {k : TypeId} {kv : α → Value} {dom : α → Prop} {D : DataW Unit} {f : α → Option Int} (K : Keyed Try.prog k) (inj : ∀ x y, kv x = kv y → x = y) (h : FM k kv dom D f) {x : α} {kl : Lit} (hkl : keyOf Try.prog k (kv x) = some kl) (i : Int) :
    FM k kv dom (D.put kl (.lit (.int .u32 i))) (fun y => if y = x then some i else f y) := by
  refine ⟨isMap_put h.1 _ _, fun y hy => ?_⟩
  obtain ⟨ky, h1, h2, h3⟩ := h.2 y hy
  refine ⟨ky, h1, ?_, ?_⟩
  · by_cases e : y = x
    · subst e
      rw [h1] at hkl
      cases hkl
      rw [has_put_same h.1 (K.key h1)]
      show true = (if y = y then some i else f y).isSome
      rw [if_pos rfl]
      rfl
    · rw [has_put_other (fun e2 => e (inj _ _ (K.inj (by rw [h1, e2]) hkl))), h2]
      show _ = (if y = x then some i else f y).isSome
      rw [if_neg e]
  · intro j hj0 zd
    have hj : (if y = x then some i else f y) = some j := hj0
    by_cases e : y = x
    · subst e
      rw [h1] at hkl
      cases hkl
      rw [if_pos rfl] at hj
      cases hj
      rw [atKey_put_same h.1 (K.key h1)]
    · rw [if_neg e] at hj
      rw [atKey_put_other (fun e2 => e (inj _ _ (K.inj (by rw [h1, e2]) hkl))), h3 j hj zd]
theorem FM.nil {α : Type} {k : TypeId} {kv : α → Value} {dom : α → Prop} (hk : ∀ x, dom x → ∃ kl, keyOf Try.prog k (kv x) = some kl) : FM k kv dom (.map []) (fun _ => none) :=
  ⟨isMap_empty, fun x hx => by obtain ⟨kl, h⟩ := hk x hx; exact ⟨kl, h, rfl, fun i hi => by cases hi⟩⟩
theorem FM.congr {α : Type} {k : TypeId} {kv : α → Value} {dom : α → Prop} {D : DataW Unit} {f g : α → Option Int} (h : FM k kv dom D f) (e : ∀ x, f x = g x) : FM k kv dom D g := by
  have : f = g := funext e
  rw [← this]
  exact h
theorem zeroI (w : World) : (zeroValue 42).run Try.prog w = .ok (.int .u32 0) w := Try.zeroValue42 w
/-- a map of memory, or none -/
def MapO (k : TypeId) (w : World) (M : Option Nat) (n : Nat) (D : DataW Unit) : Prop :=
  match M with
  | none => D = .map []
  | some m => w.ownsMap Try.prog k (plainElem Try.prog 42) m n D
theorem MapO.drew {k : TypeId} {w : World} {M : Option Nat} {n : Nat} {D : DataW Unit} (h : MapO k w M n D) : MapO k w.drew M n D := by
  cases M with
  | none => exact h
  | some m => exact World.ownsMap.drew h
theorem MapO.keep {k : TypeId} {w w' : World} {M : Option Nat} {n : Nat} {D : DataW Unit} (h : MapO k w M n D) (hb : ∀ m es clock, M = some m → w.heap[m]? = some (Obj.map es clock) → w'.heap[m]? = some (Obj.map es clock)) : MapO k w' M n D := by
  cases M with
  | none => exact h
  | some m =>
    obtain ⟨es, clock, h1, h2⟩ := h
    exact ⟨es, clock, hb m es clock rfl h1, h2⟩
theorem MapO.block {k : TypeId} {w : World} {M : Option Nat} {n : Nat} {D : DataW Unit} (h : MapO k w M n D) {m : Nat} (e : M = some m) : ∃ es clock, w.heap[m]? = some (Obj.map es clock) := by
  subst e
  obtain ⟨es, clock, h1, h2⟩ := h
  exact ⟨es, clock, h1⟩
theorem FM.look {α : Type} {k t : TypeId} {kv : α → Value} {dom : α → Prop} {D : DataW Unit} {f : α → Option Int} {w : World} {M : Option Nat} {n : Nat} (K : Keyed Try.prog k) (ht : Try.prog.underlying t = some (.map k 42)) (hm : MapO k w M n D) (h : FM k kv dom D f) (x : α) (hx : dom x) :
    (Instr.lookup t (.map M) (kv x) true).run Try.prog w = .ok (.tuple #[.int .u32 ((f x).getD 0), .bool (f x).isSome]) w := by
  obtain ⟨kl, h1, h2, h3⟩ := h.2 x hx
  cases M with
  | none =>
    obtain rfl : D = .map [] := hm
    have hf : f x = none := by
      cases hf : f x with
      | none => rfl
      | some i => rw [hf] at h2; cases h2
    rw [hf]
    exact Maps.look_nil true K ht (zeroI w) h1
  | some M =>
  obtain ⟨vv, pss, hrun, hR⟩ := World.ownsMap.look_ok (show w.ownsMap Try.prog k (plainElem Try.prog 42) M n D from hm) K ht (zeroI w) (plainElem_int Try.underlying42 (by decide)) h1
  cases hf : f x with
  | none =>
    rw [hrun, h2, hf]
    rw [hf] at h2
    have hz : D.atKey kl (.lit (.int .u32 0)) = .lit (.int .u32 0) := by
      exact atKey_of_not_has h2 _
    rw [hz] at hR
    obtain ⟨cc, rfl, ecc, -⟩ := plainElem_int_inv Try.underlying42 hR
    have hcc : cc = 0 := by have := ecc.symm; simp at this; exact this.1
    rw [hcc]
    rfl
  | some i =>
    rw [hrun, h2, hf]
    rw [h3 i hf] at hR
    obtain ⟨cc, rfl, ecc, -⟩ := plainElem_int_inv Try.underlying42 hR
    have hcc : cc = i := by have := ecc.symm; simp at this; exact this.1
    rw [hcc]
    rfl
/-- the cells of gates, and of blocks -/
def gateC (g : Nat × Nat) : List Value := [.int .u32 (g.1 : Int), .int .u32 (g.2 : Int)]
def gatesC (gs : List (Nat × Nat)) : List Value := gs.flatMap gateC
def blkC (ns : Nds) (j : Nat) : List Value := [.int .u64 (bitsB ns j 64 : Int), .int .i64 (cntG ns (64 * j) : Int)]
def blksC (ns : Nds) (nb : Nat) : List Value := (List.range nb).flatMap (blkC ns)
theorem gatesC_len (gs : List (Nat × Nat)) : (gatesC gs).length = gs.length * 2 := by
  induction gs with
  | nil => rfl
  | cons g gs ih => unfold gatesC at ih ⊢; rw [List.flatMap_cons, List.length_append, ih]; simp [gateC]; omega
theorem blksC_len (ns : Nds) (nb : Nat) : (blksC ns nb).length = nb * 2 := by
  induction nb with
  | zero => rfl
  | succ nb ih => unfold blksC at ih ⊢; rw [List.range_succ, List.flatMap_append, List.length_append, ih]; simp [blkC]; omega
theorem cntG_app (ns : Nds) (x : Option (Nat × Nat)) (k : Nat) (h : k ≤ ns.length) : cntG (ns ++ [x]) k = cntG ns k := by
  unfold cntG
  rw [List.take_append_of_le_length h]
theorem flat_congr {α β : Type} (f g : α → List β) : ∀ l : List α, (∀ x ∈ l, f x = g x) → l.flatMap f = l.flatMap g
  | [], _ => rfl
  | a :: l, h => by
    rw [List.flatMap_cons, List.flatMap_cons, h a (List.mem_cons_self ..), flat_congr f g l (fun x hx => h x (List.mem_cons_of_mem _ hx))]
/-- an input more: the blocks are as they were -/
theorem blksC_in (ns : Nds) (nb : Nat) (h : 64 * nb ≤ ns.length + 63) : blksC (ns ++ [none]) nb = blksC ns nb := by
  unfold blksC
  refine flat_congr _ _ _ ?_
  intro j hj
  have hj2 := List.mem_range.1 hj
  unfold blkC
  rw [bitsB_app, cntG_app ns none (64 * j) (by omega)]
  simp
/-- the graph in memory -/
structure GM (w : World) (B R : Nat) (ns : Nds) (nb : Nat) (vb vg : Value) (M : Option Nat) (D : DataW Unit) : Prop where
  blk : w.heap[R]? = some (.cells #[.int .i64 (ns.length : Int), vb, vg, .map M] 98 (0, 0))
  rb : w.ownsRow B 163 2 vb nb (blksC ns nb)
  rg : w.ownsRow B 103 2 vg (gatesL ns).length (gatesC (gatesL ns))
  mo : MapO 103 w M (gatesL ns).length D
  fm : FM 103 gateV okG D (fun g => (fnd ns g).map fun l => (l : Int))
  cov : ∀ p, 64 * nb ≤ p → ns.getD p none = none
  few : 64 * nb ≤ ns.length + 63
  ops : ∀ p g, ns[p]? = some (some g) → g.1 / 2 ≤ p ∧ g.2 / 2 ≤ p ∧ okG g
  len : ns.length ≤ 1073741823
  low : B ≤ R
end Go.Proofs.Ytdoeggompochoaa
