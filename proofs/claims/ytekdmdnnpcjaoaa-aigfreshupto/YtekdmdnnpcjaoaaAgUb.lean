import Derived.Test.YtekdmdnnpcjaoaaAgUa
import Derived.Test.YtekdmdnnpcjaoaaAgNb
namespace Go.Proofs.Ytekdmdnnpcjaoaa
open Go.ChangeShapes Go.WideShapes Go.ChangeAt Go.RowKit Go.Lib Go.Ag Go.WideMaps Go.Maps Go.ChangeMaps Go.Cn

/-- what a literal becomes where its node becomes another literal -/
def thrN (f : Nat → Nat) (l : Nat) : Nat := if l % 2 = 1 then notN (f (l / 2)) else f (l / 2)
def u32F (f : Nat → Nat) (i : Nat) : Value := .int .u32 (f i : Int)
theorem thrN_half (f : Nat → Nat) (l : Nat) : thrN f l / 2 = f (l / 2) / 2 := by
  unfold thrN
  split
  · rw [not_half]
  · rfl
theorem xor_u32z (a : Nat) (ha : a < 4294967296) : bits .xor .u32 (a : Int) 0 = (a : Int) := by
  show IntKind.u32.wrap ((BitVec.ofInt 32 (a : Int) ^^^ BitVec.ofInt 32 0).toNat : Int) = _
  have h1 : (BitVec.ofInt 32 (a : Int)).toNat = a := by rw [BitVec.toNat_ofInt]; omega
  have h2 : (BitVec.ofInt 32 0).toNat = 0 := rfl
  rw [BitVec.toNat_xor, h1, h2, Nat.xor_zero, IntKind.wrap_u32]
  omega
theorem turned_any (a l : Nat) (ha : a < 4294967296) (hl : l < 4294967296) (w : World) :
    Calls Try.prog 52 #[.int .u32 (a : Int), .int .u32 (l : Int)] w fun e w' => e = .returned (.int .u32 ((if l % 2 = 1 then notN a else a : Nat) : Int)) ∧ w' = w := by
  have hA := and1_u32 l hl
  rcases Nat.mod_two_eq_zero_or_one l with e2 | e2
  · rw [e2] at hA ⊢
    have hX := xor_u32z a ha
    go_enter Try.func52, Try.ntmps52
    go_wp2_with fail
    first | exact ⟨rfl, rfl⟩ | (go_ret; exact ⟨rfl, rfl⟩)
  · rw [e2] at hA ⊢
    have hX := (xor1_u32 a ha).1
    go_enter Try.func52, Try.ntmps52
    go_wp2_with fail
    first | exact ⟨rfl, rfl⟩ | (go_ret; exact ⟨rfl, rfl⟩)
set_option maxHeartbeats 2000000 in
theorem through_any (w : World) {lo P n : Nat} {pg : Nat → Option Nat} {f : Nat → Nat} (h : TB w 27 44 (.int .u32 0) lo P n pg (u32F f)) (hf : ∀ i, f i < 4294967296) (l : Nat) (hl : l < 4294967296) (hn : l / 2 / 1024 < n) :
    Calls Try.prog 35 #[.agg #[.slice (some ⟨P, 0, none⟩) n n], .int .u32 (l : Int)] w fun e w' => e = .returned (.int .u32 ((thrN f l : Nat) : Int)) ∧ Below w.heap.size w w' := by
  have HO : Hid (∀ W, Below w.heap.size w W → Calls Try.prog 53 #[.agg #[.slice (some ⟨P, 0, none⟩) n n], .int .u32 (l : Int)] W fun e w' => e = .returned (.int .u32 (f (l / 2) : Int)) ∧ Below W.heap.size W w') := fun W hW => ofU_any W (h.over hW) l hl hn
  have HT : Hid (∀ W, Calls Try.prog 52 #[.int .u32 (f (l / 2) : Int), .int .u32 (l : Int)] W fun e w' => e = .returned (.int .u32 ((thrN f l : Nat) : Int)) ∧ w' = W) := fun W => turned_any (f (l / 2)) l (hf _) hl W
  clear h hf
  generalize thrN f l = x at *
  generalize f (l / 2) = y at *
  go_enter Try.func35, Try.ntmps35
  go_wp2_with fail
  refine (HO.out _ (ag_bel1 _ _)).mono ?_
  rintro e w1 ⟨rfl, hb1⟩
  go_wp2_with fail
  refine (HT.out w1).mono ?_
  rintro e wn ⟨rfl, hwn⟩; subst wn
  go_wp2_with fail
  first | exact ⟨rfl, ag_next (ag_bel1 _ _) hb1⟩ | (go_ret; exact ⟨rfl, ag_next (ag_bel1 _ _) hb1⟩)
/-- a block of another type is none of the graph's -/
theorem own_apart {w : World} {B R : Nat} {ns : Nds} {nb : Nat} {vb vg : Value} {M : Option Nat} {D : DataW Unit} (h : GM w B R ns nb vb vg M D) {j : Nat} {cs : Array Value} {ty : TypeId} {fr : Nat × Nat} (hj : w.heap[j]? = some (.cells cs ty fr)) (h1 : ty ≠ 54) (h2 : ty ≠ 100) (h3 : ty ≠ 75) : ¬ ownG R vb vg M j := by
  rintro (rfl | e | e | e)
  · rw [h.blk] at hj
    cases hj
    exact h1 rfl
  · exact ag_ne h.rb hj (fun e => h2 e.symm) e
  · exact ag_ne h.rg hj (fun e => h3 e.symm) e
  · obtain ⟨es, clock, hm⟩ := h.mo.block e
    rw [hm] at hj
    cases hj
theorem tyL1 : (72 : TypeId) ≠ 54 ∧ (72 : TypeId) ≠ 100 ∧ (72 : TypeId) ≠ 75 ∧ (72 : TypeId) ≠ 98 ∧ (72 : TypeId) ≠ 27 ∧ (72 : TypeId) ≠ 44 := by decide
theorem tyL2 : (27 : TypeId) ≠ 54 ∧ (27 : TypeId) ≠ 100 ∧ (27 : TypeId) ≠ 75 ∧ (27 : TypeId) ≠ 98 := by decide
theorem tyL3 : (44 : TypeId) ≠ 54 ∧ (44 : TypeId) ≠ 100 ∧ (44 : TypeId) ≠ 75 ∧ (44 : TypeId) ≠ 98 := by decide
theorem tyL4 : (3 : TypeId) ≠ 54 ∧ (3 : TypeId) ≠ 100 ∧ (3 : TypeId) ≠ 75 ∧ (3 : TypeId) ≠ 27 ∧ (3 : TypeId) ≠ 44 := by decide
/-- a laying under way: the work, the table of what the nodes became (its struct at Tb), the cone -/
structure LY (w0 : World) (B R : Nat) (vb0 vg0 : Value) (M0 : Option Nat) (Wb : Nat) (bf : Int) (H0 Tb P nt : Nat) (ns : Nds) (pg : Nat → Option Nat) (f : Nat → Nat) (cn : List Nat) (vC : Value) (w : World) : Prop where
  ws : WS w0 B R vb0 vg0 M0 Wb bf ns w
  q : w.heap[Tb]? = some (.cells #[.slice (some ⟨P, 0, none⟩) nt nt] 72 (0, 0))
  q0 : H0 ≤ Tb
  tb : TB w 27 44 (.int .u32 0) H0 P nt pg (u32F f)
  cr : w.ownsRow H0 3 1 vC cn.length (natV cn)
  lw : w0.heap.size ≤ H0
  fl : ∀ i, f i / 2 ≤ ns.length
theorem LY.over {w0 : World} {B R : Nat} {vb0 vg0 : Value} {M0 : Option Nat} {Wb : Nat} {bf : Int} {H0 Tb P nt : Nat} {ns : Nds} {pg : Nat → Option Nat} {f : Nat → Nat} {cn : List Nat} {vC : Value} {w w' : World} (h : LY w0 B R vb0 vg0 M0 Wb bf H0 Tb P nt ns pg f cn vC w) (hb : Below w.heap.size w w') : LY w0 B R vb0 vg0 M0 Wb bf H0 Tb P nt ns pg f cn vC w' :=
  ⟨h.ws.over hb, (hb.block Tb (Array.getElem?_eq_some_iff.1 h.q).1).trans h.q, h.q0, h.tb.over hb, ag_same h.cr (fun k hk => hb.block k (h.cr.lt k hk).2), h.lw, h.fl⟩
/-- an and on the way -/
theorem LY.and {w0 : World} {B R : Nat} {vb0 vg0 : Value} {M0 : Option Nat} {Wb : Nat} {bf : Int} {H0 Tb P nt : Nat} {ns : Nds} {pg : Nat → Option Nat} {f : Nat → Nat} {cn : List Nat} {vC : Value} {w : World} (h : LY w0 B R vb0 vg0 M0 Wb bf H0 Tb P nt ns pg f cn vC w) (a b : Nat) (ha : a / 2 ≤ ns.length) (hb : b / 2 ≤ ns.length) (hl : ns.length < 1073741823) :
    Calls Try.prog 34 #[.pointer (some ⟨Wb, 0, none⟩), .int .u32 (a : Int), .int .u32 (b : Int)] w fun e w' => ∃ l ns', e = .returned (.int .u32 ((l : Nat) : Int)) ∧ andN ns a b = some (l, ns') ∧ LY w0 B R vb0 vg0 M0 Wb bf H0 Tb P nt ns' pg f cn vC w' := by
  obtain ⟨nb, vb, vg, M, D, h1, h2, h3⟩ := h.ws.gr
  refine (and_any w h1 h.ws.hB Wb bf h.ws.wb a b ha hb hl).mono ?_
  rintro e w4 ⟨p, ns1, nb1, vb1, vg1, M1, D1, rfl, hn4, hg4, hk4⟩
  have hwb := (Array.getElem?_eq_some_iff.1 h.ws.wb).1
  have hle := andN_le hn4 ha hb
  have hkc : ∀ (j : Nat) (cs : Array Value) (ty : TypeId) (fr : Nat × Nat), w.heap[j]? = some (Obj.cells cs ty fr) → ty ≠ 54 → ty ≠ 100 → ty ≠ 75 → w4.heap[j]? = w.heap[j]? := fun j cs ty fr hj t1 t2 t3 => hk4.kp j (Array.getElem?_eq_some_iff.1 hj).1 (own_apart h1 hj t1 t2 t3)
  refine ⟨p, ns1, rfl, hn4, ⟨⟨⟨nb1, vb1, vg1, M1, D1, hg4, h2.trans hk4, fun e => ?_⟩, (hk4.kp Wb hwb h3).trans h.ws.wb, Nat.le_trans h.ws.hB hk4.size⟩, (hkc Tb _ _ _ h.q tyL1.1 tyL1.2.1 tyL1.2.2.1).trans h.q, h.q0, h.tb.keep (fun j hj => ?_), ag_same h.cr (fun k hk => ?_), h.lw, fun i => Nat.le_trans (h.fl i) hle.2.1⟩⟩
  · rcases hk4.fr Wb e with e2 | e2
    · exact h3 e2
    · omega
  · obtain ⟨cs, ty, hb2, hty, _⟩ := h.tb.typ hj
    rcases hty with e | e
    · rw [e] at hb2; exact hkc j _ _ _ hb2 tyL2.1 tyL2.2.1 tyL2.2.2.1
    · rw [e] at hb2; exact hkc j _ _ _ hb2 tyL3.1 tyL3.2.1 tyL3.2.2.1
  · rcases h.cr.2 with ⟨e, _⟩ | ⟨g, cap, cur, e, _, hg, _⟩
    · rw [e] at hk; cases hk
    · rw [e] at hk
      have e3 : g = k := by simpa [Value.ownBlock] using hk
      rw [← e3]
      exact hkc g _ _ _ hg tyL4.1 tyL4.2.1 tyL4.2.2.1
def updF (f : Nat → Nat) (m v i : Nat) : Nat := if i = m then v else f i
theorem updF_u32 (f : Nat → Nat) (m v : Nat) : updV (u32F f) m (.int .u32 (v : Int)) = u32F (updF f m v) := by
  funext i
  unfold updV u32F updF
  split <;> rfl
/-- a node became a literal -/
theorem LY.mark {w0 : World} {B R : Nat} {vb0 vg0 : Value} {M0 : Option Nat} {Wb : Nat} {bf : Int} {H0 Tb P nt : Nat} {ns : Nds} {pg pg' : Nat → Option Nat} {f : Nat → Nat} {cn : List Nat} {vC : Value} {w w' : World} {n v : Nat} (h : LY w0 B R vb0 vg0 M0 Wb bf H0 Tb P nt ns pg f cn vC w) (hv : v / 2 ≤ ns.length) (ht : TB w' 27 44 (.int .u32 0) H0 P nt pg' (updV (u32F f) n (.int .u32 (v : Int)))) (hk : TK w P nt pg w' pg') : LY w0 B R vb0 vg0 M0 Wb bf H0 Tb P nt ns pg' (updF f n v) cn vC w' := by
  obtain ⟨nb, vb, vg, M, D, h1, h2, h3⟩ := h.ws.gr
  have hty : ∀ j, (j = P ∨ ∃ k, k < nt ∧ pg k = some j) → ∃ (cs : Array Value) (ty : TypeId), w.heap[j]? = some (Obj.cells cs ty (0, 0)) ∧ (ty = 27 ∨ ty = 44) ∧ H0 ≤ j := fun j hj => h.tb.typ hj
  have hown : ∀ j, (j = P ∨ ∃ k, k < nt ∧ pg k = some j) → ¬ ownG R vb vg M j := fun j hj => by
    obtain ⟨cs, ty, hb2, e, _⟩ := hty j hj
    rcases e with e | e
    · rw [e] at hb2; exact own_apart h1 hb2 tyL2.1 tyL2.2.1 tyL2.2.2.1
    · rw [e] at hb2; exact own_apart h1 hb2 tyL3.1 tyL3.2.1 tyL3.2.2.1
  have hkeep : ∀ j, j < w.heap.size → ¬ (j = P ∨ ∃ k, k < nt ∧ pg k = some j) → w'.heap[j]? = w.heap[j]? := fun j hj hn => hk.kp j hj (fun e => hn (Or.inl e)) (fun k hkn hp => hn (Or.inr ⟨k, hkn, hp⟩))
  have hne : ∀ {j : Nat} {cs : Array Value} {ty : TypeId}, w.heap[j]? = some (Obj.cells cs ty (0, 0)) → ty ≠ 27 → ty ≠ 44 → ¬ (j = P ∨ ∃ k, k < nt ∧ pg k = some j) := fun {j cs ty} hb2 t1 t2 hj => by
    obtain ⟨cs2, ty2, hb3, e, _⟩ := hty j hj
    rw [hb2] at hb3
    cases hb3
    rcases e with e | e
    · exact t1 e
    · exact t2 e
  refine ⟨⟨⟨nb, vb, vg, M, D, h1.keep (fun j hj => hkeep j (h1.own_lt hj) (fun e => hown j e hj)), ?_, h3⟩, (hkeep Wb (Array.getElem?_eq_some_iff.1 h.ws.wb).1 (hne h.ws.wb (Ne.symm tyL2.2.2.2) (Ne.symm tyL3.2.2.2))).trans h.ws.wb, Nat.le_trans h.ws.hB hk.size⟩, (hkeep Tb (Array.getElem?_eq_some_iff.1 h.q).1 (hne h.q tyL1.2.2.2.2.1 tyL1.2.2.2.2.2)).trans h.q, h.q0, updF_u32 f n v ▸ ht, ag_same h.cr (fun k hkk => ?_), h.lw, fun i => ?_⟩
  · exact ⟨hk.os.trans h2.os, hk.tape.trans h2.tape, hk.output.trans h2.output, Nat.le_trans h2.size hk.size, fun j hj hn => (hkeep j (Nat.lt_of_lt_of_le hj h2.size) (fun e => by
      obtain ⟨_, _, _, _, h7⟩ := hty j e
      have := h.lw
      omega)).trans (h2.kp j hj hn), h2.fr⟩
  · rcases h.cr.2 with ⟨e, _⟩ | ⟨g, cap, cur, e, _, hg, _⟩
    · rw [e] at hkk; cases hkk
    · rw [e] at hkk
      have e3 : g = k := by simpa [Value.ownBlock] using hkk
      rw [← e3]
      exact hkeep g (Array.getElem?_eq_some_iff.1 hg).1 (hne hg tyL4.2.2.2.1 tyL4.2.2.2.2)
  · unfold updF
    split
    · exact hv
    · exact h.fl i
end Go.Proofs.Ytekdmdnnpcjaoaa
