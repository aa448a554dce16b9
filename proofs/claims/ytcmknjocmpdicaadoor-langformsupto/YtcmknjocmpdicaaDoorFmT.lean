import Derived.Test.YtcmknjocmpdicaaDoorRows
import Derived.OrdersHeld
namespace Go.Proofs.YtcmknjocmpdicaaDoor

/-- the operations may come up in this order -/
def sch (md : Region.Mode) (ops : Array Oper) : Array Bool → List Nat → Bool
  | _, [] => true
  | listed, i :: r => Region.free md ops listed i && (Region.ready md ops listed).contains i && sch md ops (listed.setIfInBounds i true) r
def SC (md : Region.Mode) (ops : Array Oper) (listed : Array Bool) (l : List Nat) : Prop := (Region.noSelect ops && sch md ops listed l) = true
theorem SC.tail {md : Region.Mode} {ops : Array Oper} {listed : Array Bool} {i : Nat} {r : List Nat} (h : SC md ops listed (i :: r)) : SC md ops (listed.setIfInBounds i true) r := by
  unfold SC at *
  simp only [sch, Bool.and_eq_true] at *
  exact ⟨h.1, h.2.2⟩
section
variable {P : Program} {ops : Array Oper} {Q : Exit → Act → World → Prop} {md : Region.Mode} {S : World → Prop} {fuel : Nat} {listed : Array Bool} {a : Act} {w : World}
/-- operation i is taken: it is wanted -/
theorem tkY (i : Nat) (oi : Oper) (d : Option Tmp) (v : Value) {r : List Nat} (hc : SC md ops listed (i :: r)) (hi : ops[i]? = some oi) (hd : oi.dst = d) (hw : Region.wanted oi (yielded ops a.tmps) = true) (hQ : ∀ c a w, Q (.panic c) (a.put d v) w → Q (.panic c) a w) (hy : ∀ w, S w → (execOp a.eval oi).run P w = .ok (.value v) w) (hS : S w)
    (h : SC md ops (listed.setIfInBounds i true) r → wpAnyH P md ops Q S fuel (listed.setIfInBounds i true) (a.put d v) w) : wpAnyH P md ops Q S (fuel + 1) listed a w := by
  subst hd
  have hc2 := hc
  unfold SC at hc2
  simp only [sch, Bool.and_eq_true] at hc2
  exact wpAnyH_take hi hc2.1 hc2.2.1.1 hc2.2.1.2 hQ (Or.inl ⟨hw, hy⟩) hS (h hc.tail)
/-- operation i is taken: it is not wanted -/
theorem tkN (i : Nat) (oi : Oper) (d : Option Tmp) {r : List Nat} (hc : SC md ops listed (i :: r)) (hi : ops[i]? = some oi) (hd : oi.dst = d) (hw : Region.wanted oi (yielded ops a.tmps) = false) (hQ : ∀ c a w, Q (.panic c) (a.put d undef) w → Q (.panic c) a w) (hS : S w)
    (h : SC md ops (listed.setIfInBounds i true) r → wpAnyH P md ops Q S fuel (listed.setIfInBounds i true) (a.put d undef) w) : wpAnyH P md ops Q S (fuel + 1) listed a w := by
  subst hd
  have hc2 := hc
  unfold SC at hc2
  simp only [sch, Bool.and_eq_true] at hc2
  exact wpAnyH_take hi hc2.1 hc2.2.1.1 hc2.2.1.2 hQ (Or.inr ⟨hw, rfl⟩) hS (h hc.tail)
/-- operation i is taken: it is wanted -/
theorem tqY (i : Nat) (oi : Oper) (d : Option Tmp) (v : Value) (hi : ops[i]? = some oi) (hd : oi.dst = d) (hk : (Region.noSelect ops && Region.free md ops listed i && (Region.ready md ops listed).contains i && Region.wanted oi (yielded ops a.tmps)) = true) (hQ : ∀ c a w, Q (.panic c) (a.put d v) w → Q (.panic c) a w) (hy : ∀ w, S w → (execOp a.eval oi).run P w = .ok (.value v) w) (hS : S w)
    (h : wpAnyH P md ops Q S fuel (listed.setIfInBounds i true) (a.put d v) w) : wpAnyH P md ops Q S (fuel + 1) listed a w := by
  subst hd
  simp only [Bool.and_eq_true] at hk
  exact wpAnyH_take hi hk.1.1.1 hk.1.1.2 hk.1.2 hQ (Or.inl ⟨hk.2, hy⟩) hS h
/-- operation i is taken: it is not wanted -/
theorem tqN (i : Nat) (oi : Oper) (d : Option Tmp) (hi : ops[i]? = some oi) (hd : oi.dst = d) (hk : (Region.noSelect ops && Region.free md ops listed i && (Region.ready md ops listed).contains i && !Region.wanted oi (yielded ops a.tmps)) = true) (hQ : ∀ c a w, Q (.panic c) (a.put d undef) w → Q (.panic c) a w) (hS : S w)
    (h : wpAnyH P md ops Q S fuel (listed.setIfInBounds i true) (a.put d undef) w) : wpAnyH P md ops Q S (fuel + 1) listed a w := by
  subst hd
  simp only [Bool.and_eq_true, Bool.not_eq_true'] at hk
  exact wpAnyH_take hi hk.1.1.1 hk.1.1.2 hk.1.2 hQ (Or.inr ⟨hk.2, rfl⟩) hS h
end
end Go.Proofs.YtcmknjocmpdicaaDoor
