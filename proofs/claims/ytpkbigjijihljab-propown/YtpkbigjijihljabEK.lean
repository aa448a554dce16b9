import Derived.Test.YtpkbigjijihljabEI
import Derived.Laws.CopyOwn
namespace Go.Proofs.Ytpkbigjijihljab
open Go.ChangeShapes Go.WideShapes Go.ChangeAt Go.RowKit
open Go.Pr
/-- copy of elements of any size, within a region -/
theorem step_copy_sz {P : Program} {ops : Array Oper} {o : Oper} {a : Act} {w : World} {K : Act → World → Prop} {Q : Exit → Act → World → Prop} {E : Prop} (hgd : o.guard = none) (d s : Operand) (dT sT : TypeId)
    (ho : o.op = .call { callee := .builtin .copy, args := #[d, s], argTypes := #[dT, sT] }) (elem : TypeId) (sz : Nat) (hu : P.underlying dT = some (.slice elem)) (hsz : (P.info? elem).map (·.size) = some sz)
    (dp sp : Option Addr) (dLen dCap sLen sCap : Nat) (hd : a.eval d = .slice dp dLen dCap) (hs : a.eval s = .slice sp sLen sCap)
    (g off : Nat) (cur : List Value) (t : TypeId) (hg : w.heap[g]? = some (.cells cur.toArray t (0, 0))) (n : Nat) (hm : Nat.min sLen dLen = n) (cs : List Value) (hn : cs.length = n * sz)
    (hpos : 0 < n → dp = some ⟨g, off, none⟩ ∧ ∃ ad, sp = some ad ∧ ∀ j v, cs[j]? = some v → w.cell? (ad.add j) = some v)
    (hfit : off + cs.length ≤ cur.length) (h1 : ∀ v ∈ cs, v.oneCell' = true)
    (h : ∀ w', Hid (w'.heap[g]? = some (.cells (splice cur off cs).toArray t (0, 0)) ∧ w.grownBy w' (some g)) → K (a.put o.dst (goInt n)) w') :
    if Region.wanted o (yielded ops a.tmps) = true then Oper.wp P o a w K Q else E := by
  have hw : Region.wanted o (yielded ops a.tmps) = true := by simp [Region.wanted, hgd]
  rw [if_pos hw]
  by_cases h0 : n = 0
  · subst h0
    obtain rfl : cs = [] := List.eq_nil_of_length_eq_zero (by rw [hn, Nat.zero_mul])
    have hrun : (Builtin.copy_ #[dT, sT] o.type #[.slice dp dLen dCap, .slice sp sLen sCap]).run P w = .ok (goInt 0) w := by
      cases hq : P.info? elem with
      | none => simp [hq] at hsz
      | some i =>
        have hl : ∀ (x : Addr), (loadCells x 0).run P w = .ok #[] w := fun x => by simpa using run_loadCells_list (P := P) w x [] (by simp)
        cases dp <;> cases sp <;> simp [Builtin.copy_, run_underlying hu, Builtin.lenOf, Builtin.firstCells, sizeOf, typeInfo, hq, hm, storeCells, hl]
    unfold Oper.wp
    simp [execOp, ho, resolve, invoke, builtin, hd, hs, hrun, Result.andThen]
    exact h w ⟨by simpa [splice] using hg, ⟨rfl, rfl, rfl, Nat.le_refl _, fun _ _ _ => rfl⟩⟩
  · obtain ⟨rfl, ad, rfl, hsrc⟩ := hpos (by omega)
    have hl := run_loadCells_list (P := P) w ad cs hsrc
    have hst := run_storeCells_at P g off t cs 0 cur.toArray w hg (by simpa using hfit) h1
    have hrun : (Builtin.copy_ #[dT, sT] o.type #[.slice (some ⟨g, off, none⟩) dLen dCap, .slice (some ad) sLen sCap]).run P w = .ok (goInt n) (w.setRow g (splice cur off cs).toArray) := by
      cases hq : P.info? elem with
      | none => simp [hq] at hsz
      | some i =>
        have hi : i.size = sz := by simpa [hq] using hsz
        rw [hn] at hl
        simp [Builtin.copy_, run_underlying hu, Builtin.lenOf, Builtin.firstCells, sizeOf, typeInfo, hq, hi, hm, hl, hst, splice]
    unfold Oper.wp
    simp [execOp, ho, resolve, invoke, builtin, hd, hs, hrun, Result.andThen]
    exact h _ ⟨by simpa using setRow_heap w g _ _ t _ hg, ⟨rfl, rfl, rfl, by simp [World.setRow], fun k hk hne => setRow_other w g k _ (fun e => hne (by rw [e]))⟩⟩
/-- a row of the engine's is laid anew where it lies -/
theorem Mem.relaid {w w1 : World} {g : Nat} {O : Nat → Prop} {S S' : ES} {p : Nat → Value} (h : Mem w g O S p) {i : Nat} (hi : used S i) (hgr : w.grownBy w1 (p i).ownBlock) (hg : gcells S' p = gcells S p) (hw : S'.wat.length = S.wat.length) (hL : ∀ j, j ≠ i → used S j → nR S' j = nR S j ∧ ∀ q, lR S' q j = lR S q j) (hr : w1.ownsRow 0 (tyR i) (szR i) (p i) (nR S' i) (lR S' p i)) :
    Mem w1 g O S' p ∧ Fr O w w1 O := by
  obtain ⟨h1, h2⟩ := h.rows hi hgr
  refine ⟨⟨by rw [h2, hg], h.og, fun k hk => Nat.lt_of_lt_of_le (h.osz k hk) hgr.size, fun j hj => ?_, fun j hj => h.own j ((used_len hw j).1 hj), fun a b hab ha hb => h.ap a b hab ((used_len hw a).1 ha) ((used_len hw b).1 hb)⟩, hgr.os, hgr.tape, hgr.output, hgr.size, fun k hk hO => hgr.block k hk (fun e => hO (h.own i hi k e.symm)), fun k hk => Or.inl hk⟩
  by_cases e : j = i
  · subst e; exact hr
  · have hj' := (used_len hw j).1 hj
    rw [(hL j e hj').1, (hL j e hj').2]
    exact h1 j e hj'
end Go.Proofs.Ytpkbigjijihljab
