import Derived.Test.YtkomadlmonhlhaaAgW
import Derived.WalkSmall
namespace Go.Proofs.Ytkomadlmonhlhaa
open Go.ChangeShapes Go.WideShapes Go.ChangeAt Go.RowKit Go.Lib Go.Ag Go.WideMaps Go.Maps Go.ChangeMaps Go.Cn

def natV (l : List Nat) : List Value := l.map fun (x : Nat) => Value.int .i64 (x : Int)
theorem natV_snoc (l : List Nat) (x : Nat) : natV (l ++ [x]) = natV l ++ [.int .i64 (x : Int)] := by unfold natV; simp
theorem natV_len (l : List Nat) : (natV l).length = l.length := by unfold natV; simp
theorem TB.keep {w w' : World} {tp t : TypeId} {z : Value} {lo P n : Nat} {pg : Nat → Option Nat} {f : Nat → Value} (h : TB w tp t z lo P n pg f) (hk : ∀ j, (j = P ∨ ∃ k, k < n ∧ pg k = some j) → w'.heap[j]? = w.heap[j]?) : TB w' tp t z lo P n pg f := by
  obtain ⟨cs, hc, hcs, hck⟩ := h.blk
  refine ⟨⟨cs, (hk P (Or.inl rfl)).trans hc, hcs, hck⟩, h.low, fun k b hk2 hp => ?_, h.void, h.inj⟩
  obtain ⟨h1, h2, row, h3, h4⟩ := h.page k b hk2 hp
  exact ⟨h1, h2, row, (hk b (Or.inr ⟨k, hk2, hp⟩)).trans h3, h4⟩
theorem TB.typ {w : World} {tp t : TypeId} {z : Value} {lo P n : Nat} {pg : Nat → Option Nat} {f : Nat → Value} (h : TB w tp t z lo P n pg f) {j : Nat} (hj : j = P ∨ ∃ k, k < n ∧ pg k = some j) : ∃ cs ty, w.heap[j]? = some (.cells cs ty (0, 0)) ∧ (ty = tp ∨ ty = t) ∧ lo ≤ j := by
  rcases hj with rfl | ⟨k, hk, hp⟩
  · obtain ⟨cs, hc, _⟩ := h.blk
    exact ⟨cs, tp, hc, Or.inl rfl, h.low⟩
  · obtain ⟨h1, _, row, h3, _⟩ := h.page k j hk hp
    exact ⟨row, t, h3, Or.inr rfl, h1⟩
/-- the walk in memory: which were met (a table, whose struct lies at Q), the stack and the cone -/
structure CW (H0 : Nat) (w0 w : World) (Q P nt : Nat) (pg : Nat → Option Nat) (mt : Nat → Bool) (st cn : List Nat) (vS vC : Value) : Prop where
  q : w.heap[Q]? = some (.cells #[.slice (some ⟨P, 0, none⟩) nt nt] 157 (0, 0))
  q0 : H0 ≤ Q
  tb : TB w 49 4 (.bool false) H0 P nt pg (fun i => .bool (mt i))
  sr : w.ownsRow H0 3 1 vS st.length (natV st)
  cr : w.ownsRow H0 3 1 vC cn.length (natV cn)
  ne : ∀ k, vS.ownBlock = some k → vC.ownBlock ≠ some k
  bel : Below H0 w0 w
theorem tyIB : (3 : TypeId) ≠ 49 := by decide
theorem tyIb : (3 : TypeId) ≠ 4 := by decide
theorem tyIT : (3 : TypeId) ≠ 157 := by decide
theorem tyTB : (157 : TypeId) ≠ 49 := by decide
theorem tyTb : (157 : TypeId) ≠ 4 := by decide
theorem row_ne_tb {w : World} {lo P n B m : Nat} {pg : Nat → Option Nat} {f : Nat → Value} {v : Value} {L : List Value} (h : TB w 49 4 (.bool false) lo P n pg f) (hr : w.ownsRow B 3 1 v m L) {j : Nat} (hj : j = P ∨ ∃ k, k < n ∧ pg k = some j) : v.ownBlock ≠ some j := by
  obtain ⟨cs, ty, hb, hty, _⟩ := h.typ hj
  refine ag_ne hr hb ?_
  rcases hty with e | e
  · rw [e]; exact tyIB
  · rw [e]; exact tyIb
theorem q_ne_tb {w : World} {lo P n Q : Nat} {cs : Array Value} {pg : Nat → Option Nat} {f : Nat → Value} (h : TB w 49 4 (.bool false) lo P n pg f) (hq : w.heap[Q]? = some (.cells cs 157 (0, 0))) {j : Nat} (hj : j = P ∨ ∃ k, k < n ∧ pg k = some j) : j ≠ Q := by
  obtain ⟨cs2, ty, hb, hty, _⟩ := h.typ hj
  rintro rfl
  rw [hq] at hb
  injection hb with hb
  injection hb with _ hb
  rcases hty with e | e
  · rw [e] at hb; exact absurd hb tyTB
  · rw [e] at hb; exact absurd hb tyTb
theorem CW.over {H0 : Nat} {w0 w w' : World} {Q P nt : Nat} {pg : Nat → Option Nat} {mt : Nat → Bool} {st cn : List Nat} {vS vC : Value} (h : CW H0 w0 w Q P nt pg mt st cn vS vC) (hH : H0 ≤ w.heap.size) (hb : Below w.heap.size w w') : CW H0 w0 w' Q P nt pg mt st cn vS vC :=
  ⟨(hb.block Q (Array.getElem?_eq_some_iff.1 h.q).1).trans h.q, h.q0, h.tb.over hb, ag_same h.sr (fun k hk => hb.block k (h.sr.lt k hk).2), ag_same h.cr (fun k hk => hb.block k (h.cr.lt k hk).2), h.ne, h.bel.trans (hb.mono hH)⟩
/-- the stack anew -/
theorem CW.stack {H0 : Nat} {w0 w w5 : World} {Q P nt : Nat} {pg : Nat → Option Nat} {mt : Nat → Bool} {st st' cn : List Nat} {vS vC v5 : Value} (h : CW H0 w0 w Q P nt pg mt st cn vS vC) (hH : H0 ≤ w.heap.size) (hr : w5.ownsRow H0 3 1 v5 st'.length (natV st')) (hg : w.grownBy w5 vS.ownBlock) (hat : v5.ownBlock = vS.ownBlock ∨ ∃ k, v5.ownBlock = some k ∧ w.heap.size ≤ k) :
    CW H0 w0 w5 Q P nt pg mt st' cn v5 vC := by
  refine ⟨(hg.block Q (Array.getElem?_eq_some_iff.1 h.q).1 (fun e => ag_ne h.sr h.q tyIT e.symm)).trans h.q, h.q0, h.tb.keep (fun j hj => ?_), hr, h.cr.kept hg ?_, fun k hk => ?_, ?_⟩
  · obtain ⟨cs, ty, hb, _⟩ := h.tb.typ hj
    exact hg.block j (Array.getElem?_eq_some_iff.1 hb).1 (fun e => row_ne_tb h.tb h.sr hj e.symm)
  · cases hv : vC.ownBlock with
    | none => exact Or.inl rfl
    | some k => exact Or.inr (fun e => h.ne k e.symm hv)
  · rcases hat with e | ⟨k', e, hk'⟩
    · exact h.ne k (e ▸ hk)
    · rw [e] at hk
      cases hk
      intro e2
      have := (h.cr.lt k e2).2
      omega
  · exact ⟨hg.os.trans h.bel.os, hg.tape.trans h.bel.tape, hg.output.trans h.bel.output, Nat.le_trans h.bel.size hg.size, fun x hx => (hg.block x (by omega) (fun e => by have := (h.sr.lt x e.symm).1; omega)).trans (h.bel.block x hx)⟩
/-- the cone anew -/
theorem CW.told {H0 : Nat} {w0 w w5 : World} {Q P nt : Nat} {pg : Nat → Option Nat} {mt : Nat → Bool} {st cn cn' : List Nat} {vS vC v5 : Value} (h : CW H0 w0 w Q P nt pg mt st cn vS vC) (hH : H0 ≤ w.heap.size) (hr : w5.ownsRow H0 3 1 v5 cn'.length (natV cn')) (hg : w.grownBy w5 vC.ownBlock) (hat : v5.ownBlock = vC.ownBlock ∨ ∃ k, v5.ownBlock = some k ∧ w.heap.size ≤ k) :
    CW H0 w0 w5 Q P nt pg mt st cn' vS v5 := by
  refine ⟨(hg.block Q (Array.getElem?_eq_some_iff.1 h.q).1 (fun e => ag_ne h.cr h.q tyIT e.symm)).trans h.q, h.q0, h.tb.keep (fun j hj => ?_), h.sr.kept hg ?_, hr, fun k hk => ?_, ?_⟩
  · obtain ⟨cs, ty, hb, _⟩ := h.tb.typ hj
    exact hg.block j (Array.getElem?_eq_some_iff.1 hb).1 (fun e => row_ne_tb h.tb h.cr hj e.symm)
  · cases hv : vS.ownBlock with
    | none => exact Or.inl rfl
    | some k => exact Or.inr (fun e => h.ne k hv e.symm)
  · rcases hat with e | ⟨k', e, hk'⟩
    · rw [e]; exact h.ne k hk
    · rw [e]
      intro e2
      cases e2
      have := (h.sr.lt k hk).2
      omega
  · exact ⟨hg.os.trans h.bel.os, hg.tape.trans h.bel.tape, hg.output.trans h.bel.output, Nat.le_trans h.bel.size hg.size, fun x hx => (hg.block x (by omega) (fun e => by have := (h.cr.lt x e.symm).1; omega)).trans (h.bel.block x hx)⟩
theorem upd_bool (mt : Nat → Bool) (n : Nat) : updV (fun i => .bool (mt i)) n (.bool true) = fun i => .bool (updB mt n i) := by
  funext i
  unfold updV updB
  split <;> rfl
/-- one more was met -/
theorem CW.mark {H0 : Nat} {w0 w w' : World} {Q P nt : Nat} {pg pg' : Nat → Option Nat} {mt : Nat → Bool} {st cn : List Nat} {vS vC : Value} {n : Nat} (h : CW H0 w0 w Q P nt pg mt st cn vS vC) (hH : H0 ≤ w.heap.size) (ht : TB w' 49 4 (.bool false) H0 P nt pg' (updV (fun i => .bool (mt i)) n (.bool true))) (hk : TK w P nt pg w' pg') : CW H0 w0 w' Q P nt pg' (updB mt n) st cn vS vC := by
  have hrow : ∀ v m L, w.ownsRow H0 3 1 v m L → w'.ownsRow H0 3 1 v m L := fun v m L hr => ag_same hr (fun j hj => hk.kp j (hr.lt j hj).2 (fun e => row_ne_tb h.tb hr (Or.inl e) hj) (fun k hkn hp => row_ne_tb h.tb hr (Or.inr ⟨k, hkn, hp⟩) hj))
  refine ⟨(hk.kp Q (Array.getElem?_eq_some_iff.1 h.q).1 (fun e => q_ne_tb h.tb h.q (Or.inl e) rfl) (fun k hkn hp => q_ne_tb h.tb h.q (Or.inr ⟨k, hkn, hp⟩) rfl)).trans h.q, h.q0, upd_bool mt n ▸ ht, hrow _ _ _ h.sr, hrow _ _ _ h.cr, h.ne, ?_⟩
  refine ⟨hk.os.trans h.bel.os, hk.tape.trans h.bel.tape, hk.output.trans h.bel.output, Nat.le_trans h.bel.size hk.size, fun x hx => (hk.kp x (by omega) (fun e => ?_) (fun k hkn hp => ?_)).trans (h.bel.block x hx)⟩
  · have := h.tb.low
    omega
  · have := (h.tb.page k x hkn hp).1
    omega
theorem row_form {w : World} {B e s n : Nat} {v : Value} {L : List Value} (h : w.ownsRow B e s v n L) : ∃ ad cap, v = .slice ad n cap ∧ n ≤ cap ∧ (0 < n → ∃ g, ad = some ⟨g, 0, none⟩) := by
  rcases h.2 with ⟨e, h0⟩ | ⟨g, cap, cur, rfl, _, _, h5, _⟩
  · exact ⟨none, 0, by rw [e, h0], by omega, fun h => by omega⟩
  · exact ⟨_, _, rfl, h5, fun _ => ⟨g, rfl⟩⟩
theorem one_new (w : World) (x : Value) (t : TypeId) : ∀ j u, ([x] : List Value)[j]? = some u → (w.alloc (.cells #[x] t)).cell? ((⟨w.heap.size, 0, none⟩ : Addr).add j) = some u := by
  intro j u hj
  rw [Addr.add_lit]
  match j, hj with
  | 0, hj => simp at hj; subst hj; simp
theorem at_of {v : Value} {g4 n c H : Nat} (h : v.ownBlock = some g4 ∨ g4 = H) {K : Nat} (hK : K ≤ H) : (Value.slice (some ⟨g4, 0, none⟩) n c).ownBlock = v.ownBlock ∨ ∃ k, (Value.slice (some ⟨g4, 0, none⟩) n c).ownBlock = some k ∧ K ≤ k := by
  rcases h with h | h
  · exact Or.inl h.symm
  · exact Or.inr ⟨g4, rfl, by omega⟩
theorem CW.push {H0 : Nat} {w0 w w4 : World} {Q P nt : Nat} {pg : Nat → Option Nat} {mt : Nat → Bool} {st cn : List Nat} {vS vC : Value} {x g4 cap4 n : Nat} {ob : Obj} (hn : st.length = n) (h : CW H0 w0 w Q P nt pg mt st cn vS vC ∧ H0 ≤ w.heap.size) (hown : w4.ownsRow H0 3 1 (.slice (some ⟨g4, 0, none⟩) (n + 1) cap4) (n + 1) (natV st ++ [.int .i64 (x : Int)])) (hg : (w.alloc ob).grownBy w4 vS.ownBlock) (hat : vS.ownBlock = some g4 ∨ g4 = w.heap.size + 1) :
    CW H0 w0 w4 Q P nt pg mt (st ++ [x]) cn (.slice (some ⟨g4, 0, none⟩) (n + 1) cap4) vC ∧ H0 ≤ w4.heap.size := by
  subst hn
  have hsz : (w.alloc ob).heap.size = w.heap.size + 1 := by simp
  have h2 := h.2
  exact ⟨(h.1.over h.2 (ag_bel1 w ob)).stack (by omega) (by rw [natV_snoc, List.length_append]; exact hown) hg (at_of hat (by omega)), Nat.le_trans (by omega) hg.size⟩
theorem CW.tell {H0 : Nat} {w0 w w4 : World} {Q P nt : Nat} {pg : Nat → Option Nat} {mt : Nat → Bool} {st cn : List Nat} {vS vC : Value} {x g4 cap4 n : Nat} {ob : Obj} (hn : cn.length = n) (h : CW H0 w0 w Q P nt pg mt st cn vS vC ∧ H0 ≤ w.heap.size) (hown : w4.ownsRow H0 3 1 (.slice (some ⟨g4, 0, none⟩) (n + 1) cap4) (n + 1) (natV cn ++ [.int .i64 (x : Int)])) (hg : (w.alloc ob).grownBy w4 vC.ownBlock) (hat : vC.ownBlock = some g4 ∨ g4 = w.heap.size + 1) :
    CW H0 w0 w4 Q P nt pg mt st (cn ++ [x]) vS (.slice (some ⟨g4, 0, none⟩) (n + 1) cap4) ∧ H0 ≤ w4.heap.size := by
  subst hn
  have hsz : (w.alloc ob).heap.size = w.heap.size + 1 := by simp
  have h2 := h.2
  exact ⟨(h.1.over h.2 (ag_bel1 w ob)).told (by omega) (by rw [natV_snoc, List.length_append]; exact hown) hg (at_of hat (by omega)), Nat.le_trans (by omega) hg.size⟩
theorem CW.pop {H0 : Nat} {w0 w : World} {Q P nt : Nat} {pg : Nat → Option Nat} {mt : Nat → Bool} {st cn : List Nat} {vC : Value} {x g c : Nat} (h : CW H0 w0 w Q P nt pg mt (st ++ [x]) cn (.slice (some ⟨g, 0, none⟩) (st.length + 1) c) vC ∧ H0 ≤ w.heap.size) :
    CW H0 w0 w Q P nt pg mt st cn (.slice (some ⟨g, 0, none⟩) st.length c) vC ∧ H0 ≤ w.heap.size := by
  have hr := h.1.sr
  rw [natV_snoc, List.length_append] at hr
  exact ⟨h.1.stack h.2 (ownsRow_pop (by rw [natV_len]; simp) hr) ⟨rfl, rfl, rfl, Nat.le_refl _, fun _ _ _ => rfl⟩ (Or.inl rfl), h.2⟩
theorem CW.top {H0 : Nat} {w0 w : World} {Q P nt : Nat} {pg : Nat → Option Nat} {mt : Nat → Bool} {st cn : List Nat} {vC : Value} {x g c : Nat} (h : CW H0 w0 w Q P nt pg mt (st ++ [x]) cn (.slice (some ⟨g, 0, none⟩) (st.length + 1) c) vC) : w.cell? ⟨g, st.length, none⟩ = some (.int .i64 (x : Int)) := by
  have hr := h.sr
  rw [natV_snoc, List.length_append] at hr
  rw [hr.cellAt st.length (by simp), List.getElem?_append_right (by rw [natV_len]; exact Nat.le_refl _), natV_len]
  simp
theorem CW.mq {H0 : Nat} {w0 w : World} {Q P nt : Nat} {pg : Nat → Option Nat} {mt : Nat → Bool} {st cn : List Nat} {vS vC : Value} (h : CW H0 w0 w Q P nt pg mt st cn vS vC) : w.cell? ⟨Q, 0, none⟩ = some (.slice (some ⟨P, 0, none⟩) nt nt) := ag_cell h.q 0
theorem mostN_le {m : Nat} {ls : List Nat} (h : ∀ l ∈ ls, l / 2 ≤ m) : mostN ls ≤ m := by
  have key : ∀ (ls : List Nat) (a : Nat), a ≤ m → (∀ l ∈ ls, l / 2 ≤ m) → ls.foldl (fun a l => max a (l / 2)) a ≤ m := by
    intro ls
    induction ls with
    | nil => intro a ha _; exact ha
    | cons x ls ih =>
      intro a ha hl
      exact ih _ (Nat.max_le.2 ⟨ha, hl x (by simp)⟩) (fun l hl2 => hl l (by simp [hl2]))
  exact key ls 0 (Nat.zero_le _) h
theorem mostN_ge {ls : List Nat} {l : Nat} (h : l ∈ ls) : l / 2 ≤ mostN ls := by
  have key : ∀ (ls : List Nat) (a : Nat), a ≤ ls.foldl (fun a l => max a (l / 2)) a ∧ ∀ l ∈ ls, l / 2 ≤ ls.foldl (fun a l => max a (l / 2)) a := by
    intro ls
    induction ls with
    | nil => intro a; exact ⟨Nat.le_refl _, fun l hl => (List.not_mem_nil hl).elim⟩
    | cons x ls ih =>
      intro a
      have h1 := ih (max a (x / 2))
      refine ⟨Nat.le_trans (Nat.le_max_left _ _) h1.1, fun l hl => ?_⟩
      rcases List.mem_cons.1 hl with e | e
      · rw [e]; exact Nat.le_trans (Nat.le_max_right _ _) h1.1
      · exact h1.2 l e
  exact (key ls 0).2 l h
end Go.Proofs.Ytkomadlmonhlhaa
