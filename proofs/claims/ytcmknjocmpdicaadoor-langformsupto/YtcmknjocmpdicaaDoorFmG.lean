import Derived.Test.YtcmknjocmpdicaaDoorFmE
import Derived.RangeFuncNested
import Derived.RangeFuncBound
import Derived.RangeFuncCalls
import Derived.RangeFuncLeaves
namespace Go.Proofs.YtcmknjocmpdicaaDoor
open Go.ChangeShapes Go.WideShapes Go.ChangeAt Go.RowKit Go.Bn

section
variable {P : Program} {n : Nat} {α : Type}
/-- how a round is left: it goes on, all that was there stands, and G holds; or it returns, R holds, and the two blocks of the loop stand -/
def RPost (s : Nat) (G : Prop) (R : World → Prop) (W : World) : Exit → Act → World → Prop
  | .normal, _, W' => Below W.heap.size W W' ∧ G
  | .ret, _, W' => R W' ∧ W'.heap[s]? = W.heap[s]? ∧ W'.heap[s + 1]? = W.heap[s + 1]?
  | _, _, _ => False
theorem put_below {s l : Nat} {w W : World} (h : Below s w W) (hl : s ≤ l) (o : Obj) : Below s w (W.putObj l o) :=
  ⟨h.os, h.tape, h.output, by have := h.size; simpa using this, fun k hk => (World.putObj_heap_other (by omega)).trans (h.block k hk)⟩
/-- an iterator whose rounds look at each x, and stop at the first of which G does not hold -/
def ItAll (P : Program) (n : Nat) (gf : Nat) (lb : Array Value) (encs : α → Array Value) (G : α → Prop) (Fin : Prop) (w : World) : Prop :=
  ∀ (l : Nat) (Jx : α → World → Prop) (W1 : World), Below w.heap.size w W1 → (∀ x W, Below W1.heap.size W1 W → YieldAt Fence.wide (n - 1) P l (encs x) W fun e W' => (e = .returned (.bool true) ∧ G x ∧ Below W.heap.size W W') ∨ (e = .returned (.bool false) ∧ Jx x W')) →
    CallsIn Fence.wide n P gf (#[.func (.yield l) #[] #[]] ++ lb) W1 fun e W' => (∃ v, e = .returned v) ∧ ((Below W1.heap.size W1 W' ∧ Fin) ∨ ∃ x, Jx x W')
theorem range_all {g : Operand} {ps : Array Tmp} {assign body : Code} {Q : Exit → Act → World → Prop} {a : Act} {w : World} (h1 : 1 ≤ n) {gf : Nat} {lb : Array Value} (hg : a.eval g = .func (.func gf) #[] lb) (eg : ∀ args w, (callFunc gf args).run P w = .ok (.enter gf args) w)
    {encs : α → Array Value} (hps : ∀ x, (encs x).size = ps.size) {G : α → Prop} {Fin : Prop} (hit : ItAll P (n - 1) gf lb encs G Fin w) (fr : α → Act) (R : World → Prop) (hR : ∀ W o, R W → R (W.putObj (w.heap.size + 1) o))
    (hassign : ∀ (l : Nat) (x : α) (W : World) (K : Act → World → Prop), K (fr x) W → assign.wpIn (Fence.wide.inRound l) (n - 1 - 1) P (Exit.then K (fun _ _ _ => False)) { tmps := (ps.zip (encs x)).foldl (fun t (p, v) => t.setIfInBounds p v) a.tmps, defers := [] } W)
    (hbody : ∀ (l : Nat) (x : α) (W : World), Below w.heap.size w W → w.heap.size + 1 < W.heap.size → (∃ o, W.heap[w.heap.size]? = some o ∧ o.isCells = false) → (∃ o, W.heap[w.heap.size + 1]? = some o ∧ o.isCells = false) → body.wpIn (Fence.wide.inRound l) (n - 1 - 1) P (RPost w.heap.size (G x) R W) (fr x) W)
    (hdone : ∀ (D : Nat) (W : World), w.heap.size ≤ D → Fin → Below w.heap.size w W → W.heap[D]? = some (.deferred (some [])) → Q .normal { a with defers := { target := .collected D, args := #[] } :: a.defers } W)
    (hstop : ∀ (D : Nat) (W : World), w.heap.size ≤ D → R W → W.heap[D]? = some (.deferred (some [])) → Code.ret.wpIn Fence.wide n P Q { a with defers := { target := .collected D, args := #[] } :: a.defers } W) :
    (Code.rangeFunc g ps assign body).wpIn Fence.wide n P Q a w := by
  refine wpIn_rangeFunc ?_
  intro fn hfn
  obtain ⟨rc, hrc⟩ : ∃ rc : LoopState → Option Code → Loop, rc = fun st pe => { state := st, pending := pe, fn, tmps := a.tmps, params := ps, assign, body, defers := w.heap.size } := ⟨_, rfl⟩
  obtain ⟨W1, hW1⟩ : ∃ W1, (w.alloc (.deferred (some []))).alloc (.loop (rc .ready none)) = W1 := ⟨_, rfl⟩
  have s1 : W1.heap.size = w.heap.size + 1 + 1 := by rw [← hW1]; simp
  have l1 : W1.heap[w.heap.size + 1]? = some (.loop (rc .ready none)) := by
    rw [← hW1]
    have h9 := World.alloc_heap_new (w.alloc (.deferred (some []))) (.loop (rc .ready none))
    rwa [World.size_alloc] at h9
  have d1 : W1.heap[w.heap.size]? = some (.deferred (some [])) := by
    rw [← hW1]
    exact (Below.heap_alloc _ _ _ (by simp)).trans (World.alloc_heap_new w _)
  have b1 : Below w.heap.size w W1 := by
    rw [← hW1]
    exact ((Below.refl _ w).alloc (Nat.le_refl _) _).alloc (by simp) _
  refine ⟨w.heap.size + 1, [{ target := .collected w.heap.size, args := #[] }], W1, { target := .fn (.func gf) lb, args := #[.func (.yield (w.heap.size + 1)) #[] #[]] }, W1, gf,
    #[.func (.yield (w.heap.size + 1)) #[] #[]] ++ lb, W1, ?_, ?_, ?_, ?_, fun _ => h1, ?_⟩
  · rw [← hW1, hrc]; exact run_enterLoop_outer _ _ _ _ _
  · simp only [resolve, hg]
    simp [go_sem]
  · intro f' _; trivial
  · simp [invoke, go_sem, eg]
  · refine (hit (w.heap.size + 1) (fun x W => R W ∧ W.heap[w.heap.size + 1]? = some (.loop (rc .done (some .ret))) ∧ W.heap[w.heap.size]? = some (.deferred (some []))) W1 b1 ?_).mono ?_
    · intro x W hW
      have hl : W.heap[w.heap.size + 1]? = some (.loop (rc .ready none)) := (hW.block _ (by omega)).trans l1
      have hd : W.heap[w.heap.size]? = some (.deferred (some [])) := (hW.block _ (by omega)).trans d1
      have hlt : w.heap.size + 1 < W.heap.size := (Array.getElem?_eq_some_iff.1 hl).1
      have hbw : Below w.heap.size w W := bnext b1 hW
      have hy := run_yield (P := P) (args := encs x) hl (by rw [hrc]; exact hps x)
      rw [hrc] at hy
      refine ⟨fn, _, assign, body, hy, roundIn_of_wpIn hfn (hassign _ x W _ ?_)⟩
      clear hy
      refine ⟨_, run_beginRound hl (by rw [hrc]), ?_⟩
      have hl2 : (W.putObj (w.heap.size + 1) (.loop { rc .ready none with state := .busy })).heap[w.heap.size + 1]? = some (.loop { rc .ready none with state := .busy }) := World.putObj_heap_same hlt
      have hd2 : (W.putObj (w.heap.size + 1) (.loop { rc .ready none with state := .busy })).heap[w.heap.size]? = some (.deferred (some [])) := (World.putObj_heap_other (by omega)).trans hd
      refine wpIn_mono (hbody _ x _ (put_below hbw (by omega) _) (by simpa using hlt) ⟨_, hd2, rfl⟩ ⟨_, hl2, rfl⟩) ?_
      rintro e a3 W3 hp
      cases e with
      | normal =>
        obtain ⟨hb3, hg3⟩ := hp
        have hl3 : W3.heap[w.heap.size + 1]? = some (.loop { rc .ready none with state := .busy }) := (hb3.block _ (by simpa using hlt)).trans hl2
        have hr := run_endRound (P := P) none hl3
        refine ⟨_, _, hr, .inl ⟨rfl, hg3, ?_⟩⟩
        refine ⟨hb3.os, hb3.tape, hb3.output, by have h9 := hb3.size; simpa using h9, fun k hk => ?_⟩
        by_cases e9 : k = w.heap.size + 1
        · rw [e9, World.putObj_heap_same (Array.getElem?_eq_some_iff.1 hl3).1, hl, hrc]
          rfl
        · exact (World.putObj_heap_other e9).trans ((hb3.block k (by simpa using hk)).trans (World.putObj_heap_other e9))
      | ret =>
        obtain ⟨hr3, k0, k1⟩ := hp
        have hl3 : W3.heap[w.heap.size + 1]? = some (.loop { rc .ready none with state := .busy }) := k1.trans hl2
        have hr := run_endRound (P := P) (some .ret) hl3
        refine ⟨_, _, hr, .inr ⟨rfl, hR _ _ hr3, ?_, ?_⟩⟩
        · rw [World.putObj_heap_same (Array.getElem?_eq_some_iff.1 hl3).1, hrc]
          rfl
        · exact (World.putObj_heap_other (by omega)).trans (k0.trans hd2)
      | _ => exact hp.elim
    · rintro e W2 ⟨⟨v, rfl⟩, (⟨hb2, hf⟩ | ⟨x, hr2, hl2, hd2⟩)⟩
      · have hl : W2.heap[w.heap.size + 1]? = some (.loop (rc .ready none)) := (hb2.block _ (by omega)).trans l1
        have hd : W2.heap[w.heap.size]? = some (.deferred (some [])) := (hb2.block _ (by omega)).trans d1
        exact ⟨none, _, by have h9 := run_endLoop (P := P) hl (by rw [hrc]; simp); rw [hrc] at h9; exact h9, hdone _ _ (Nat.le_refl _) hf (put_below (bnext b1 hb2) (by omega) _) ((World.putObj_heap_other (by omega)).trans hd)⟩
      · exact ⟨some .ret, _, by have h9 := run_endLoop (P := P) hl2 (by rw [hrc]; simp); rw [hrc] at h9; exact h9, hstop _ _ (Nat.le_refl _) (hR _ _ hr2) ((World.putObj_heap_other (by omega)).trans hd2)⟩
end
end Go.Proofs.YtcmknjocmpdicaaDoor
