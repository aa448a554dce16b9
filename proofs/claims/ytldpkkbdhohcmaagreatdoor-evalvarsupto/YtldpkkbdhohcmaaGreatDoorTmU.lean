import Derived.Test.YtldpkkbdhohcmaaGreatDoorTmK0
namespace Go.Proofs.YtldpkkbdhohcmaaGreatDoor
open Go.ChangeShapes Go.WideShapes Go.ChangeAt Go.RowKit Go.Lib Go.Tm Go.Bw Go.Bn Go.WideMaps Go.Maps Go.ChangeMaps

theorem key_str (s : ByteArray) (h : s.size <= 140737488355328) : ∃ kl,keyOf Tryz.prog 9 (.string s) = some kl := by
  have h7 : s.size <= maxLen := by unfold maxLen; omega
  exact ⟨_,keyOf_string_mk Tryz.underlying9 h7⟩
theorem row0 (w : World) (B0 : Nat) : w.ownsRow B0 64 7 (.slice none 0 0) 0 (flat []) := ⟨rfl,Or.inl ⟨rfl,rfl⟩⟩
theorem new_sm {w : World} {B0 B : Nat} {lim : Int} (h : w.heap[B]? = some (.cells #[.int .i64 lim,.slice none 0 0,.map none,.map none] 125 (0,0))) (hb : B0 <= B) (hl : I64 lim) : SM 125 w B0 B lim [] (.slice none 0 0) none none :=
  ⟨h,row0 w B0,⟨.map [],rfl,FM.nil (fun x hx => key_node x hx)⟩,⟨.map [],rfl,FM.nil (fun x hx => key_str x hx)⟩,hb,fun m e => (by rcases e with e | e <;> cases e),fun m e => (by cases e),fun _ => rfl,fun e => absurd rfl e,fun n hn => (by cases hn),fun n hn => (by cases hn),hl,by simp⟩
theorem rnew_sm {w : World} {B0 B m1 m2 : Nat} {lim : Int} (h : w.heap[B]? = some (.cells #[.int .i64 lim,.slice none 0 0,.map (some m1),.map (some m2)] 69 (0,0))) (h1 : w.heap[m1]? = some (Obj.map #[] 0)) (h2 : w.heap[m2]? = some (Obj.map #[] 0)) (hb : B0 <= B) (b1 : B0 <= m1) (b2 : B0 <= m2) (hne : m1 ≠ m2) (hl : I64 lim) : SM 69 w B0 B lim [] (.slice none 0 0) (some m1) (some m2) :=
  ⟨h,row0 w B0,⟨.map [],made0 h1,FM.nil (fun x hx => key_node x hx)⟩,⟨.map [],made0 h2,FM.nil (fun x hx => key_str x hx)⟩,hb,fun m e => (by rcases e with e | e <;> cases e <;> assumption),fun m e e2 => (by cases e; injection e2 with e2; exact hne e2.symm),fun e => (by cases e),fun _ e => (by cases e),fun n hn => (by cases hn),fun n hn => (by cases hn),hl,by simp⟩
theorem new_ok (lim : Int) (w : World) (h : ¬ lim < 0) (hl : I64 lim) : Calls Tryz.prog 28 #[.int .i64 lim] w fun e w' => ∃ B,e = .returned (.tuple #[.pointer (some ⟨B,0,none⟩),.int .i64 0]) /\ Below w.heap.size w w' /\ SM 125 w' w.heap.size B lim [] (.slice none 0 0) none none := by
  have q : decide (lim < 0) = false := decide_eq_false h
  go_enter Tryz.func28,Tryz.ntmps28
  go_wp2
  go_ret2
  exact ⟨_,rfl,bel1 _ _,new_sm (heap_alloc_new w _) (Nat.le_refl _) hl⟩
theorem rnew_ok (lim : Int) (w : World) (h : ¬ lim < 0) (hl : I64 lim) : Calls Tryz.prog 31 #[.int .i64 lim] w fun e w' => ∃ B,e = .returned (.tuple #[.pointer (some ⟨B,0,none⟩),.int .i64 0]) /\ Below w.heap.size w w' /\ ∃ m1 m2,SM 69 w' w.heap.size B lim [] (.slice none 0 0) (some m1) (some m2) := by
  have q : decide (lim < 0) = false := decide_eq_false h; have hmm := @run_makeMap Tryz.prog
  go_enter Tryz.func31,Tryz.ntmps31
  go_wp2
  go_ret2
  refine ⟨w.heap.size + 1 + 1,rfl,(bel2 _ _ _).alloc (bel2 _ _ _).size _,w.heap.size,w.heap.size + 1,rnew_sm (m1 := w.heap.size) (m2 := w.heap.size + 1) ?_ ?_ ?_ (by omega) (by omega) (by omega) (by omega) hl⟩
  · have := heap_alloc_new ((w.alloc (Obj.map #[] 0)).alloc (Obj.map #[] 0)) (Obj.cells #[.int .i64 lim,.slice none 0 0,.map (some w.heap.size),.map (some (w.heap.size + 1))] 69 (0,0))
    simpa using this
  · rw [Below.heap_alloc _ _ _ (by simp; omega),Below.heap_alloc _ _ _ (by simp)]
    exact heap_alloc_new w _
  rw [Below.heap_alloc _ _ _ (by simp)]; have := heap_alloc_new (w.alloc (Obj.map #[] 0)) (Obj.map #[] 0)
  simpa using this
end Go.Proofs.YtldpkkbdhohcmaaGreatDoor
