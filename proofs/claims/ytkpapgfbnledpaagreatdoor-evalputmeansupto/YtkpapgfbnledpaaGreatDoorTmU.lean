import Derived.Test.YtkpapgfbnledpaaGreatDoorTmJ0
namespace Go.Proofs.YtkpapgfbnledpaaGreatDoor
open Go.ChangeShapes Go.WideShapes Go.ChangeAt Go.RowKit Go.Lib Go.Tm Go.Bw Go.Bn Go.WideMaps Go.Maps Go.ChangeMaps

theorem key_str (s : ByteArray) (h : s.size <= 140737488355328) : ∃ kl,keyOf Tryz.prog 9 (.string s) = some kl := by
  have h7 : s.size <= maxLen := by unfold maxLen; omega
  exact ⟨_,keyOf_string_mk Tryz.underlying9 h7⟩
theorem row0 (w : World) (B0 : Nat) : w.ownsRow B0 40 7 (.slice none 0 0) 0 (flat []) := ⟨rfl,Or.inl ⟨rfl,rfl⟩⟩
theorem new_sm {w : World} {B0 B : Nat} {lim : Int} (h : w.heap[B]? = some (.cells #[.int .i64 lim,.slice none 0 0,.map none,.map none] 78 (0,0))) (hb : B0 <= B) (hl : I64 lim) : SM 78 w B0 B lim [] (.slice none 0 0) none none :=
  ⟨h,row0 w B0,⟨.map [],rfl,FM.nil (fun x hx => key_node x hx)⟩,⟨.map [],rfl,FM.nil (fun x hx => key_str x hx)⟩,hb,fun m e => (by rcases e with e | e <;> cases e),fun m e => (by cases e),fun _ => rfl,fun e => absurd rfl e,fun n hn => (by cases hn),fun n hn => (by cases hn),hl,by simp⟩
theorem new_ok (lim : Int) (w : World) (h : ¬ lim < 0) (hl : I64 lim) : Calls Tryz.prog 18 #[.int .i64 lim] w fun e w' => ∃ B,e = .returned (.tuple #[.pointer (some ⟨B,0,none⟩),.int .i64 0]) /\ Below w.heap.size w w' /\ SM 78 w' w.heap.size B lim [] (.slice none 0 0) none none := by
  have q : decide (lim < 0) = false := decide_eq_false h
  go_enter Tryz.func18,Tryz.ntmps18
  go_wp2
  go_ret2
  exact ⟨_,rfl,bel1 _ _,new_sm (heap_alloc_new w _) (Nat.le_refl _) hl⟩
end Go.Proofs.YtkpapgfbnledpaaGreatDoor
