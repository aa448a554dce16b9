import Derived.Test.YtldpkkbdhohcmaaGreatDoorTmG
namespace Go.Proofs.YtldpkkbdhohcmaaGreatDoor
open Go.ChangeShapes Go.WideShapes Go.ChangeAt Go.RowKit Go.Lib Go.Tm Go.Bw Go.Bn Go.WideMaps Go.Maps Go.ChangeMaps

set_option maxHeartbeats 4000000 in
theorem meant_any (ty : TypeId) (B0 B : Nat) (lim : Int) (L : List Nd) (v : Value) (M1 M2 : Option Nat) (op a b c : Int) (w : World) (h : SM ty w B0 B lim L v M1 M2) :
    Calls Tryz.prog 105 #[.pointer (some ⟨B,0,none⟩),.int .i64 op,.int .i64 a,.int .i64 b,.int .i64 c] w fun e w' => e = .returned (nodeV ⟨op,mw op (wd L a) (wd L b),a,b,c,0,ByteArray.empty⟩) /\ Below w.heap.size w w' := by
  have HW3 : Hid (∀ W t,KP w W -> Calls Tryz.prog 114 #[.pointer (some ⟨B,0,none⟩),.int .i64 t] W fun e w' => e = .returned (.int .i64 (wd L t)) /\ w' = W) := fun W t hb => width_any ty B0 B lim L v M1 M2 t W (h.below hb.out)
  have hx := wd_lo h.wds a; have hy := wd_lo h.wds b; have HMW : Hid (∀ W,Calls Tryz.prog 115 #[.int .i64 op,.agg #[.int .i64 (wd L a),.int .i64 (wd L b),.int .i64 (wd L c)]] W fun e w' => e = .returned (.int .i64 (mw op (wd L a) (wd L b))) /\ w' = W.alloc (Obj.cells #[.int .i64 (wd L a),.int .i64 (wd L b),.int .i64 (wd L c)] 184)) := fun W => meantw_eq _ _ _ _ W hx hy
  clear h hx hy; have K0 : KP w w := KP.refl w; have K1 : KP w w.drew := KP.refl' w
  go_enter Tryz.func105,Tryz.ntmps105
  go_wp2_with (first | (go_at_call 114; refine (HW3.out _ _ (by first | exact K0 | exact K1 | exact KP.alloc K0 _ | exact KP.drew (KP.alloc K0 _))).mono ?_; rintro e w' ⟨rfl,rfl⟩) | (go_at_call 115; refine (HMW.out _).mono ?_; rintro e w' ⟨rfl,rfl⟩))
  refine bodyPost_ret (v := nodeV ⟨op,mw op (wd L a) (wd L b),a,b,c,0,ByteArray.empty⟩) (results_cell_row (p := 10) rfl _ _ w.heap.size 64 _ (0,0) _ rfl (by
    rw [Below.heap_alloc _ _ w.heap.size (by simp; omega),Below.heap_alloc _ _ w.heap.size (by simp)]; exact heap_alloc_new w _) Tryz.underlying64 rfl (by kernel_rfl)) rfl ?_
  exact ⟨rfl,((bel2 _ _ _).alloc (bel2 _ _ _).size _)⟩
end Go.Proofs.YtldpkkbdhohcmaaGreatDoor
namespace Go.Proofs.YtldpkkbdhohcmaaGreatDoor
open Go.ChangeShapes Go.WideShapes Go.ChangeAt Go.RowKit Go.Lib Go.Tm Go.Bw Go.Bn Go.WideMaps Go.Maps Go.ChangeMaps

end Go.Proofs.YtldpkkbdhohcmaaGreatDoor
