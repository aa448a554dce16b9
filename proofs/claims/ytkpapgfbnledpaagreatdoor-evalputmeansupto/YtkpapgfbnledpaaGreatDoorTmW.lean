import Derived.Test.YtkpapgfbnledpaaGreatDoorTmG
set_option maxHeartbeats 8000000
set_option maxRecDepth 100000
namespace Go.Proofs.YtkpapgfbnledpaaGreatDoor
open Go.ChangeShapes Go.WideShapes Go.ChangeAt Go.RowKit Go.Lib Go.Tm Go.Bw Go.Bn Go.WideMaps Go.Maps Go.ChangeMaps

theorem meant_any (ty : TypeId) (B0 B : Nat) (lim : Int) (L : List Nd) (v : Value) (M1 M2 : Option Nat) (op a b c : Int) (w : World) (h : SM ty w B0 B lim L v M1 M2) :
    Calls Tryz.prog 129 #[.pointer (some ⟨B,0,none⟩),.int .i64 op,.int .i64 a,.int .i64 b,.int .i64 c] w fun e w' => e = .returned (nodeV ⟨op,mw op (wd L a) (wd L b),a,b,c,0,ByteArray.empty⟩) /\ Below w.heap.size w w' := by
  have HW3 : Hid (∀ W t,KP w W -> Calls Tryz.prog 90 #[.pointer (some ⟨B,0,none⟩),.int .i64 t] W fun e w' => e = .returned (.int .i64 (wd L t)) /\ w' = W) := fun W t hb => width_any ty B0 B lim L v M1 M2 t W (h.below hb.out)
  have hx := wd_lo h.wds a; have hy := wd_lo h.wds b; have HMW : Hid (∀ W,Calls Tryz.prog 118 #[.int .i64 op,.agg #[.int .i64 (wd L a),.int .i64 (wd L b),.int .i64 (wd L c)]] W fun e w' => e = .returned (.int .i64 (mw op (wd L a) (wd L b))) /\ w' = W.alloc (Obj.cells #[.int .i64 (wd L a),.int .i64 (wd L b),.int .i64 (wd L c)] 180)) := fun W => meantw_eq _ _ _ _ W hx hy
  clear h hx hy; have K0 : KP w w := KP.refl w; have K1 : KP w w.drew := KP.refl' w
  go_enter Tryz.func129,Tryz.ntmps129
  go_wp2_with (first | (go_at_call 90; refine (HW3.out _ _ (by first | exact K0 | exact K1 | exact KP.alloc K0 _ | exact KP.drew (KP.alloc K0 _))).mono ?_; rintro e w' ⟨rfl,rfl⟩) | (go_at_call 118; refine (HMW.out _).mono ?_; rintro e w' ⟨rfl,rfl⟩))
  refine bodyPost_ret (v := nodeV ⟨op,mw op (wd L a) (wd L b),a,b,c,0,ByteArray.empty⟩) (results_cell_row (p := 10) rfl _ _ w.heap.size 40 _ (0,0) _ rfl (by
    rw [Below.heap_alloc _ _ w.heap.size (by simp; omega),Below.heap_alloc _ _ w.heap.size (by simp)]; exact heap_alloc_new w _) Tryz.underlying40 rfl (by kernel_rfl)) rfl ?_
  exact ⟨rfl,((bel2 _ _ _).alloc (bel2 _ _ _).size _)⟩
end Go.Proofs.YtkpapgfbnledpaaGreatDoor
namespace Go.Proofs.YtkpapgfbnledpaaGreatDoor
open Go.ChangeShapes Go.WideShapes Go.ChangeAt Go.RowKit Go.Lib Go.Tm Go.Bw Go.Bn Go.WideMaps Go.Maps Go.ChangeMaps

def AnsP (w : World) (R : Nd -> Int -> Int -> World -> Prop) (o : Option Nd) (e : Ending) (w' : World) : Prop :=
  ∃ t er,e = .returned (.tuple #[.int .i64 t,.int .i64 er]) /\ (match o with | some n => R n t er w' | none => t = 0 /\ er = 73 /\ Below w.heap.size w w')
def MkC (f : FuncId) (B : Nat) (w : World) (R : Nd -> Int -> Int -> World -> Prop) : Prop :=
  ∀ n W,n.ok -> Below w.heap.size w W -> Calls Tryz.prog f #[.pointer (some ⟨B,0,none⟩),nodeV n] W (AnsP w R (some n))
theorem i64_small {x : Int} (h : -1000 <= x) (h2 : x <= 1000) : I64 x := by unfold I64; omega
theorem u64_zero : U64 0 := by unfold U64; omega
theorem z64 : I64 0 := by unfold I64; omega
theorem var_any (B : Nat) (w : World) (R : Nd -> Int -> Int -> World -> Prop) (s : ByteArray) (u : Int) (hu : I64 u) (hs : s.size <= 140737488355328) (HM : MkC 28 B w R) :
    Calls Tryz.prog 11 #[.pointer (some ⟨B,0,none⟩),.string s,.int .i64 u] w (AnsP w R (some ⟨4,u,0,0,0,0,s⟩)) := by
  have HC : Hid (Calls Tryz.prog 28 #[.pointer (some ⟨B,0,none⟩),nodeV ⟨4,u,0,0,0,0,s⟩] w (AnsP w R (some ⟨4,u,0,0,0,0,s⟩))) := HM _ w (⟨show I64 4 from i64_small (by decide) (by decide),hu,z64,z64,z64,u64_zero,hs⟩) (Below.refl _ _); clear HM
  go_enter Tryz.func11,Tryz.ntmps11
  go_wp2_with fail
  refine HC.out.mono ?_; intro e w1 hq; obtain ⟨t,er,rfl,hm⟩ := hq; have HF : Hid (AnsP w R (some ⟨4,u,0,0,0,0,s⟩) (.returned (.tuple #[.int .i64 t,.int .i64 er])) w1) := ⟨t,er,rfl,hm⟩; clear hm
  generalize AnsP w R (some ⟨4,u,0,0,0,0,s⟩) = Q at *
  go_wp2
  first | exact HF.out | (go_ret2; exact HF.out)
end Go.Proofs.YtkpapgfbnledpaaGreatDoor
