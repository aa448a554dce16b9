import Derived.Test.YtldpkkbdhohcmaaGreatDoorTlP
namespace Go.Proofs.YtldpkkbdhohcmaaGreatDoor
open Go.ChangeShapes Go.WideShapes Go.ChangeAt Go.RowKit Go.Lib Go.Tm Go.Bw Go.Bn Go.WideMaps Go.Maps Go.ChangeMaps

def wdsA : Array Value := #[.string ⟨#[]⟩,.string ⟨#[116,114,117,101]⟩,.string ⟨#[102,97,108,115,101]⟩,.string ⟨#[99,111,110,115,116]⟩,.string ⟨#[118,97,114]⟩,.string ⟨#[110,111,116]⟩,.string ⟨#[97,110,100]⟩,.string ⟨#[111,114]⟩,.string ⟨#[120,111,114]⟩,.string ⟨#[101,113]⟩,.string ⟨#[117,108,116]⟩,.string ⟨#[117,108,101]⟩,.string ⟨#[115,108,116]⟩,.string ⟨#[115,108,101]⟩,.string ⟨#[105,116,101]⟩,.string ⟨#[99,111,109]⟩,.string ⟨#[110,101,103]⟩,.string ⟨#[98,97,110,100]⟩,.string ⟨#[98,111,114]⟩,.string ⟨#[98,120,111,114]⟩,.string ⟨#[97,100,100]⟩,.string ⟨#[115,117,98]⟩,.string ⟨#[109,117,108]⟩,.string ⟨#[100,105,118]⟩,.string ⟨#[114,101,109]⟩,.string ⟨#[115,104,108]⟩,.string ⟨#[115,104,114]⟩,.string ⟨#[115,97,114]⟩,.string ⟨#[114,111,108]⟩,.string ⟨#[114,111,114]⟩,.string ⟨#[99,97,116]⟩,.string ⟨#[115,108,105,99,101]⟩,.string ⟨#[122,101,120,116]⟩,.string ⟨#[115,101,120,116]⟩]
def zersA : Array Value := #[.string ⟨#[]⟩,.string ⟨#[]⟩,.string ⟨#[]⟩,.string ⟨#[]⟩,.string ⟨#[]⟩,.string ⟨#[]⟩,.string ⟨#[]⟩,.string ⟨#[]⟩,.string ⟨#[]⟩,.string ⟨#[]⟩,.string ⟨#[]⟩,.string ⟨#[]⟩,.string ⟨#[]⟩,.string ⟨#[]⟩,.string ⟨#[]⟩,.string ⟨#[]⟩,.string ⟨#[]⟩,.string ⟨#[]⟩,.string ⟨#[]⟩,.string ⟨#[]⟩,.string ⟨#[]⟩,.string ⟨#[]⟩,.string ⟨#[]⟩,.string ⟨#[]⟩,.string ⟨#[]⟩,.string ⟨#[]⟩,.string ⟨#[]⟩,.string ⟨#[]⟩,.string ⟨#[]⟩,.string ⟨#[]⟩,.string ⟨#[]⟩,.string ⟨#[]⟩,.string ⟨#[]⟩,.string ⟨#[]⟩]
theorem wdsA_at : ∀ k : Fin 34,wdsA[k.val]? = some (.string ⟨(wordB k.val).toArray⟩) := by
  intro ⟨k,hk⟩; have : k = 0 ∨ k = 1 ∨ k = 2 ∨ k = 3 ∨ k = 4 ∨ k = 5 ∨ k = 6 ∨ k = 7 ∨ k = 8 ∨ k = 9 ∨ k = 10 ∨ k = 11 ∨ k = 12 ∨ k = 13 ∨ k = 14 ∨ k = 15 ∨ k = 16 ∨ k = 17 ∨ k = 18 ∨ k = 19 ∨ k = 20 ∨ k = 21 ∨ k = 22 ∨ k = 23 ∨ k = 24 ∨ k = 25 ∨ k = 26 ∨ k = 27 ∨ k = 28 ∨ k = 29 ∨ k = 30 ∨ k = 31 ∨ k = 32 ∨ k = 33 := by omega
  rcases this with rfl | rfl | rfl | rfl | rfl | rfl | rfl | rfl | rfl | rfl | rfl | rfl | rfl | rfl | rfl | rfl | rfl | rfl | rfl | rfl | rfl | rfl | rfl | rfl | rfl | rfl | rfl | rfl | rfl | rfl | rfl | rfl | rfl | rfl <;> rfl
theorem zero34 (w : World) : (Instr.alloc 160 true (.tuple #[])).run Tryz.prog w = .ok (.pointer (some ⟨w.heap.size,0,none⟩)) (w.alloc (.cells zersA 160)) := by
  obtain ⟨it,hit,hz⟩ : ∃ it,Tryz.prog.info? 160 = some it /\ it.zero = some (.agg zersA) := by
    have : (Tryz.prog.info? 160).map (fun i => i.zero) = some (some (.agg zersA)) := by kernel_rfl
    cases h : Tryz.prog.info? 160 with
    | none => rw [h] at this; cases this
    | some it => rw [h] at this; exact ⟨it,rfl,by simpa using this⟩
  simp [Instr.alloc,zeroValue,typeInfo,hit,hz,newVar,Value.cells,newRow]
theorem built34 (a : Act) : Tryz.prog.built 160 (((#[(0,.const (.string ⟨#[]⟩)),(1,.const (.string ⟨#[116,114,117,101]⟩)),(2,.const (.string ⟨#[102,97,108,115,101]⟩)),(3,.const (.string ⟨#[99,111,110,115,116]⟩)),(4,.const (.string ⟨#[118,97,114]⟩)),(5,.const (.string ⟨#[110,111,116]⟩)),(6,.const (.string ⟨#[97,110,100]⟩)),(7,.const (.string ⟨#[111,114]⟩)),(8,.const (.string ⟨#[120,111,114]⟩)),(9,.const (.string ⟨#[101,113]⟩)),(10,.const (.string ⟨#[117,108,116]⟩)),(11,.const (.string ⟨#[117,108,101]⟩)),(12,.const (.string ⟨#[115,108,116]⟩)),(13,.const (.string ⟨#[115,108,101]⟩)),(14,.const (.string ⟨#[105,116,101]⟩)),(15,.const (.string ⟨#[99,111,109]⟩)),(16,.const (.string ⟨#[110,101,103]⟩)),(17,.const (.string ⟨#[98,97,110,100]⟩)),(18,.const (.string ⟨#[98,111,114]⟩)),(19,.const (.string ⟨#[98,120,111,114]⟩)),(20,.const (.string ⟨#[97,100,100]⟩)),(21,.const (.string ⟨#[115,117,98]⟩)),(22,.const (.string ⟨#[109,117,108]⟩)),(23,.const (.string ⟨#[100,105,118]⟩)),(24,.const (.string ⟨#[114,101,109]⟩)),(25,.const (.string ⟨#[115,104,108]⟩)),(26,.const (.string ⟨#[115,104,114]⟩)),(27,.const (.string ⟨#[115,97,114]⟩)),(28,.const (.string ⟨#[114,111,108]⟩)),(29,.const (.string ⟨#[114,111,114]⟩)),(30,.const (.string ⟨#[99,97,116]⟩)),(31,.const (.string ⟨#[115,108,105,99,101]⟩)),(32,.const (.string ⟨#[122,101,120,116]⟩)),(33,.const (.string ⟨#[115,101,120,116]⟩))] : Array (Nat × Operand)).map fun (i,x) => (i,a.eval x)).toList) = some wdsA := by kernel_rfl
set_option maxRecDepth 100000 in
theorem wpList_w34 {ops : Array Oper} {rest : List Oper} {o1 o2 o3 : Oper} {a : Act} {w : World} {Q : Exit -> Act -> World -> Prop} (g1 : o1.guard = none) (g2 : o2.guard = none) (g3 : o3.guard = none)
    (h1 : o1.op = .build 160 #[(0,.const (.string ⟨#[]⟩)),(1,.const (.string ⟨#[116,114,117,101]⟩)),(2,.const (.string ⟨#[102,97,108,115,101]⟩)),(3,.const (.string ⟨#[99,111,110,115,116]⟩)),(4,.const (.string ⟨#[118,97,114]⟩)),(5,.const (.string ⟨#[110,111,116]⟩)),(6,.const (.string ⟨#[97,110,100]⟩)),(7,.const (.string ⟨#[111,114]⟩)),(8,.const (.string ⟨#[120,111,114]⟩)),(9,.const (.string ⟨#[101,113]⟩)),(10,.const (.string ⟨#[117,108,116]⟩)),(11,.const (.string ⟨#[117,108,101]⟩)),(12,.const (.string ⟨#[115,108,116]⟩)),(13,.const (.string ⟨#[115,108,101]⟩)),(14,.const (.string ⟨#[105,116,101]⟩)),(15,.const (.string ⟨#[99,111,109]⟩)),(16,.const (.string ⟨#[110,101,103]⟩)),(17,.const (.string ⟨#[98,97,110,100]⟩)),(18,.const (.string ⟨#[98,111,114]⟩)),(19,.const (.string ⟨#[98,120,111,114]⟩)),(20,.const (.string ⟨#[97,100,100]⟩)),(21,.const (.string ⟨#[115,117,98]⟩)),(22,.const (.string ⟨#[109,117,108]⟩)),(23,.const (.string ⟨#[100,105,118]⟩)),(24,.const (.string ⟨#[114,101,109]⟩)),(25,.const (.string ⟨#[115,104,108]⟩)),(26,.const (.string ⟨#[115,104,114]⟩)),(27,.const (.string ⟨#[115,97,114]⟩)),(28,.const (.string ⟨#[114,111,108]⟩)),(29,.const (.string ⟨#[114,111,114]⟩)),(30,.const (.string ⟨#[99,97,116]⟩)),(31,.const (.string ⟨#[115,108,105,99,101]⟩)),(32,.const (.string ⟨#[122,101,120,116]⟩)),(33,.const (.string ⟨#[115,101,120,116]⟩))]) (d1 : o1.dst = some 4) (h2 : o2.op = .alloc 160) (d2 : o2.dst = some 3) (h3 : o3.op = .store 160 (.tmp 3) (.tmp 4)) (d3 : o3.dst = none) (h8 : a.tmps.size = 8)
    (h : wpList Tryz.prog ops Q rest ((a.put (some 4) (.agg wdsA)).put (some 3) (.pointer (some ⟨w.heap.size,0,none⟩))) ((w.alloc (.cells zersA 160)).setRow w.heap.size wdsA)) : wpList Tryz.prog ops Q (o1 :: o2 :: o3 :: rest) a w := by
  refine wpList_build g1 _ _ h1 (by rw [built34]; rfl) ?_; rw [built34,d1]; refine wpList_plain g2 fun _ hK => ?_
  unfold Oper.wp execOp; simp only [h2,Sem.run_bind,zero34,Result.andThen_ok]; refine hK _ _ ?_; rw [d2]; refine wpList_store_row g3 _ _ _ h3 w.heap.size wdsA ?_ ?_ 160 zersA (heap_alloc_new _ _) (by kernel_rfl) rfl (by kernel_rfl) ?_
  · simp [Act.eval,Act.put,h8]
  · simp [Act.eval,Act.put,h8]
  rw [d3]; exact h
theorem wdsA_cell (w : World) (op : Nat) (h : op < 34) : ((w.alloc (.cells zersA 160)).setRow w.heap.size wdsA).cell? ⟨w.heap.size,op,none⟩ = some (.string ⟨(wordB op).toArray⟩) :=
  (cell_setRow_same _ _ _ _ _ _ _ (heap_alloc_new _ _)).trans (wdsA_at ⟨op,h⟩)
theorem wdsA_bel (w : World) : Below w.heap.size w ((w.alloc (.cells zersA 160)).setRow w.heap.size wdsA) := by
  refine ⟨rfl,rfl,rfl,?_,fun k hk => ?_⟩
  · simp [World.setRow]
  rw [setRow_other _ _ _ _ (by omega)]; exact Below.heap_alloc _ _ _ hk
set_option maxHeartbeats 8000000 in
set_option maxRecDepth 100000 in
theorem rword_any (op : Nat) (h2 : op <= 33) (w : World) :
    Calls Tryz.prog 54 #[.int .i64 (op : Int)] w fun e w' => e = .returned (.string ⟨(wordB op).toArray⟩) /\ Below w.heap.size w w' := by
  have hc := wdsA_cell w op (by omega); have hb := wdsA_bel w; have HPP : Hid (Below w.heap.size w ((w.alloc (.cells zersA 160)).setRow w.heap.size wdsA)) := hb; clear hb
  go_enter Tryz.func54,Tryz.ntmps54
  go_wp2_with (refine wpList_w34 rfl rfl rfl rfl rfl rfl rfl rfl rfl rfl ?_; generalize (w.alloc (.cells zersA 160)).setRow w.heap.size wdsA = W at *; generalize hz : w.heap.size = z at *)
  go_ret
  refine ⟨rfl,?_⟩; rw [hz]; exact HPP.out
set_option maxHeartbeats 8000000 in
set_option maxRecDepth 100000 in
theorem rfields_any (op : Int) (h1 : 1 <= op) (h2 : op <= 33) (w : World) :
    Calls Tryz.prog 55 #[.int .i64 op] w fun e w' => e = .returned (.string ⟨(flB op).toArray⟩) /\ w' = w := by
  have HPt : Hid (∀ W,Calls Tryz.prog 58 #[.int .i64 op] W fun e w' => e = .returned (.int .i64 (pt op)) /\ w' = W) := fun W => by
    have h1 := rparts_any op W; have e : rpt op = pt op := by unfold rpt; rw [if_neg (by omega)]
    rw [e] at h1; exact h1
  by_cases q2 : op <= 2
  · have e : flB op = [] := by unfold flB; rw [if_pos q2]
    rw [e]
    go_enter Tryz.func55,Tryz.ntmps55
    go_wp2_with fail
    go_ret
    exact ⟨rfl,rfl⟩
  by_cases q3 : op = 3
  · subst q3
    have e : flB 3 = [119,110] := rfl; rw [e]
    go_enter Tryz.func55,Tryz.ntmps55
    go_wp2_with fail
    go_ret
    exact ⟨rfl,rfl⟩
  by_cases q4 : op = 4
  · subst q4
    have e : flB 4 = [115,119] := rfl; rw [e]
    go_enter Tryz.func55,Tryz.ntmps55
    go_wp2_with fail
    go_ret
    exact ⟨rfl,rfl⟩
  by_cases q31 : op = 31
  · subst q31
    have e : flB 31 = [112,110,119] := rfl; rw [e]
    go_enter Tryz.func55,Tryz.ntmps55
    go_wp2_with fail
    go_ret
    exact ⟨rfl,rfl⟩
  have p3 : (op == 3) = false := beq_eq_false_iff_ne.2 q3; have p4 : (op == 4) = false := beq_eq_false_iff_ne.2 q4; have p31 : (op == 31) = false := beq_eq_false_iff_ne.2 q31; have p2 : decide (op <= 2) = false := decide_eq_false q2
  by_cases q32 : 32 <= op
  · have e : flB op = [112,119] := by unfold flB; rw [if_neg q2,if_neg q3,if_neg q4,if_neg q31,if_pos q32]
    have p32 : decide (32 <= op) = true := decide_eq_true q32; rw [e]
    go_enter Tryz.func55,Tryz.ntmps55
    go_wp2_with fail
    go_ret
    exact ⟨rfl,rfl⟩
  have p32 : decide (32 <= op) = false := decide_eq_false q32; have e : flB op = List.replicate (pt op).toNat 112 := by unfold flB; rw [if_neg q2,if_neg q3,if_neg q4,if_neg q31,if_neg q32]
  rw [e]; have hp : pt op = 1 ∨ pt op = 2 ∨ pt op = 3 := by
    unfold pt; rw [if_neg (by omega)]
    split
    · simp
    split <;> simp
  rcases hp with hp | hp | hp
  all_goals
    rw [hp] at HPt ⊢
    go_enter Tryz.func55,Tryz.ntmps55
    go_wp2_with (go_at_call 58; refine (HPt.out _).mono ?_; rintro e w' ⟨rfl,rfl⟩)
    go_ret
    exact ⟨by kernel_rfl,rfl⟩
end Go.Proofs.YtldpkkbdhohcmaaGreatDoor
