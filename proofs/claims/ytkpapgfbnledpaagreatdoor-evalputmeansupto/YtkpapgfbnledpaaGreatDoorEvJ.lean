import Derived.Test.YtkpapgfbnledpaaGreatDoorTmQ1
import Derived.Test.YtkpapgfbnledpaaGreatDoorTmU
import Derived.Laws.StructEq
import Derived.Laws.ResultCell
import Derived.Laws.Rows
import Derived.Test.YtkpapgfbnledpaaGreatDoorTmPn
import Derived.Test.YtkpapgfbnledpaaGreatDoorTlS
import Derived.BigQuiet
import Derived.Lib.MinMax
import Derived.WalkSmall
import Derived.WalkSpells
import Derived.Deep.LoopGhost
import Derived.WalkKit
import Derived.RangeFuncNested
import Derived.RangeFuncBound
import Derived.RangeFuncCalls
import Derived.RangeFuncLeaves
import Derived.Shelf.Abstract
import Derived.Shelf.RegionOpen
import Derived.OwnWalkIn
import Derived.TacticsInMore
import Derived.LoopNIn
import Derived.LoopIn
import Derived.Test.YtkpapgfbnledpaaGreatDoorRows
import Derived.OrdersHeld
import Derived.OrdersIn
import Derived.Deep.RegionHeld
import Derived.Test.YtkpapgfbnledpaaGreatDoorTmPg
import Derived.Test.YtkpapgfbnledpaaGreatDoorTmN
import Derived.Test.YtkpapgfbnledpaaGreatDoorNames
set_option maxHeartbeats 8000000
set_option maxRecDepth 100000
namespace Go.Proofs.YtkpapgfbnledpaaGreatDoor
open Go.ChangeShapes Go.WideShapes Go.ChangeAt Go.RowKit Go.Lib Go.Tm Go.Bw Go.Bn Go.WideMaps Go.Maps Go.ChangeMaps

theorem res_row {P : Program} {fn : Func} {p u : Tmp} {ty : TypeId} (h : fn.results = #[.cell p ty,.tmp u]) (tmps : Array Value) (w : World) (g : Nat) (t : TypeId) (cs : Array Value) (fr : Nat × Nat) (d : TypeDesc) (x : Value)
    (hp : tmps.getD p undef = .pointer (some ⟨g,0,none⟩)) (hg : w.heap[g]? = some (.cells cs t fr)) (hx : tmps.getD u undef = x)
    (hu : P.underlying ty = some d) (hd : (match d with | .struct _ | .array _ _ => true | _ => false) = true) (hi : (P.info? ty).map (·.size) = some cs.size) :
    (results fn tmps).run P w = .ok (.tuple #[.agg cs,x]) w := by
  rw [results_cell_tmp h,hp,hx]
  simp [asAddr,Result.andThen,run_loadVar_row w g t ty cs fr d hg hu hd hi]
theorem node_ok (B0 B : Nat) (lim : Int) (L : List Nd) (v : Value) (M1 M2 : Option Nat) (i : Nat) (w : World) (h : SM 78 w B0 B lim L v M1 M2) (hi : i < L.length) :
    Calls Tryz.prog 12 #[.pointer (some ⟨B,0,none⟩),.int .i64 ((i : Int) + 1)] w fun e w' => e = .returned (.tuple #[nodeV (L.getD i z0),.int .i64 0]) /\ Below w.heap.size w w' := by
  have HC : Hid (∀ W,Below w.heap.size w W -> Calls Tryz.prog 29 #[.pointer (some ⟨B,0,none⟩),.int .i64 ((i : Int) + 1)] W fun e w' => e = .returned (.bool (isT L ((i : Int) + 1))) /\ w' = W) := fun W hb => has_any _ B0 B lim L v M1 M2 _ W (h.below hb)
  have ht : isT L ((i : Int) + 1) = true := decide_eq_true (by omega); rw [ht] at HC; obtain ⟨ad,c,rfl,hc,hcell⟩ := h.form; obtain ⟨g,rfl,hg⟩ := hcell (by omega); have c1 : w.cell? ⟨B,1,none⟩ = some (.slice (some ⟨g,0,none⟩) L.length c) := blk_cell h.blk 1; have hlen := h.len; have hBl : B < w.heap.size := h.lt (Or.inl rfl); have hgl : g < w.heap.size := h.lt (Or.inr (Or.inl rfl)); have hgi := fun j hj => hg i j hi hj
  generalize L.getD i z0 = n at *
  obtain ⟨op,u,a,b,c',num,nm⟩ := n; have d0 : w.cell? ⟨g,i * 7,none⟩ = some (.int .i64 op) := hgi 0 (by omega); have d1 : w.cell? ⟨g,i * 7 + 1,none⟩ = some (.int .i64 u) := hgi 1 (by omega); have d2 : w.cell? ⟨g,i * 7 + 2,none⟩ = some (.int .i64 a) := hgi 2 (by omega); have d3 : w.cell? ⟨g,i * 7 + 3,none⟩ = some (.int .i64 b) := hgi 3 (by omega); have d4 : w.cell? ⟨g,i * 7 + 4,none⟩ = some (.int .i64 c') := hgi 4 (by omega); have d5 : w.cell? ⟨g,i * 7 + 5,none⟩ = some (.int .u64 num) := hgi 5 (by omega); have d6 : w.cell? ⟨g,i * 7 + 6,none⟩ = some (.string nm) := hgi 6 (by omega); have q1 : (i : Int) < (L.length : Int) := by omega
  clear h hg hcell hgi ht
  generalize L.length = n at *
  go_enter Tryz.func12,Tryz.ntmps12
  go_wp2_with (go_at_call 29; refine (HC.out _ (bel1 _ _)).mono ?_; rintro e w' ⟨rfl,rfl⟩)
  refine bodyPost_ret (v := .tuple #[nodeV ⟨op,u,a,b,c',num,nm⟩,.int .i64 0]) (res_row (p := 4) (u := 5) rfl _ _ w.heap.size 40 _ (0,0) _ _ rfl (heap_alloc_new w _) rfl Tryz.underlying40 rfl (by kernel_rfl)) rfl ?_; exact ⟨rfl,bel1 _ _⟩
end Go.Proofs.YtkpapgfbnledpaaGreatDoor
namespace Go.Tm

def capU (x y : Nat) : Nat := if 18446744073709551615 < x + y then 18446744073709551615 else x + y
def besZ (z o : Nat × Nat) : Nat × Nat := (capU z.1 o.1,if z.2 <= o.2 then o.2 else z.2)
def undZ (z : Nat × Nat) : Nat × Nat := (capU z.1 1,z.2 + 1)
def stpN {α : Type} (g : Nat -> (Nat -> α) -> α) (f : Nat -> α) (t : Nat) : Nat -> α := fun y => if y = t then g t f else f y
def folN {α : Type} (g : Nat -> (Nat -> α) -> α) (z : α) (pre : List Nat) : Nat -> α := pre.foldl (stpN g) (fun _ => z)
section
variable {α : Type} {g : Nat -> (Nat -> α) -> α} {z : α}
theorem folN_snoc (pre : List Nat) (t : Nat) : folN g z (pre ++ [t]) = stpN g (folN g z pre) t := by
  unfold folN; rw [List.foldl_append]
  rfl
theorem fol_keep {y : Nat} : ∀ {l : List Nat} {f : Nat -> α},y ∉ l -> l.foldl (stpN g) f y = f y
  | [],_,_ => rfl
  | t :: l,f,h => by
    rw [List.foldl_cons,fol_keep (fun hm => h (List.mem_cons_of_mem _ hm))]; unfold stpN; rw [if_neg (fun e => h (by rw [e]; exact List.mem_cons_self ..))]
theorem folN_out {y : Nat} {pre : List Nat} (h : y ∉ pre) : folN g z pre y = z := fol_keep h
theorem folN_at {a b : List Nat} {t : Nat} (hn : (a ++ t :: b).Nodup) : folN g z (a ++ t :: b) t = g t (folN g z a) := by
  have h1 := (List.nodup_append.1 hn).2.1; have h2 : t ∉ b := (List.nodup_cons.1 h1).1; unfold folN; rw [List.foldl_append,List.foldl_cons,fol_keep h2]; unfold stpN; rw [if_pos rfl]
theorem folN_pre {a b : List Nat} {y : Nat} (hn : (a ++ b).Nodup) (hy : y ∈ a) : folN g z (a ++ b) y = folN g z a y := by
  have h2 : y ∉ b := fun hb => (List.nodup_append.1 hn).2.2 y hy y hb rfl
  unfold folN; rw [List.foldl_append,fol_keep h2]
end
def szG (L : List Nd) (t : Nat) (f : Nat -> Nat × Nat) : Nat × Nat := undZ (besZ (besZ (f (pA L t)) (f (pB L t))) (f (pC L t)))
def szF (L : List Nd) : List Nat -> Nat -> Nat × Nat := folN (szG L) (0,0)
theorem capU_le (x y : Nat) : capU x y <= 18446744073709551615 := by unfold capU; split <;> omega
theorem szF_le (L : List Nd) (pre : List Nat) (y : Nat) : (szF L pre y).1 <= 18446744073709551615 /\ (szF L pre y).2 <= pre.length := by
  have h : ∀ (l : List Nat) (f : Nat -> Nat × Nat) (n : Nat),(∀ y,(f y).1 <= 18446744073709551615 /\ (f y).2 <= n) -> ∀ y,(l.foldl (stpN (szG L)) f y).1 <= 18446744073709551615 /\ (l.foldl (stpN (szG L)) f y).2 <= n + l.length := by
    intro l
    induction l with
    | nil => intro f n h y; simpa using h y
    | cons t l ih =>
      intro f n h y; rw [List.foldl_cons]; have h7 := ih (stpN (szG L) f t) (n + 1) (fun y => by
        unfold stpN
        split
        · unfold szG undZ besZ
          refine ⟨capU_le _ _,?_⟩; have ha := (h (pA L t)).2; have hb := (h (pB L t)).2; have hc := (h (pC L t)).2
          show (if (if (f (pA L t)).2 <= (f (pB L t)).2 then (f (pB L t)).2 else (f (pA L t)).2) <= (f (pC L t)).2 then (f (pC L t)).2 else (if (f (pA L t)).2 <= (f (pB L t)).2 then (f (pB L t)).2 else (f (pA L t)).2)) + 1 <= n + 1
          repeat' split
          all_goals omega
        have := h y; omega) y
      rw [List.length_cons]
      omega
  have := h pre (fun _ => (0,0)) 0 (fun y => by simp) y; unfold szF folN
  omega
theorem pow_le64 {k : Nat} (h : k < 64) : 2 ^ k <= 9223372036854775808 := Nat.le_trans (Nat.pow_le_pow_right (by omega) (show k <= 63 by omega)) (by decide)
end Go.Tm
namespace Go.Proofs.YtkpapgfbnledpaaGreatDoor
open Go.ChangeShapes Go.WideShapes Go.ChangeAt Go.RowKit Go.Lib Go.Tm Go.Bw Go.Bn Go.WideMaps Go.Maps Go.ChangeMaps

theorem capped_any (x y : Nat) (hx : x <= 18446744073709551615) (hy : y <= 18446744073709551615) (w : World) : Calls Tryz.prog 87 #[.int .u64 (x : Int),.int .u64 (y : Int)] w fun e w' => e = .returned (.int .u64 ((capU x y : Nat) : Int)) /\ w' = w := by
  have q1 : IntKind.u64.wrap (18446744073709551615 - (y : Int)) = 18446744073709551615 - (y : Int) := by simp [IntKind.wrap,IntKind.bits,IntKind.signed]; omega
  unfold capU
  by_cases h : 18446744073709551615 < x + y
  · rw [if_pos h]
    have q2 : decide ((18446744073709551615 : Int) - (y : Int) < (x : Int)) = true := decide_eq_true (by omega)
    go_enter Tryz.func87,Tryz.ntmps87
    go_wp2
    go_ret
    exact ⟨rfl,rfl⟩
  rw [if_neg h]; have q2 : decide ((18446744073709551615 : Int) - (y : Int) < (x : Int)) = false := decide_eq_false (by omega); have q3 : IntKind.u64.wrap ((x : Int) + (y : Int)) = ((x + y : Nat) : Int) := by simp [IntKind.wrap,IntKind.bits,IntKind.signed]; omega
  go_enter Tryz.func87,Tryz.ntmps87
  go_wp2
  go_ret
  exact ⟨rfl,rfl⟩

theorem res_one {P : Program} {fn : Func} {p : Tmp} {ty : TypeId} (h : fn.results = #[.cell p ty]) (tmps : Array Value) (w : World) (g : Nat) (t : TypeId) (cs : Array Value) (fr : Nat × Nat) (d : TypeDesc)
    (hp : tmps.getD p undef = .pointer (some ⟨g,0,none⟩)) (hg : w.heap[g]? = some (.cells cs t fr))
    (hu : P.underlying ty = some d) (hd : (match d with | .struct _ | .array _ _ => true | _ => false) = true) (hi : (P.info? ty).map (·.size) = some cs.size) :
    (results fn tmps).run P w = .ok (.agg cs) w := by
  simp only [results,h]
  simp [Sem.run_bind,Result.andThen]
  rw [show tmps[p]?.getD undef = tmps.getD p undef by simp,hp]
  simp [asAddr,run_loadVar_row w g t ty cs fr d hg hu hd hi]
def zV (z : Nat × Nat) : Value := .agg #[.int .u64 ((z.1 : Nat) : Int),.int .i64 ((z.2 : Nat) : Int)]
theorem bel3 (w : World) (a b c : Obj) : Below w.heap.size w (((w.alloc a).alloc b).alloc c) := (((Below.refl _ _).alloc (Nat.le_refl _) _).alloc (by simp) _).alloc (by simp; omega) _
theorem heap3 (w : World) (a b c : Obj) : (((w.alloc a).alloc b).alloc c).heap[w.heap.size + 1 + 1]? = some c := by
  have := heap_alloc_new ((w.alloc a).alloc b) c
  simpa using this
theorem heap3a (w : World) (a b c : Obj) : (((w.alloc a).alloc b).alloc c).heap[w.heap.size]? = some a := by
  rw [Below.heap_alloc _ _ _ (by simp; omega),Below.heap_alloc _ _ _ (by simp)]; exact heap_alloc_new w a
theorem heap3b (w : World) (a b c : Obj) : (((w.alloc a).alloc b).alloc c).heap[w.heap.size + 1]? = some b := by
  rw [Below.heap_alloc _ _ _ (by simp)]; have := heap_alloc_new (w.alloc a) b
  simpa using this
theorem max_nat (d k : Nat) : max (d : Int) (k : Int) = (((if d <= k then k else d) : Nat) : Int) := by
  by_cases h : d <= k
  · rw [if_pos h]; omega
  rw [if_neg h]; omega
theorem beside_any (z o : Nat × Nat) (h1 : z.1 <= 18446744073709551615) (h2 : o.1 <= 18446744073709551615) (w : World) : Calls Tryz.prog 54 #[zV z,zV o] w fun e w' => e = .returned (zV (besZ z o)) /\ Below w.heap.size w w' := by
  obtain ⟨x,d⟩ := z; obtain ⟨y,k⟩ := o; have HC : Hid (∀ W,Calls Tryz.prog 87 #[.int .u64 (x : Int),.int .u64 (y : Int)] W fun e w' => e = .returned (.int .u64 ((capU x y : Nat) : Int)) /\ w' = W) := fun W => capped_any x y h1 h2 W
  unfold zV besZ
  dsimp only
  obtain ⟨c,hc⟩ : ∃ c : Int,((capU x y : Nat) : Int) = c := ⟨_,rfl⟩; obtain ⟨mx,hmx⟩ : ∃ mx : Int,(((if d <= k then k else d) : Nat) : Int) = mx := ⟨_,rfl⟩; have HMX : Hid (max (d : Int) (k : Int) = mx) := (max_nat d k).trans hmx; rw [hc] at HC ⊢; rw [hmx]; clear hmx hc h1 h2; obtain ⟨xi,hxi⟩ : ∃ xi : Int,((x : Nat) : Int) = xi := ⟨_,rfl⟩; obtain ⟨yi,hyi⟩ : ∃ yi : Int,((y : Nat) : Int) = yi := ⟨_,rfl⟩; obtain ⟨di,hdi⟩ : ∃ di : Int,((d : Nat) : Int) = di := ⟨_,rfl⟩; obtain ⟨ki,hki⟩ : ∃ ki : Int,((k : Nat) : Int) = ki := ⟨_,rfl⟩; rw [hxi,hyi] at HC; rw [hxi,hyi,hdi,hki]; rw [hdi,hki] at HMX; clear hxi hyi hdi hki x y d k
  go_enter Tryz.func54,Tryz.ntmps54
  go_wp2_with fail
  obtain ⟨W0,hW0⟩ : ∃ W0,(((w.alloc (Obj.cells #[.int .u64 xi,.int .i64 di] 129)).alloc (Obj.cells #[.int .u64 yi,.int .i64 ki] 129)).alloc (Obj.cells #[.int .u64 0,.int .i64 0] 129)) = W0 := ⟨_,rfl⟩; have HW : Hid (Below w.heap.size w W0 /\ W0.heap[w.heap.size + 1 + 1]? = some (.cells #[.int .u64 0,.int .i64 0] 129 (0,0))) := by rw [<- hW0]; exact ⟨bel3 _ _ _ _,heap3 _ _ _ _⟩
  have c1 : W0.cell? ⟨w.heap.size,0,none⟩ = some (.int .u64 xi) := by rw [<- hW0]; exact blk_cell (heap3a _ _ _ _) 0
  have c2 : W0.cell? ⟨w.heap.size,1,none⟩ = some (.int .i64 di) := by rw [<- hW0]; exact blk_cell (heap3a _ _ _ _) 1
  have c3 : W0.cell? ⟨w.heap.size + 1,0,none⟩ = some (.int .u64 yi) := by rw [<- hW0]; exact blk_cell (heap3b _ _ _ _) 0
  have c4 : W0.cell? ⟨w.heap.size + 1,1,none⟩ = some (.int .i64 ki) := by rw [<- hW0]; exact blk_cell (heap3b _ _ _ _) 1
  have c5 : W0.cell? ⟨w.heap.size + 1 + 1,0,none⟩ = some (.int .u64 0) := blk_cell HW.out.2 0; have c6 : W0.cell? ⟨w.heap.size + 1 + 1,1,none⟩ = some (.int .i64 0) := blk_cell HW.out.2 1; have f5 : ∀ j,W0.frozen? ⟨w.heap.size + 1 + 1,j,none⟩ = false := fun j => by simp [World.frozen?,HW.out.2]
  have g5 := f5 0; have g6 := f5 1; rw [hW0]; clear hW0; refine se_start (fun W => W.cell? ⟨w.heap.size,0,none⟩ = some (.int .u64 xi) /\ W.cell? ⟨w.heap.size,1,none⟩ = some (.int .i64 di) /\ W.cell? ⟨w.heap.size + 1,0,none⟩ = some (.int .u64 yi) /\ W.cell? ⟨w.heap.size + 1,1,none⟩ = some (.int .i64 ki)) 11 [4,11] [0,1,2,3,5,6,7,8,9,4,10,11] (by kernel_rfl) (by kernel_rfl) ?_; have hHeld : W0.drew.cell? ⟨w.heap.size,0,none⟩ = some (.int .u64 xi) /\ W0.drew.cell? ⟨w.heap.size,1,none⟩ = some (.int .i64 di) /\ W0.drew.cell? ⟨w.heap.size + 1,0,none⟩ = some (.int .u64 yi) /\ W0.drew.cell? ⟨w.heap.size + 1,1,none⟩ = some (.int .i64 ki) := ⟨c1,c2,c3,c4⟩
  repeat (refine se_op (v := ?_) (by rfl) (by rfl) (by rfl) hHeld ?_ ?_; rotate_left; (focus (intro w hSw; (try dsimp only at hSw); go_simp <;> with_reducible rfl)); simp only [Act.put,List.setIfInBounds_toArray,List.set_cons_zero,List.set_cons_succ])
  refine se_do (by rfl) (by rfl) (by rfl) (fun K hK => ?_)
  go_simp
  go_at_call 87
  refine (HC.out _).mono ?_; rintro e w4 ⟨rfl,hw4⟩; obtain rfl := hw4.symm; refine hK.out _ _ hHeld ?_; clear hK K
  try simp only [Act.put,List.setIfInBounds_toArray,List.set_cons_zero,List.set_cons_succ]
  repeat (refine se_op (v := ?_) (by rfl) (by rfl) (by rfl) hHeld ?_ ?_; rotate_left; (focus (intro w hSw; (try dsimp only at hSw); go_simp <;> with_reducible rfl)); simp only [Act.put,List.setIfInBounds_toArray,List.set_cons_zero,List.set_cons_succ])
  refine se_last (by rfl) (by rfl) (by rfl) (by rfl) (fun K hK => ?_)
  go_simp
  rw [HMX.out]; refine hK.out _ _ ?_; clear hK K
  go_wp2
  have hh : (((W0.setCell ⟨w.heap.size + 1 + 1,0,none⟩ (.int .u64 c)).setCell ⟨w.heap.size + 1 + 1,1,none⟩ (.int .i64 mx)).drew).heap[w.heap.size + 1 + 1]? = some (.cells #[.int .u64 c,.int .i64 mx] 129 (0,0)) :=
    (heap_setCell_same _ _ _ _ _ _ (heap_setCell_same _ _ _ _ _ _ HW.out.2)).trans rfl
  refine bodyPost_ret (v := .agg #[.int .u64 c,.int .i64 mx]) (res_one (p := 4) rfl _ _ _ 129 _ (0,0) _ rfl hh Tryz.underlying129 rfl (by kernel_rfl)) rfl ?_; exact ⟨rfl,drw (below_set (below_set HW.out.1 (by show _ <= w.heap.size + 1 + 1; omega) _) (by show _ <= w.heap.size + 1 + 1; omega) _) 1⟩
theorem under_any (z : Nat × Nat) (h1 : z.1 <= 18446744073709551615) (h2 : z.2 <= 1000000000000) (w : World) : Calls Tryz.prog 55 #[zV z] w fun e w' => e = .returned (zV (undZ z)) /\ Below w.heap.size w w' := by
  obtain ⟨x,d⟩ := z
  dsimp only at h1 h2
  have HC : Hid (∀ W,Calls Tryz.prog 87 #[.int .u64 (x : Int),.int .u64 1] W fun e w' => e = .returned (.int .u64 ((capU x 1 : Nat) : Int)) /\ w' = W) := fun W => capped_any x 1 h1 (by omega) W
  unfold zV undZ
  dsimp only
  obtain ⟨c,hc⟩ : ∃ c : Int,((capU x 1 : Nat) : Int) = c := ⟨_,rfl⟩; obtain ⟨mx,hmx⟩ : ∃ mx : Int,((d + 1 : Nat) : Int) = mx := ⟨_,rfl⟩; have HMX : Hid (IntKind.i64.wrap ((d : Int) + 1) = mx) := by
    show _ = _
    rw [<- hmx]
    simp [IntKind.wrap,IntKind.bits,IntKind.signed]
    omega
  rw [hc] at HC ⊢; rw [hmx]; clear hmx hc h1 h2; obtain ⟨xi,hxi⟩ : ∃ xi : Int,((x : Nat) : Int) = xi := ⟨_,rfl⟩; obtain ⟨di,hdi⟩ : ∃ di : Int,((d : Nat) : Int) = di := ⟨_,rfl⟩; rw [hxi] at HC; rw [hxi,hdi]; rw [hdi] at HMX; clear hxi hdi x d
  go_enter Tryz.func55,Tryz.ntmps55
  go_wp2_with fail
  obtain ⟨W0,hW0⟩ : ∃ W0,((w.alloc (Obj.cells #[.int .u64 xi,.int .i64 di] 129)).alloc (Obj.cells #[.int .u64 0,.int .i64 0] 129)) = W0 := ⟨_,rfl⟩; have HW : Hid (Below w.heap.size w W0 /\ W0.heap[w.heap.size + 1]? = some (.cells #[.int .u64 0,.int .i64 0] 129 (0,0))) := by
    rw [<- hW0]; exact ⟨bel2 _ _ _,by have := heap_alloc_new (w.alloc (Obj.cells #[.int .u64 xi,.int .i64 di] 129)) (Obj.cells #[.int .u64 0,.int .i64 0] 129); simpa using this⟩
  have hb0 : W0.heap[w.heap.size]? = some (.cells #[.int .u64 xi,.int .i64 di] 129 (0,0)) := by
    rw [<- hW0,Below.heap_alloc _ _ _ (by simp)]; exact heap_alloc_new w _
  have c1 : W0.cell? ⟨w.heap.size,0,none⟩ = some (.int .u64 xi) := blk_cell hb0 0; have c2 : W0.cell? ⟨w.heap.size,1,none⟩ = some (.int .i64 di) := blk_cell hb0 1; have c5 : W0.cell? ⟨w.heap.size + 1,0,none⟩ = some (.int .u64 0) := blk_cell HW.out.2 0; have c6 : W0.cell? ⟨w.heap.size + 1,1,none⟩ = some (.int .i64 0) := blk_cell HW.out.2 1; have f5 : ∀ j,W0.frozen? ⟨w.heap.size + 1,j,none⟩ = false := fun j => by simp [World.frozen?,HW.out.2]
  have g5 := f5 0; have g6 := f5 1; rw [hW0]; clear hW0 hb0; refine se_start (fun W => W.cell? ⟨w.heap.size,0,none⟩ = some (.int .u64 xi) /\ W.cell? ⟨w.heap.size,1,none⟩ = some (.int .i64 di)) 7 [2,7] [0,1,3,4,5,2,6,7] (by kernel_rfl) (by kernel_rfl) ?_; have hHeld : W0.drew.cell? ⟨w.heap.size,0,none⟩ = some (.int .u64 xi) /\ W0.drew.cell? ⟨w.heap.size,1,none⟩ = some (.int .i64 di) := ⟨c1,c2⟩
  repeat (refine se_op (v := ?_) (by rfl) (by rfl) (by rfl) hHeld ?_ ?_; rotate_left; (focus (intro w hSw; (try dsimp only at hSw); go_simp <;> with_reducible rfl)); simp only [Act.put,List.setIfInBounds_toArray,List.set_cons_zero,List.set_cons_succ])
  refine se_do (by rfl) (by rfl) (by rfl) (fun K hK => ?_)
  go_simp
  go_at_call 87
  refine (HC.out _).mono ?_; rintro e w4 ⟨rfl,hw4⟩; obtain rfl := hw4.symm; refine hK.out _ _ hHeld ?_; clear hK K
  try simp only [Act.put,List.setIfInBounds_toArray,List.set_cons_zero,List.set_cons_succ]
  repeat (refine se_op (v := ?_) (by rfl) (by rfl) (by rfl) hHeld ?_ ?_; rotate_left; (focus (intro w hSw; (try dsimp only at hSw); go_simp <;> with_reducible rfl)); simp only [Act.put,List.setIfInBounds_toArray,List.set_cons_zero,List.set_cons_succ])
  refine se_last (by rfl) (by rfl) (by rfl) (by rfl) (fun K hK => ?_)
  go_simp
  first | rw [HMX.out] | trace_state
  refine hK.out _ _ ?_; clear hK K
  go_wp2
  have hh : (((W0.setCell ⟨w.heap.size + 1,0,none⟩ (.int .u64 c)).setCell ⟨w.heap.size + 1,1,none⟩ (.int .i64 mx)).drew).heap[w.heap.size + 1]? = some (.cells #[.int .u64 c,.int .i64 mx] 129 (0,0)) :=
    (heap_setCell_same _ _ _ _ _ _ (heap_setCell_same _ _ _ _ _ _ HW.out.2)).trans rfl
  refine bodyPost_ret (v := .agg #[.int .u64 c,.int .i64 mx]) (res_one (p := 2) rfl _ _ _ 129 _ (0,0) _ rfl hh Tryz.underlying129 rfl (by kernel_rfl)) rfl ?_; exact ⟨rfl,drw (below_set (below_set HW.out.1 (by show _ <= w.heap.size + 1; omega) _) (by show _ <= w.heap.size + 1; omega) _) 1⟩
end Go.Proofs.YtkpapgfbnledpaaGreatDoor
namespace Go.Proofs.YtkpapgfbnledpaaGreatDoor
open Go.ChangeShapes Go.WideShapes Go.ChangeAt Go.RowKit Go.Lib Go.Tm Go.Bw Go.Bn Go.WideMaps Go.Maps Go.ChangeMaps

structure ZL (w : World) (g n : Nat) (f : Nat -> Nat × Nat) : Prop where
  blk : ∃ A,w.heap[g]? = some (.cells A 129 (0,0)) /\ A.size = 2 * n /\ ∀ i,i < n -> A[2 * i]? = some (.int .u64 (((f i).1 : Nat) : Int)) /\ A[2 * i + 1]? = some (.int .i64 (((f i).2 : Nat) : Int))
theorem ZL.lt {w : World} {g n : Nat} {f : Nat -> Nat × Nat} (h : ZL w g n f) : g < w.heap.size := by
  obtain ⟨A,hA,_⟩ := h.blk; exact (Array.getElem?_eq_some_iff.1 hA).1
theorem ZL.keep {w w' : World} {g n : Nat} {f : Nat -> Nat × Nat} (h : ZL w g n f) (hb : w'.heap[g]? = w.heap[g]?) : ZL w' g n f := by
  obtain ⟨A,hA,h1⟩ := h.blk; exact ⟨A,hb.trans hA,h1⟩
theorem ZL.below {w w' : World} {g n : Nat} {f : Nat -> Nat × Nat} (h : ZL w g n f) (hb : Below w.heap.size w w') : ZL w' g n f := h.keep (hb.block g h.lt)
theorem ZL.at_ {w : World} {g n : Nat} {f : Nat -> Nat × Nat} (h : ZL w g n f) {i : Nat} (hi : i < n) : w.cell? ⟨g,i * 2,none⟩ = some (.int .u64 (((f i).1 : Nat) : Int)) /\ w.cell? ⟨g,i * 2 + 1,none⟩ = some (.int .i64 (((f i).2 : Nat) : Int)) /\ w.frozen? ⟨g,i * 2,none⟩ = false /\ w.frozen? ⟨g,i * 2 + 1,none⟩ = false := by
  obtain ⟨A,hA,h1,h2⟩ := h.blk; refine ⟨(blk_cell hA _).trans (by rw [Nat.mul_comm]; exact (h2 i hi).1),(blk_cell hA _).trans (by rw [Nat.mul_comm]; exact (h2 i hi).2),by simp [World.frozen?,hA],by simp [World.frozen?,hA]⟩
theorem ZL.put {w : World} {g n : Nat} {f : Nat -> Nat × Nat} (h : ZL w g n f) {i : Nat} (z : Nat × Nat) (hi : i < n) : ZL ((w.setCell ⟨g,i * 2,none⟩ (.int .u64 ((z.1 : Nat) : Int))).setCell ⟨g,i * 2 + 1,none⟩ (.int .i64 ((z.2 : Nat) : Int))) g n (fun y => if y = i then z else f y) := by
  obtain ⟨A,hA,h1,h2⟩ := h.blk; refine ⟨_,heap_setCell_same _ _ _ _ _ _ (heap_setCell_same _ _ _ _ _ _ hA),by simpa using h1,fun k hk => ?_⟩; have h3 := h2 k hk
  by_cases e : k = i
  · subst e
    rw [if_pos rfl]
    constructor
    · rw [Array.getElem?_setIfInBounds_ne (by omega),show 2 * k = k * 2 by omega,Array.getElem?_setIfInBounds_self_of_lt (by omega)]
    rw [show 2 * k + 1 = k * 2 + 1 by omega,Array.getElem?_setIfInBounds_self_of_lt (by simp; omega)]
  rw [if_neg e]
  constructor
  · rw [Array.getElem?_setIfInBounds_ne (by omega),Array.getElem?_setIfInBounds_ne (by omega)]
    exact h3.1
  rw [Array.getElem?_setIfInBounds_ne (by omega),Array.getElem?_setIfInBounds_ne (by omega)]; exact h3.2
theorem heap2 (w : World) (a b : Obj) : ((w.alloc a).alloc b).heap[w.heap.size + 1]? = some b := by
  have := heap_alloc_new (w.alloc a) b
  simpa using this
def zN (g n : Nat) : Value := .agg #[.slice (some ⟨g,0,none⟩) n n,.map none]
theorem below_le' {B B' : Nat} {w w' : World} (h : Below B w w') (hl : B' <= B) : Below B' w w' := ⟨h.os,h.tape,h.output,h.size,fun k hk => h.block k (by omega)⟩
theorem zat_any (g n : Nat) (f : Nat -> Nat × Nat) (i : Nat) (w : World) (h : ZL w g n f) (hi : i < n) : Calls Tryz.prog 53 #[zN g n,.int .i64 (i : Int)] w fun e w' => e = .returned (zV (f i)) /\ Below w.heap.size w w' := by
  obtain ⟨h1,h2,-,-⟩ := (h.below (bel2 w (Obj.cells #[.slice (some ⟨g,0,none⟩) n n,.map none] 126 (0,0)) (Obj.cells #[.int .u64 0,.int .i64 0] 129 (0,0)))).at_ hi; unfold zV zN
  generalize ((f i).1 : Int) = x at *
  generalize ((f i).2 : Int) = d at *
  have q1 : (i : Int) < (n : Int) := by omega
  have qT : ∀ (w : World) (r : Option Nat),(binOp .neq 124 (.map r) (.map none)).run Tryz.prog w = .ok (.bool (!r.isNone)) w := fun w r => run_neq_map_nil w _ _ _ r Tryz.underlying124
  have hl := h.lt; clear h
  go_enter Tryz.func53,Tryz.ntmps53
  go_wp2
  refine bodyPost_ret (v := .agg #[.int .u64 x,.int .i64 d]) (res_one (p := 4) rfl _ _ _ 129 _ (0,0) _ rfl (heap2 w _ _) Tryz.underlying129 rfl (by kernel_rfl)) rfl ?_; exact ⟨rfl,bel2 _ _ _⟩
theorem grown_put (w : World) (g i j : Nat) (u v : Value) (a b : Obj) : w.grownBy ((((w.setCell ⟨g,i,none⟩ u).setCell ⟨g,j,none⟩ v).alloc a).alloc b) (some g) := by
  refine ⟨rfl,rfl,rfl,by simp; omega,fun k hk hn => ?_⟩; have hne : k ≠ g := fun e => hn (by rw [e])
  rw [Below.heap_alloc _ _ _ (by simp; omega),Below.heap_alloc _ _ _ (by simpa using hk)]; exact (heap_setCell_other _ _ _ _ hne).trans (heap_setCell_other _ _ _ _ hne)
theorem zset_any (g n : Nat) (f : Nat -> Nat × Nat) (i : Nat) (z : Nat × Nat) (w : World) (h : ZL w g n f) (hi : i < n) : Calls Tryz.prog 52 #[zN g n,.int .i64 (i : Int),zV z] w fun e w' => e = .returned (.tuple #[]) /\ ZL w' g n (fun y => if y = i then z else f y) /\ w.grownBy w' (some g) := by
  unfold zN; have HZ : Hid (ZL ((((w.setCell ⟨g,i * 2,none⟩ (.int .u64 ((z.1 : Nat) : Int))).setCell ⟨g,i * 2 + 1,none⟩ (.int .i64 ((z.2 : Nat) : Int))).alloc (Obj.cells #[.slice (some ⟨g,0,none⟩) n n,.map none] 126 (0,0))).alloc (Obj.cells #[.int .u64 ((z.1 : Nat) : Int),.int .i64 ((z.2 : Nat) : Int)] 129 (0,0))) g n (fun y => if y = i then z else f y) /\ w.grownBy ((((w.setCell ⟨g,i * 2,none⟩ (.int .u64 ((z.1 : Nat) : Int))).setCell ⟨g,i * 2 + 1,none⟩ (.int .i64 ((z.2 : Nat) : Int))).alloc (Obj.cells #[.slice (some ⟨g,0,none⟩) n n,.map none] 126 (0,0))).alloc (Obj.cells #[.int .u64 ((z.1 : Nat) : Int),.int .i64 ((z.2 : Nat) : Int)] 129 (0,0))) (some g)) :=
    ⟨(h.put z hi).below (bel2 _ _ _),grown_put w g _ _ _ _ _ _⟩
  obtain ⟨h1,h2,h3,h4⟩ := (h.below (bel2 w (Obj.cells #[.slice (some ⟨g,0,none⟩) n n,.map none] 126 (0,0)) (Obj.cells #[.int .u64 ((z.1 : Nat) : Int),.int .i64 ((z.2 : Nat) : Int)] 129 (0,0)))).at_ hi; obtain ⟨h5,h6,h7,h8⟩ := h.at_ hi; have hl := h.lt; clear h
  generalize (fun y => if y = i then z else f y) = f2 at *
  generalize ((f i).1 : Int) = u1 at *
  generalize ((f i).2 : Int) = u2 at *
  obtain ⟨zx,zd⟩ := z
  show Calls _ _ #[_,_,.agg #[.int .u64 (zx : Int),.int .i64 (zd : Int)]] _ _
  dsimp only at HZ h1 h2 h3 h4
  generalize ((zx : Nat) : Int) = x at *
  generalize ((zd : Nat) : Int) = d at *
  have q1 : (i : Int) < (n : Int) := by omega
  have qT : ∀ (w : World) (r : Option Nat),(binOp .neq 124 (.map r) (.map none)).run Tryz.prog w = .ok (.bool (!r.isNone)) w := fun w r => run_neq_map_nil w _ _ _ r Tryz.underlying124
  go_enter Tryz.func52,Tryz.ntmps52
  go_wp2_with fail
  first
    | exact ⟨rfl,HZ.out⟩
    | (go_end0; exact ⟨rfl,HZ.out⟩)
    | (go_ret; exact ⟨rfl,HZ.out⟩)
end Go.Proofs.YtkpapgfbnledpaaGreatDoor
namespace Go.Proofs.YtkpapgfbnledpaaGreatDoor
open Go.ChangeShapes Go.WideShapes Go.ChangeAt Go.RowKit Go.Lib Go.Tm Go.Bw Go.Bn Go.WideMaps Go.Maps Go.ChangeMaps

def mxN (l : List Nat) : Nat := l.foldl (fun a b => if a < b then b else a) 0
theorem mxN_snoc (l : List Nat) (x : Nat) : mxN (l ++ [x]) = if mxN l < x then x else mxN l := by
  unfold mxN; rw [List.foldl_append]
  rfl
theorem mxF_ge : ∀ (l : List Nat) (a : Nat),a <= l.foldl (fun a b => if a < b then b else a) a /\ ∀ x ∈ l,x <= l.foldl (fun a b => if a < b then b else a) a
  | [],a => ⟨Nat.le_refl _,fun x h => by cases h⟩
  | y :: l,a => by
    rw [List.foldl_cons]; obtain ⟨h1,h2⟩ := mxF_ge l (if a < y then y else a); have h3 : a <= (if a < y then y else a) /\ y <= (if a < y then y else a) := by split <;> omega
    refine ⟨by omega,fun x hx => ?_⟩
    rcases List.mem_cons.1 hx with e | e
    · omega
    exact h2 x e
theorem mxN_ge {l : List Nat} {x : Nat} (h : x ∈ l) : x <= mxN l := (mxF_ge l 0).2 x h
theorem mxF_le : ∀ (l : List Nat) (a m : Nat),a <= m -> (∀ x ∈ l,x <= m) -> l.foldl (fun a b => if a < b then b else a) a <= m
  | [],a,m,h,_ => h
  | y :: l,a,m,h,h2 => by
    rw [List.foldl_cons]; refine mxF_le l _ m ?_ (fun x hx => h2 x (List.mem_cons_of_mem _ hx)); have := h2 y (List.mem_cons_self ..)
    split <;> omega
theorem mxN_le {l : List Nat} {m : Nat} (h : ∀ x ∈ l,x <= m) : mxN l <= m := mxF_le l 0 m (Nat.zero_le _) h
theorem take_nat {l : List Nat} {i : Nat} (h : i < l.length) : l.take (i + 1) = l.take i ++ [l.getD i 0] := by
  rw [List.take_add_one,List.getD_eq_getElem?_getD,List.getElem?_eq_getElem h]
  rfl
def OR (w : World) (ad : Option Addr) (O : List Nat) : Prop := 0 < O.length -> ∃ b o,ad = some ⟨b,o,none⟩ /\ b < w.heap.size /\ ∀ j,j < O.length -> w.cell? ⟨b,o + j,none⟩ = some (.int .i64 ((O.getD j 0 : Nat) : Int))
theorem OR.below {w w' : World} {ad : Option Addr} {O : List Nat} (h : OR w ad O) (hb : Below w.heap.size w w') : OR w' ad O := fun h0 => by
  obtain ⟨b,o,e,hl,hc⟩ := h h0; exact ⟨b,o,e,Nat.lt_of_lt_of_le hl hb.size,fun j hj => (World.cell?_of_block (w' := w') (w := w) (a := ⟨b,o + j,none⟩) (hb.block b hl)).trans (hc j hj)⟩
theorem zmade (w : World) (n : Nat) : ZL (w.alloc (.cells (madeCells #[.int .u64 0,.int .i64 0] (n * 2)) 129)) w.heap.size n (fun _ => (0,0)) := by
  refine ⟨_,heap_alloc_new w _,by simp [madeCells]; omega,fun i hi => ?_⟩; have e1 : (2 * i) % 2 = 0 := by omega
  have e2 : (2 * i + 1) % 2 = 1 := by omega
  unfold madeCells
  constructor
  · rw [Array.getElem?_map,Array.getElem?_range,if_pos (by omega)]
    simp
  rw [Array.getElem?_map,Array.getElem?_range,if_pos (by omega)]
  simp [e2]
theorem znew_any {ad : Option Addr} {cp : Nat} {O : List Nat} (w : World) (h : OR w ad O) (hd : mxN O / 16 <= O.length) (hm : mxN O <= 1000000000000) (hl : O.length <= 1000000000000) : Calls Tryz.prog 51 #[.slice ad O.length cp] w fun e w' => ∃ g,e = .returned (zN g (mxN O + 1)) /\ ZL w' g (mxN O + 1) (fun _ => (0,0)) /\ Below w.heap.size w w' /\ w.heap.size <= g := by
  generalize hPP : (fun (e : Ending) (w' : World) => ∃ g,e = .returned (zN g (mxN O + 1)) /\ ZL w' g (mxN O + 1) (fun _ => (0,0)) /\ Below w.heap.size w w' /\ w.heap.size <= g) = PP
  have HPP : Hid (∀ g w',ZL w' g (mxN O + 1) (fun _ => (0,0)) -> Below w.heap.size w w' -> w.heap.size <= g -> PP (.returned (zN g (mxN O + 1))) w') := fun g w' h1 h2 h3 => by rw [<- hPP]; exact ⟨g,rfl,h1,h2,h3⟩
  clear hPP; obtain ⟨k,hk⟩ : ∃ k,O.length = k := ⟨_,rfl⟩; have HK : Hid (O.length = k) := hk; obtain ⟨W0,hW0⟩ : ∃ W0,w.alloc (Obj.cells #[.slice none 0 0,.map none] 126) = W0 := ⟨_,rfl⟩; have HW : Hid (Below w.heap.size w W0 /\ W0.heap[w.heap.size]? = some (Obj.cells #[.slice none 0 0,.map none] 126 (0,0)) /\ W0.heap.size = w.heap.size + 1) := by rw [<- hW0]; exact ⟨bel1 _ _,heap_alloc_new _ _,by simp⟩
  have HO : Hid (OR W0 ad O) := h.below HW.out.1; have HB : Hid (mxN O / 16 <= k /\ mxN O <= 1000000000000) := ⟨by rw [<- hk]; exact hd,hm⟩; rw [hk] at hl ⊢; clear hk h hd hm
  go_enter Tryz.func51,Tryz.ntmps51
  go_wp2_with fail
  try rw [hW0]
  clear hW0
  go_loopg [3,8] k (fun gk s3 s8 wr => ∃ i : Nat,s8 = .int .i64 (i : Int) /\ i + gk = k /\ s3 = .int .i64 ((mxN (O.take i) : Nat) : Int) /\ wr = W0)
  case atStart => exact ⟨0,rfl,by omega,rfl,rfl⟩
  case round =>
    obtain ⟨i,rfl,hi,rfl,rfl⟩ := hrel
    by_cases hlt : i < k
    · obtain ⟨b,o,rfl,hbl,hc⟩ := HO.out (by rw [HK.out]; omega)
      have c1 := hc i (by rw [HK.out]; exact hlt); have q1 : (i : Int) < (k : Int) := by omega
      have e1 : max ((mxN (O.take i) : Nat) : Int) ((O.getD i 0 : Nat) : Int) = ((mxN (O.take (i + 1)) : Nat) : Int) := by
        rw [take_nat (by rw [HK.out]; exact hlt),mxN_snoc]
        by_cases h : mxN (O.take i) < O.getD i 0
        · rw [if_pos h]; omega
        rw [if_neg h]; omega
      have HE : Hid (max ((mxN (O.take i) : Nat) : Int) ((O.getD i 0 : Nat) : Int) = ((mxN (O.take (i + 1)) : Nat) : Int)) := e1; clear e1 hc; obtain ⟨x,hx⟩ : ∃ x : Int,((O.getD i 0 : Nat) : Int) = x := ⟨_,rfl⟩; obtain ⟨m,hm⟩ : ∃ m : Int,((mxN (O.take i) : Nat) : Int) = m := ⟨_,rfl⟩; rw [hx] at c1 HE; rw [hm] at HE ⊢; clear hx hm
      go_wp2_with fail
      go_roundg (gk - 1)
      case measure => omega
      case rel => exact ⟨i + 1,by simp,by omega,by rw [HE.out],rfl⟩
    have hik : i = k := by omega
    subst hik; have ht : O.take i = O := by rw [<- HK.out,List.take_length]
    rw [ht]; clear ht; obtain ⟨m,hm⟩ : ∃ m : Nat,mxN O = m := ⟨_,rfl⟩; rw [hm] at HPP HB ⊢; have hb1 := HB.out.1; have hb2 := HB.out.2; have q1 : (m : Int) / 16 <= (i : Int) := by omega
    have q2 : IntKind.i64.wrap ((m : Int) + 1) = ((m + 1 : Nat) : Int) := by simp [IntKind.wrap,IntKind.bits,IntKind.signed]; omega
    have k0 : wr.cell? ⟨w.heap.size,0,none⟩ = some (.slice none 0 0) := blk_cell HW.out.2.1 0; have k1 : wr.cell? ⟨w.heap.size,1,none⟩ = some (.map none) := blk_cell HW.out.2.1 1; have f0 : wr.frozen? ⟨w.heap.size,0,none⟩ = false := by simp [World.frozen?,HW.out.2.1]
    have f1 : wr.frozen? ⟨w.heap.size,1,none⟩ = false := by simp [World.frozen?,HW.out.2.1]
    clear hm; obtain ⟨i0,hi0,hz0,hz1,hz2⟩ := info_parts (P := Tryz.prog) (e := 129) (z := .agg #[.int .u64 0,.int .i64 0]) (size := 2) (bytes := 16) (by kernel_rfl); have eM : ∀ W : World,(Instr.makeSlice 123 (.int .i64 ((m : Int) + 1)) (.int .i64 ((m : Int) + 1))).run Tryz.prog W = .ok (.slice (some ⟨W.heap.size,0,none⟩) (m + 1) (m + 1)) (W.alloc (.cells (madeCells (Value.agg #[.int .u64 0,.int .i64 0]).cells ((m + 1) * 2)) 129)) := fun W => by
      have h7 := run_make (P := Tryz.prog) (w := W) 123 129 i0 (.agg #[.int .u64 0,.int .i64 0]) Tryz.underlying123 hi0 hz0 .i64 .i64 ((m : Int) + 1) ((m : Int) + 1) (by omega) (by omega) (by rw [hz2]; omega) (by omega); rw [hz1] at h7; exact h7
    have hls : w.heap.size < wr.heap.size := by rw [HW.out.2.2]; omega
    have hne : ¬ w.heap.size = wr.heap.size := by omega
    go_wp2_with fail
    obtain ⟨w2,hw2⟩ : ∃ w2,((wr.setCell ⟨w.heap.size,0,none⟩ (.slice (some ⟨wr.heap.size,0,none⟩) (m + 1) (m + 1))).setCell ⟨w.heap.size,1,none⟩ (.map none)) = w2 := ⟨_,rfl⟩; have hz9 : w2.heap.size = wr.heap.size := by rw [<- hw2]; simp
    have hh : w2.heap[w.heap.size]? = some (Obj.cells #[.slice (some ⟨wr.heap.size,0,none⟩) (m + 1) (m + 1),.map none] 126 (0,0)) := by
      rw [<- hw2]; exact (heap_setCell_same _ _ _ _ _ _ (heap_setCell_same _ _ _ _ _ _ HW.out.2.1)).trans rfl
    have hb2 : Below w.heap.size w w2 := by
      rw [<- hw2]; exact below_set (below_set HW.out.1 (Nat.le_refl _) _) (Nat.le_refl _) _
    rw [hw2]; refine bodyPost_ret (v := .agg #[.slice (some ⟨wr.heap.size,0,none⟩) (m + 1) (m + 1),.map none]) (res_one (p := 2) rfl _ _ w.heap.size 126 _ (0,0) _ rfl ((Below.heap_alloc _ _ _ (by rw [hz9]; exact hls)).trans hh) Tryz.underlying126 rfl (by kernel_rfl)) rfl ?_; have hz := zmade w2 (m + 1); rw [hz9] at hz; exact HPP.out _ _ hz (hb2.trans (below_le' (bel1 w2 _) (by rw [hz9]; omega))) (by omega)
end Go.Proofs.YtkpapgfbnledpaaGreatDoor
namespace Go.Proofs.YtkpapgfbnledpaaGreatDoor
open Go.ChangeShapes Go.WideShapes Go.ChangeAt Go.RowKit Go.Lib Go.Tm Go.Bw Go.Bn Go.WideMaps Go.Maps Go.ChangeMaps

structure SR (w : World) (B g : Nat) (L : List Nd) : Prop where
  bl : B < w.heap.size
  gl : 0 < L.length -> g < w.heap.size
  c1 : ∃ ad c,w.cell? ⟨B,1,none⟩ = some (.slice ad L.length c) /\ (0 < L.length -> ad = some ⟨g,0,none⟩)
  cs : ∀ i j,i < L.length -> j < 7 -> w.cell? ⟨g,i * 7 + j,none⟩ = (ndC (L.getD i z0))[j]?
  len : L.length <= 1000000000000
theorem SR.keep {w w' : World} {B g : Nat} {L : List Nd} (h : SR w B g L) (hs : w.heap.size <= w'.heap.size) (h1 : w'.heap[B]? = w.heap[B]?) (h2 : 0 < L.length -> w'.heap[g]? = w.heap[g]?) : SR w' B g L := by
  obtain ⟨a,b,⟨ad,c,h3,h4⟩,d,e⟩ := h; exact ⟨Nat.lt_of_lt_of_le a hs,fun h0 => Nat.lt_of_lt_of_le (b h0) hs,⟨ad,c,(World.cell?_of_block (w' := w') (w := w) (a := ⟨B,1,none⟩) h1).trans h3,h4⟩,fun i j hi hj => (World.cell?_of_block (w' := w') (w := w) (a := ⟨g,_,none⟩) (h2 (by omega))).trans (d i j hi hj),e⟩
theorem SR.below {w w' : World} {B g : Nat} {L : List Nd} (h : SR w B g L) (hb : Below w.heap.size w w') : SR w' B g L := h.keep hb.size (hb.block B h.bl) (fun h0 => hb.block g (h.gl h0))
theorem SM.sr {w : World} {B0 B : Nat} {lim : Int} {L : List Nd} {v : Value} {M1 M2 : Option Nat} (h : SM 78 w B0 B lim L v M1 M2) : ∃ g,SR w B g L /\ (0 < L.length -> B0 <= g) /\ B0 <= B := by
  obtain ⟨ad,c,rfl,hc,hcell⟩ := h.form; have hB : B < w.heap.size := (Array.getElem?_eq_some_iff.1 h.blk).1
  by_cases h0 : 0 < L.length
  · obtain ⟨g,rfl,hg⟩ := hcell h0
    have hgl := (h.row.lt g rfl); exact ⟨g,⟨hB,fun _ => hgl.2,⟨_,_,blk_cell h.blk 1,fun _ => rfl⟩,hg,h.len⟩,fun _ => hgl.1,h.b0⟩
  exact ⟨0,⟨hB,fun h => absurd h h0,⟨_,_,blk_cell h.blk 1,fun h => absurd h h0⟩,fun i j hi => absurd hi (by omega),h.len⟩,fun h => absurd h h0,h.b0⟩
theorem has9_any (B g : Nat) (L : List Nd) (t : Nat) (w : World) (h : SR w B g L) (h1 : 1 <= t) (h2 : t <= L.length) : Calls Tryz.prog 29 #[.pointer (some ⟨B,0,none⟩),.int .i64 (t : Int)] w fun e w' => e = .returned (.bool true) /\ w' = w := by
  obtain ⟨ad,c,c1,-⟩ := h.c1; have q1 : (1 : Int) <= (t : Int) := by omega
  have q2 : (t : Int) <= (L.length : Int) := by omega
  clear h
  generalize L.length = n at *
  go_enter Tryz.func29,Tryz.ntmps29
  go_wp2
  go_ret
  first | exact ⟨rfl,rfl⟩ | (refine ⟨?_,rfl⟩; simp; omega)
theorem node9_any (B g : Nat) (L : List Nd) (i : Nat) (w : World) (h : SR w B g L) (hi : i < L.length) :
    Calls Tryz.prog 12 #[.pointer (some ⟨B,0,none⟩),.int .i64 ((i : Int) + 1)] w fun e w' => e = .returned (.tuple #[nodeV (L.getD i z0),.int .i64 0]) /\ Below w.heap.size w w' := by
  have HC : Hid (∀ W,Below w.heap.size w W -> Calls Tryz.prog 29 #[.pointer (some ⟨B,0,none⟩),.int .i64 ((i : Int) + 1)] W fun e w' => e = .returned (.bool true) /\ w' = W) := fun W hb => has9_any B g L (i + 1) W (h.below hb) (by omega) (by omega)
  obtain ⟨ad,c,c1,had⟩ := h.c1; obtain rfl := had (by omega); have hlen := h.len; have hBl : B < w.heap.size := h.bl; have hgl : g < w.heap.size := h.gl (by omega); have hgi := fun j hj => h.cs i j hi hj
  generalize L.getD i z0 = n at *
  obtain ⟨op,u,a,b,c',num,nm⟩ := n; have d0 : w.cell? ⟨g,i * 7,none⟩ = some (.int .i64 op) := hgi 0 (by omega); have d1 : w.cell? ⟨g,i * 7 + 1,none⟩ = some (.int .i64 u) := hgi 1 (by omega); have d2 : w.cell? ⟨g,i * 7 + 2,none⟩ = some (.int .i64 a) := hgi 2 (by omega); have d3 : w.cell? ⟨g,i * 7 + 3,none⟩ = some (.int .i64 b) := hgi 3 (by omega); have d4 : w.cell? ⟨g,i * 7 + 4,none⟩ = some (.int .i64 c') := hgi 4 (by omega); have d5 : w.cell? ⟨g,i * 7 + 5,none⟩ = some (.int .u64 num) := hgi 5 (by omega); have d6 : w.cell? ⟨g,i * 7 + 6,none⟩ = some (.string nm) := hgi 6 (by omega); have q1 : (i : Int) < (L.length : Int) := by omega
  clear h hgi had
  generalize L.length = n at *
  go_enter Tryz.func12,Tryz.ntmps12
  go_wp2_with (go_at_call 29; refine (HC.out _ (bel1 _ _)).mono ?_; rintro e w' ⟨rfl,rfl⟩)
  refine bodyPost_ret (v := .tuple #[nodeV ⟨op,u,a,b,c',num,nm⟩,.int .i64 0]) (res_row (p := 4) (u := 5) rfl _ _ w.heap.size 40 _ (0,0) _ _ rfl (heap_alloc_new w _) rfl Tryz.underlying40 rfl (by kernel_rfl)) rfl ?_; exact ⟨rfl,bel1 _ _⟩
end Go.Proofs.YtkpapgfbnledpaaGreatDoor
namespace Go.Proofs.YtkpapgfbnledpaaGreatDoor
open Go.ChangeShapes Go.WideShapes Go.ChangeAt Go.RowKit Go.Lib Go.Tm Go.Bw Go.Bn Go.WideMaps Go.Maps Go.ChangeMaps Go.Shelf
attribute [local go_sem] Oper.semAt_some

def KC (H Mb : Nat) (W W' : World) : Prop := (∀ j,j < H -> j ≠ Mb -> W'.heap[j]? = W.heap[j]?) /\ W.heap.size <= W'.heap.size
theorem KC.refl (H Mb : Nat) (W : World) : KC H Mb W W := ⟨fun _ _ _ => rfl,Nat.le_refl _⟩
theorem KC.t {H Mb : Nat} {A B C : World} (h : KC H Mb A B) (h2 : KC H Mb B C) : KC H Mb A C := ⟨fun j hj hn => (h2.1 j hj hn).trans (h.1 j hj hn),Nat.le_trans h.2 h2.2⟩
theorem KC.b {H Mb : Nat} (W : World) (l : Nat) (o o' : Obj) (hl : H <= l) (_h : W.heap[l]? = some o) (_h2 : o.isCells = false) (_h3 : o.isWalk = false) : KC H Mb W (W.putObj l o') := ⟨fun j hj _ => World.putObj_heap_other (by omega),by simp⟩
theorem KC.of {H Mb : Nat} {W W' : World} (h : Below W.heap.size W W') (hH : H <= W.heap.size) : KC H Mb W W' := ⟨fun j hj _ => h.block j (by omega),h.size⟩
theorem SR.kc {H Mb : Nat} {w w' : World} {B g : Nat} {L : List Nd} (h : SR w B g L) (hk : KC H Mb w w') (h1 : B < H /\ B ≠ Mb) (h2 : 0 < L.length -> g < H /\ g ≠ Mb) : SR w' B g L := h.keep hk.2 (hk.1 B h1.1 h1.2) (fun h0 => hk.1 g (h2 h0).1 (h2 h0).2)
abbrev ET (O : List Nat) := { t : Nat // t ∈ O }
def encT (L : List Nd) {O : List Nat} (x : ET O) : Array Value := #[.int .i64 (x.1 : Int),nodeV (L.getD (x.1 - 1) z0)]
theorem att_len (O : List Nat) (k : Nat) (h : k <= O.length) : (O.attach.take k).length = k := by simp; omega
theorem att_next {O : List Nat} {k : Nat} (h : k < O.length) : O.attach.take (k + 1) = O.attach.take k ++ [⟨O.getD k 0,by rw [List.getD_eq_getElem?_getD,List.getElem?_eq_getElem h]; exact List.getElem_mem h⟩] := by
  have hl : k < O.attach.length := by simpa using h
  rw [List.take_add_one,List.getElem?_eq_getElem hl]; simp only [Option.toList]
  congr 2
  apply Subtype.ext
  have e : O.getD k 0 = O[k] := by rw [List.getD_eq_getElem?_getD,List.getElem?_eq_getElem h]; rfl
  show (O.attach[k]).1 = O.getD k 0
  rw [e]
  simp
theorem nodes1_in (n : Nat) (hn : 1 <= n) (l Bs H Mb B g cp : Nat) (ad : Option Addr) (L : List Nd) (O : List Nat) (hall : ∀ t ∈ O,1 <= t /\ t <= L.length) (hOl : O.length <= 1000000000000) (hBs : Bs < H /\ Bs ≠ Mb) (hB : B < H /\ B ≠ Mb) (hg : 0 < L.length -> g < H /\ g ≠ Mb) (J Jx : List (ET O) -> World -> Prop) (hJ : ∀ s W W',J s W -> World.grownBy W W' none -> J s W')
    (hY : ∀ pre x W,J pre W -> pre.length < O.length -> YieldAt Fence.wide (n - 1) Tryz.prog l (encT L x) W fun e W' =>
      (e = .returned (.bool true) /\ J (pre ++ [x]) W' /\ KC H Mb W W') ∨ (e = .returned (.bool false) /\ Jx (pre ++ [x]) W'))
    (W : World) (hH : H <= W.heap.size) (hc0 : W.cell? ⟨Bs,0,none⟩ = some (.pointer (some ⟨B,0,none⟩))) (hc1 : W.cell? ⟨Bs,1,none⟩ = some (.slice ad O.length cp))
    (hO : 0 < O.length -> ∃ b o,ad = some ⟨b,o,none⟩ /\ (b < H /\ b ≠ Mb) /\ ∀ j,j < O.length -> W.cell? ⟨b,o + j,none⟩ = some (.int .i64 ((O.getD j 0 : Nat) : Int))) (hS : SR W B g L) (h0 : J [] W) :
    CallsIn Fence.wide n Tryz.prog 61 #[.func (.yield l) #[] #[],.pointer (some ⟨Bs,0,none⟩)] W fun e W' => (∃ v,e = .returned v) /\
      ((∃ ys,ys = O.attach /\ J ys W') ∨ (∃ pre : List (ET O),True /\ Jx pre W')) := by
  refine callsIn_of_wp Tryz.func61 rfl trivial ?_ rfl; simp only [Tryz.ntmps61,List.size_toArray,List.length_cons,List.length_nil,Nat.reduceAdd,Nat.reduceSub,Array.replicate_succ,Array.replicate_zero,List.push_toArray,List.append_toArray,List.nil_append,List.cons_append]; obtain ⟨len,hlen⟩ : ∃ len,O.length = len := ⟨_,rfl⟩; have HL : Hid (O.length = len) := hlen; rw [hlen] at hc1; have HO : Hid (0 < len -> ∃ b o,ad = some ⟨b,o,none⟩ /\ (b < H /\ b ≠ Mb) /\ ∀ j,j < len -> W.cell? ⟨b,o + j,none⟩ = some (.int .i64 ((O.getD j 0 : Nat) : Int))) := by rw [<- hlen]; exact hO
  have HS : Hid (SR W B g L) := hS; have HA : Hid (∀ t ∈ O,1 <= t /\ t <= L.length) := hall; rw [hlen] at hOl; clear hlen hO hS hall
  gi_wp2
  gi_loopw [10] (fun i wr => ∃ k : Nat,k <= len /\ i = .int .i64 (k : Int) /\ J (O.attach.take k) wr /\ KC H Mb W wr)
    (fun i _ => (len - (Lib.intOf i).toNat))
  case atStart => exact ⟨0,Nat.zero_le _,by simp,h0,KC.refl _ _ _⟩
  case round =>
    obtain ⟨k,hk,rfl,hJs,hnx⟩ := hrel
    by_cases hlt : k < len
    · obtain ⟨b,o,rfl,hb,hc⟩ := HO.out (by omega)
      have hcx := (World.cell?_of_block (w := W) (w' := wr) (a := ⟨b,o + k,none⟩) (hnx.1 b hb.1 hb.2)).trans (hc k hlt); have hs0 := (World.cell?_of_block (w := W) (w' := wr) (a := ⟨Bs,0,none⟩) (hnx.1 Bs hBs.1 hBs.2)).trans hc0; have hSR := HS.out.kc hnx hB hg; have q0 : (k : Int) < (len : Int) := by omega
      have hkO : k < O.length := by rw [HL.out]; exact hlt
      have hmem : O.getD k 0 ∈ O := by rw [List.getD_eq_getElem?_getD,List.getElem?_eq_getElem hkO]; exact List.getElem_mem hkO
      have hNx := att_next hkO; have hbd := HA.out _ hmem; obtain ⟨x,hx⟩ : ∃ x : ET O,x.1 = O.getD k 0 /\ O.attach.take (k + 1) = O.attach.take k ++ [x] := ⟨⟨O.getD k 0,hmem⟩,rfl,hNx⟩; clear hNx; have HX : Hid (O.attach.take (k + 1) = O.attach.take k ++ [x]) := hx.2; obtain ⟨i0,hi0⟩ : ∃ i0,O.getD k 0 = i0 + 1 := ⟨O.getD k 0 - 1,by omega⟩; have hx1 : x.1 = i0 + 1 := hx.1.trans hi0; rw [hi0] at hcx; clear hx hmem hc; have HN : Hid (Calls Tryz.prog 12 #[.pointer (some ⟨B,0,none⟩),.int .i64 ((i0 : Int) + 1)] wr fun e w' => e = .returned (.tuple #[nodeV (L.getD i0 z0),.int .i64 0]) /\ Below wr.heap.size wr w') := node9_any B g L i0 wr hSR (by omega); have HXE : Hid (encT L x = #[.int .i64 ((i0 : Int) + 1),nodeV (L.getD i0 z0)]) := by
        show encT L x = _
        unfold encT; rw [hx1]
        rfl
      have hcx' : wr.cell? ⟨b,o + k,none⟩ = some (.int .i64 ((i0 : Int) + 1)) := hcx; clear hcx hSR hx1 hi0 hbd
      generalize L.getD i0 z0 = nd at *
      obtain ⟨op,u,na,nb,nc,num,nm⟩ := nd; have HN' : Hid (Calls Tryz.prog 12 #[.pointer (some ⟨B,0,none⟩),.int .i64 ((i0 : Int) + 1)] wr fun e w' => e = .returned (.tuple #[.agg #[.int .i64 op,.int .i64 u,.int .i64 na,.int .i64 nb,.int .i64 nc,.int .u64 num,.string nm],.int .i64 0]) /\ Below wr.heap.size wr w') := HN.out; clear HN
      gi_wp2_with fail
      refine ⟨trivial,(callsIn_wide.2 HN'.out).mono ?_⟩; rintro e w2 ⟨rfl,hb2⟩; have hsz2 := hb2.size; have hHr : H <= wr.heap.size := Nat.le_trans hH hnx.2; have hb3 : Below wr.heap.size wr (w2.alloc (Obj.cells #[.int .i64 op,.int .i64 u,.int .i64 na,.int .i64 nb,.int .i64 nc,.int .u64 num,.string nm] 40 (0,0))) := hb2.trans (below_le' (bel1 w2 _) hsz2); have hJ3 := hJ _ _ _ hJs ⟨hb3.os,hb3.tape,hb3.output,hb3.size,fun j hj _ => hb3.block j hj⟩; have hk3 : KC H Mb W (w2.alloc (Obj.cells #[.int .i64 op,.int .i64 u,.int .i64 na,.int .i64 nb,.int .i64 nc,.int .u64 num,.string nm] 40 (0,0))) := hnx.t (KC.of hb3 hHr); obtain ⟨fn,tmps,assign,body,hy,hR⟩ := hY (O.attach.take k) x _ hJ3 (by rw [att_len O k (by omega)]; exact hkO); rw [HXE.out] at hy; have hy' : (Instr.yield l #[.int .i64 ((i0 : Int) + 1),.agg #[.int .i64 op,.int .i64 u,.int .i64 na,.int .i64 nb,.int .i64 nc,.int .u64 num,.string nm]]).run Tryz.prog (w2.alloc (Obj.cells #[.int .i64 op,.int .i64 u,.int .i64 na,.int .i64 nb,.int .i64 nc,.int .u64 num,.string nm] 40 (0,0))) = _ := hy; clear hy hb2 hJ3 hJs hb3
      gi_wp2
      refine hR.mono ?_; rintro e W3 (⟨rfl,hJ3,hk4⟩ | ⟨rfl,hJx3⟩)
      · gi_wp2
        go_roundw
        case rel => exact ⟨k + 1,by omega,by simp,by rw [HX.out]; exact hJ3,hk3.t hk4⟩
        case measure => (simp [Lib.intOf]; omega)
      gi_wp2
      refine bodyPost_ret (results_none rfl _ _ _) rfl ?_; exact ⟨⟨_,rfl⟩,.inr ⟨_,trivial,hJx3⟩⟩
    obtain rfl : k = len := by omega
    have q0 : ¬ (k : Int) < (k : Int) := by omega
    have ht : O.attach.take k = O.attach := by rw [<- HL.out]; exact List.take_of_length_le (by simp)
    rw [ht] at hJs
    gi_wp2
    go_end0
    refine ⟨⟨_,rfl⟩,.inl ?_⟩
    first | exact hJs | exact ⟨_,rfl,hJs⟩
theorem nodes_in (v : Value) (a : Option Addr) (n cp : Nat) (w : World) : Calls Tryz.prog 37 #[.agg #[v,.slice a n cp]] w fun e w' => e = .returned (.func (.func 61) #[] #[.pointer (some ⟨w.heap.size,0,none⟩)]) /\ w' = w.alloc (.cells #[v,.slice a n cp] 68) := by
  go_enter Tryz.func37,Tryz.ntmps37
  go_wp2
  go_ret
  exact ⟨rfl,rfl⟩
theorem nodes_stops (n : Nat) (hn : 1 <= n) (Bs Mb B g cp : Nat) (ad : Option Addr) (L : List Nd) (O : List Nat) (hall : ∀ t ∈ O,1 <= t /\ t <= L.length) (hOl : O.length <= 1000000000000) (w : World) (hBs : Bs < w.heap.size /\ Bs ≠ Mb) (hB : B ≠ Mb) (hg : 0 < L.length -> g ≠ Mb)
    (hc0 : w.cell? ⟨Bs,0,none⟩ = some (.pointer (some ⟨B,0,none⟩))) (hc1 : w.cell? ⟨Bs,1,none⟩ = some (.slice ad O.length cp)) (hO : OR w ad O) (hbO : 0 < O.length -> ∀ b o,ad = some ⟨b,o,none⟩ -> b ≠ Mb) (hS : SR w B g L) :
    SeqStopsK Fence.wide n Tryz.prog 61 #[.pointer (some ⟨Bs,0,none⟩)] (encT L (O := O)) (KC w.heap.size Mb) (fun ys => ys = O.attach) (fun _ => True) O.length w := fun l J Jx W hW hJ _ hY h0 => by
  have hc0' := (hW.cell (p := ⟨Bs,0,none⟩) hBs.1).trans hc0; have hc1' := (hW.cell (p := ⟨Bs,1,none⟩) hBs.1).trans hc1; refine nodes1_in n hn l Bs w.heap.size Mb B g cp ad L O hall hOl hBs ⟨hS.bl,hB⟩ (fun h0 => ⟨hS.gl h0,hg h0⟩) J Jx (fun s A A' hs hg2 => hJ s A A' none hs hg2 (fun r e => by cases e)) hY W hW.size hc0' hc1' (fun h0 => ?_) (hS.below hW) h0; obtain ⟨b,o,e,hb,hc⟩ := hO h0; exact ⟨b,o,e,⟨hb,hbO h0 b o e⟩,fun j hj => (hW.cell (p := ⟨b,o + j,none⟩) hb).trans (hc j hj)⟩
end Go.Proofs.YtkpapgfbnledpaaGreatDoor
namespace Go.Proofs.YtkpapgfbnledpaaGreatDoor

def noDefer (ops : Array Oper) : Bool := ops.all fun o => match o.op with
  | .defer _ => false
  | _ => true
theorem noDefer.at {ops : Array Oper} (h : noDefer ops = true) {i : Nat} {o : Oper} (ho : ops[i]? = some o) : ∀ c,o.op ≠ .defer c := fun c e => by
  have h1 := Array.all_eq_true.1 h i (Array.getElem?_eq_some_iff.1 ho).1; rw [(Array.getElem?_eq_some_iff.1 ho).2,e] at h1; cases h1
section
variable {P : Program} {ops : Array Oper} {Q : Exit -> Act -> World -> Prop}
theorem rows_round {row : String} {args : Array Value} {w : World} {R : Value -> World -> Prop} {n lp : Nat} (h : Rows P row args w R) : RowsIn (Fence.wide.inRound lp) n P row args w R := fun c cs _ => by
  obtain ⟨v,w',r,s⟩ := h c cs; exact ⟨v,w',r,stepsIn_wide.2 s⟩
theorem upon_round {o : Oper} {a : Act} {next next' : Act -> World -> Prop} {n lp : Nat} (hn : ∀ a w,next a w -> next' a w) {r : Result Next} (h : o.upon P a next Q r) : o.uponIn (Fence.wide.inRound lp) n P a next' Q r := by
  cases r with
  | ok x w' =>
    cases x with
    | value v => exact hn _ _ h
    | skip => exact hn _ _ h
    | defer d => exact hn _ _ h
    | enter f args =>
      refine ⟨fun h => (by cases h),?_⟩; have h2 : Calls P f args w' _ := h; refine CallsIn.inRound lp (callsIn_wide.2 (h2.mono ?_)); intro e w'' he; cases e with
      | returned v => exact hn _ _ he
      | panicked c => exact he
      | outgrown => exact he
    | row row args =>
      refine ⟨fun h => (by cases h),rows_round ?_⟩; have h2 : Rows P row args w' _ := h; exact h2.mono (fun v w'' he => hn _ _ he)
    | _ => exact (h : False).elim
  | halt x w' =>
    cases x with
    | panic v => exact h
    | _ => exact (h : False).elim
theorem ops_round {n lp : Nat} (hd : noDefer ops = true) (hQ : ¬ LetsOut Q) : ∀ (l : List Nat) (a : Act) (w : World),wpOps P ops Q l a w -> wpOpsIn (Fence.wide.inRound lp) n P ops Q l a w := by
  intro l
  induction l with
  | nil => exact fun a w h => h
  | cons i rest ih =>
    intro a w h; simp only [wpOps] at h; simp only [wpOpsIn]; cases ho : ops[i]? with
    | none =>
      rw [ho] at h; exact ih a w h
    | some o =>
      rw [ho] at h; simp only [] at h ⊢
      by_cases hw : Region.wanted o (yielded ops a.tmps) = true
      · rw [if_pos hw] at h ⊢
        rcases h with h | h
        · refine ⟨fun f _ => trivial,?_⟩
          rw [Fence.inRound_round,Oper.semAt_eq (some lp) a.eval o (noDefer.at hd ho)]; exact upon_round ih h
        exact absurd h.2 hQ
      rw [if_neg hw] at h ⊢; exact ⟨fun f _ => trivial,ih _ _ h⟩
theorem region_round {id n lp : Nat} {a : Act} {w : World} {S : World -> Prop} (hm : P.follows .mixedOrders = true) (hd : noDefer ops = true) (hQ : ¬ LetsOut Q) (hS : S w.drew)
    (h : S w.drew -> wpAnyH P .any ops Q S ops.size (Array.replicate ops.size false) a w.drew) : (Code.region id ops true).wpIn (Fence.wide.inRound lp) n P Q a w :=
  wpIn_region_draw fun t => by
    simp only [Region.schedule,hm,Bool.true_or,if_true]; exact ops_round hd hQ _ _ _ (wpAny_sound ops.size t _ a _ (wpAny_of_held _ _ _ _ (h hS)))
end
end Go.Proofs.YtkpapgfbnledpaaGreatDoor
namespace Go.Proofs.YtkpapgfbnledpaaGreatDoor
open Go.ChangeShapes Go.WideShapes Go.ChangeAt Go.RowKit Go.Lib Go.Tm Go.Bw Go.Bn Go.WideMaps Go.Maps Go.ChangeMaps

theorem sq_round {P : Program} {L : List Oper} {Q : Exit -> Act -> World -> Prop} {a : Act} {w : World} {id n lp : Nat} (S : World -> Prop) (cs l : List Nat) (hm : P.follows .mixedOrders = true) (hd : noDefer L.toArray = true) (hQ : ¬ LetsOut Q) (hc : (Region.noSelect L.toArray && (l.length == L.toArray.size && chq L.toArray cs (Array.replicate L.toArray.size false) l)) = true) (hS : S w.drew) (h : SQ P L Q S cs l a w.drew) : (Code.region id L.toArray true).wpIn (Fence.wide.inRound lp) n P Q a w :=
  region_round hm hd hQ hS (fun hS => sq_of cs l hc hS h)
theorem or_row {w : World} {B : Nat} {v : Value} {o : List Nat} (h : w.ownsRow B 3 1 v o.length (natV o)) : ∃ ad c,v = .slice ad o.length c /\ OR w ad o /\ ∀ b k,ad = some ⟨b,k,none⟩ -> 0 < o.length -> B <= b := by
  obtain ⟨ad,c,rfl,hg⟩ := row_form h; refine ⟨ad,c,rfl,fun h0 => ?_,fun b k e h0 => ?_⟩
  · obtain ⟨g,rfl⟩ := hg h0
    refine ⟨g,0,rfl,(h.lt g rfl).2,fun j hj => ?_⟩; rw [Nat.zero_add,h.cellAt j (by omega),natV_at hj]
  obtain ⟨g,rfl⟩ := hg h0; cases e; exact (h.lt _ rfl).1
theorem coneOf_ok (B0 B : Nat) (lim : Int) (L : List Nd) (v : Value) (M1 M2 : Option Nat) {ad : Option Addr} {cp : Nat} {xs : List Int} (w : World) (hS : SM 78 w B0 B lim L v M1 M2) (hP : PAR L) (h : IR w ad xs) (hl : xs.length < 1000000000000000) (hr : ∀ x ∈ xs,isT L x = true) :
    Calls Tryz.prog 26 #[.pointer (some ⟨B,0,none⟩),.slice ad xs.length cp] w fun e w' => ∃ aO cO,e = .returned (.tuple #[.agg #[.pointer (some ⟨B,0,none⟩),.slice aO (og L [] (toN xs)).length cO],.int .i64 0]) /\ Below w.heap.size w w' /\ OR w' aO (og L [] (toN xs)) := by
  have HOk : Hid (∀ W,Below w.heap.size w W -> Calls Tryz.prog 44 #[.pointer (some ⟨B,0,none⟩),.slice ad xs.length cp] W (OrdP W L xs)) := fun W hb => order_ok (cp := cp) B0 B lim L v M1 M2 W (hS.below hb) hP (h.below hb) hl hr
  clear hS hP h hr; unfold OrdP at HOk
  generalize og L [] (toN xs) = O at *
  generalize xs.length = q at *
  go_enter Tryz.func26,Tryz.ntmps26
  go_wp2_with fail
  have HZ : Hid ((w.alloc (Obj.cells #[.pointer none,.slice none 0 0] 68 (0,0))).heap[w.heap.size]? = some (Obj.cells #[.pointer none,.slice none 0 0] 68 (0,0))) := heap_alloc_new w _; refine (HOk.out _ (bel1 _ _)).mono ?_; rintro e w5 ⟨vO,rfl,hb5,ho5⟩; obtain ⟨aO,cO,hvO,hOR,hge⟩ := or_row ho5; subst hvO; have hh := (hb5.block w.heap.size (by simp)).trans HZ.out; have HB5 : Hid (Below w.heap.size w w5 /\ OR w5 aO O) := ⟨(bel1 w _).trans (below_le' hb5 (by simp)),hOR⟩; have k0 : w5.cell? ⟨w.heap.size,0,none⟩ = some (.pointer none) := blk_cell hh 0; have k1 : w5.cell? ⟨w.heap.size,1,none⟩ = some (.slice none 0 0) := blk_cell hh 1; have f0 : w5.frozen? ⟨w.heap.size,0,none⟩ = false := by simp [World.frozen?,hh]
  have f1 : w5.frozen? ⟨w.heap.size,1,none⟩ = false := by simp [World.frozen?,hh]
  have HH : Hid (w5.heap[w.heap.size]? = some (Obj.cells #[.pointer none,.slice none 0 0] 68 (0,0))) := hh; have hsz : w.heap.size < w5.heap.size := (Array.getElem?_eq_some_iff.1 hh).1; have HGE : Hid (∀ b k,aO = some ⟨b,k,none⟩ -> 0 < O.length -> w.heap.size + 1 <= b) := fun b k e h0 => by have := hge b k e h0; simpa using this
  clear hb5 ho5 hOR hh HOk HZ hge
  go_wp2_with fail
  have hf : ((w5.setCell ⟨w.heap.size,0,none⟩ (.pointer (some ⟨B,0,none⟩))).setCell ⟨w.heap.size,1,none⟩ (.slice aO O.length cO)).heap[w.heap.size]? = some (Obj.cells #[.pointer (some ⟨B,0,none⟩),.slice aO O.length cO] 68 (0,0)) :=
    (heap_setCell_same _ _ _ _ _ _ (heap_setCell_same _ _ _ _ _ _ HH.out)).trans rfl
  refine bodyPost_ret (v := .tuple #[.agg #[.pointer (some ⟨B,0,none⟩),.slice aO O.length cO],.int .i64 0]) (res_row (p := 4) (u := 5) rfl _ _ w.heap.size 68 _ (0,0) _ _ rfl hf rfl Tryz.underlying68 rfl (by kernel_rfl)) rfl ?_; refine ⟨aO,cO,rfl,below_set (below_set HB5.out.1 (Nat.le_refl _) _) (Nat.le_refl _) _,fun h0 => ?_⟩; obtain ⟨b,o,e,hb,hc⟩ := HB5.out.2 h0; have hbn : b ≠ w.heap.size := by
    have := HGE.out b o e h0
    omega
  exact ⟨b,o,e,by simpa using hb,fun j hj => (World.cell?_of_block (a := ⟨b,o + j,none⟩) ((heap_setCell_other _ _ _ _ hbn).trans (heap_setCell_other _ _ _ _ hbn))).trans (hc j hj)⟩
end Go.Proofs.YtkpapgfbnledpaaGreatDoor
namespace Go.Proofs.YtkpapgfbnledpaaGreatDoor
open Go.ChangeShapes Go.WideShapes Go.ChangeAt Go.RowKit Go.Lib Go.Tm Go.Bw Go.Bn Go.WideMaps Go.Maps Go.ChangeMaps

structure UL (w : World) (g n : Nat) (f : Nat -> Nat) : Prop where
  blk : ∃ A,w.heap[g]? = some (.cells A 36 (0,0)) /\ A.size = n /\ ∀ i,i < n -> A[i]? = some (.int .u64 ((f i : Nat) : Int))
theorem UL.lt {w : World} {g n : Nat} {f : Nat -> Nat} (h : UL w g n f) : g < w.heap.size := by
  obtain ⟨A,hA,_⟩ := h.blk; exact (Array.getElem?_eq_some_iff.1 hA).1
theorem UL.keep {w w' : World} {g n : Nat} {f : Nat -> Nat} (h : UL w g n f) (hb : w'.heap[g]? = w.heap[g]?) : UL w' g n f := by
  obtain ⟨A,hA,h1⟩ := h.blk; exact ⟨A,hb.trans hA,h1⟩
theorem UL.below {w w' : World} {g n : Nat} {f : Nat -> Nat} (h : UL w g n f) (hb : Below w.heap.size w w') : UL w' g n f := h.keep (hb.block g h.lt)
theorem UL.at_ {w : World} {g n : Nat} {f : Nat -> Nat} (h : UL w g n f) {i : Nat} (hi : i < n) : w.cell? ⟨g,i,none⟩ = some (.int .u64 ((f i : Nat) : Int)) /\ w.frozen? ⟨g,i,none⟩ = false := by
  obtain ⟨A,hA,h1,h2⟩ := h.blk; exact ⟨(blk_cell hA _).trans (h2 i hi),by simp [World.frozen?,hA]⟩
theorem UL.put {w : World} {g n : Nat} {f : Nat -> Nat} (h : UL w g n f) {i : Nat} (z : Nat) (hi : i < n) : UL (w.setCell ⟨g,i,none⟩ (.int .u64 ((z : Nat) : Int))) g n (fun y => if y = i then z else f y) := by
  obtain ⟨A,hA,h1,h2⟩ := h.blk; refine ⟨_,heap_setCell_same _ _ _ _ _ _ hA,by simpa using h1,fun k hk => ?_⟩
  by_cases e : k = i
  · subst e
    rw [if_pos rfl,Array.getElem?_setIfInBounds_self_of_lt (by omega)]
  rw [if_neg e,Array.getElem?_setIfInBounds_ne (by omega)]; exact h2 k hk
theorem grown_put1 (w : World) (g i : Nat) (u : Value) (a : Obj) : w.grownBy ((w.setCell ⟨g,i,none⟩ u).alloc a) (some g) := by
  refine ⟨rfl,rfl,rfl,by simp,fun k hk hn => ?_⟩; have hne : k ≠ g := fun e => hn (by rw [e])
  rw [Below.heap_alloc _ _ _ (by simpa using hk)]; exact heap_setCell_other _ _ _ _ hne
theorem uat_any (g n : Nat) (f : Nat -> Nat) (i : Nat) (w : World) (h : UL w g n f) (hi : i < n) : Calls Tryz.prog 62 #[zN g n,.int .i64 (i : Int)] w fun e w' => e = .returned (.int .u64 ((f i : Nat) : Int)) /\ Below w.heap.size w w' := by
  obtain ⟨h1,-⟩ := (h.below (bel1 w (Obj.cells #[.slice (some ⟨g,0,none⟩) n n,.map none] 95 (0,0)))).at_ hi; unfold zN
  generalize ((f i : Nat) : Int) = x at *
  have q1 : (i : Int) < (n : Int) := by omega
  have qT : ∀ (w : World) (r : Option Nat),(binOp .neq 93 (.map r) (.map none)).run Tryz.prog w = .ok (.bool (!r.isNone)) w := fun w r => run_neq_map_nil w _ _ _ r Tryz.underlying93
  have hl := h.lt; clear h
  go_enter Tryz.func62,Tryz.ntmps62
  go_wp2
  go_ret
  exact ⟨rfl,bel1 _ _⟩
theorem uset_any (g n : Nat) (f : Nat -> Nat) (i z : Nat) (w : World) (h : UL w g n f) (hi : i < n) : Calls Tryz.prog 38 #[zN g n,.int .i64 (i : Int),.int .u64 (z : Int)] w fun e w' => e = .returned (.tuple #[]) /\ UL w' g n (fun y => if y = i then z else f y) /\ w.grownBy w' (some g) := by
  unfold zN; have HZ : Hid (UL ((w.setCell ⟨g,i,none⟩ (.int .u64 ((z : Nat) : Int))).alloc (Obj.cells #[.slice (some ⟨g,0,none⟩) n n,.map none] 95 (0,0))) g n (fun y => if y = i then z else f y) /\ w.grownBy ((w.setCell ⟨g,i,none⟩ (.int .u64 ((z : Nat) : Int))).alloc (Obj.cells #[.slice (some ⟨g,0,none⟩) n n,.map none] 95 (0,0))) (some g)) :=
    ⟨(h.put z hi).below (bel1 _ _),grown_put1 w g _ _ _⟩
  obtain ⟨h1,h2⟩ := (h.below (bel1 w (Obj.cells #[.slice (some ⟨g,0,none⟩) n n,.map none] 95 (0,0)))).at_ hi; obtain ⟨h5,h6⟩ := h.at_ hi; have hl := h.lt; clear h
  generalize (fun y => if y = i then z else f y) = f2 at *
  generalize ((f i : Nat) : Int) = u1 at *
  generalize ((z : Nat) : Int) = x at *
  have q1 : (i : Int) < (n : Int) := by omega
  have qT : ∀ (w : World) (r : Option Nat),(binOp .neq 93 (.map r) (.map none)).run Tryz.prog w = .ok (.bool (!r.isNone)) w := fun w r => run_neq_map_nil w _ _ _ r Tryz.underlying93
  go_enter Tryz.func38,Tryz.ntmps38
  go_wp2_with fail
  first
    | exact ⟨rfl,HZ.out⟩
    | (go_end0; exact ⟨rfl,HZ.out⟩)
    | (go_ret; exact ⟨rfl,HZ.out⟩)
theorem umade (w : World) (n : Nat) : UL (w.alloc (.cells (madeCells #[.int .u64 0] (n * 1)) 36)) w.heap.size n (fun _ => 0) := by
  refine ⟨_,heap_alloc_new w _,by simp [madeCells],fun i hi => ?_⟩; unfold madeCells; rw [Array.getElem?_map,Array.getElem?_range,if_pos (by omega)]
  simp
  try (have e1 : i % 1 = 0 := by omega
       simp [e1])
theorem unew_any {ad : Option Addr} {cp : Nat} {O : List Nat} (w : World) (h : OR w ad O) (hd : mxN O / 16 <= O.length) (hm : mxN O <= 1000000000000) (hl : O.length <= 1000000000000) : Calls Tryz.prog 36 #[.slice ad O.length cp] w fun e w' => ∃ g,e = .returned (zN g (mxN O + 1)) /\ UL w' g (mxN O + 1) (fun _ => 0) /\ Below w.heap.size w w' /\ w.heap.size <= g := by
  generalize hPP : (fun (e : Ending) (w' : World) => ∃ g,e = .returned (zN g (mxN O + 1)) /\ UL w' g (mxN O + 1) (fun _ => 0) /\ Below w.heap.size w w' /\ w.heap.size <= g) = PP
  have HPP : Hid (∀ g w',UL w' g (mxN O + 1) (fun _ => 0) -> Below w.heap.size w w' -> w.heap.size <= g -> PP (.returned (zN g (mxN O + 1))) w') := fun g w' h1 h2 h3 => by rw [<- hPP]; exact ⟨g,rfl,h1,h2,h3⟩
  clear hPP; obtain ⟨k,hk⟩ : ∃ k,O.length = k := ⟨_,rfl⟩; have HK : Hid (O.length = k) := hk; obtain ⟨W0,hW0⟩ : ∃ W0,w.alloc (Obj.cells #[.slice none 0 0,.map none] 95) = W0 := ⟨_,rfl⟩; have HW : Hid (Below w.heap.size w W0 /\ W0.heap[w.heap.size]? = some (Obj.cells #[.slice none 0 0,.map none] 95 (0,0)) /\ W0.heap.size = w.heap.size + 1) := by rw [<- hW0]; exact ⟨bel1 _ _,heap_alloc_new _ _,by simp⟩
  have HO : Hid (OR W0 ad O) := h.below HW.out.1; have HB : Hid (mxN O / 16 <= k /\ mxN O <= 1000000000000) := ⟨by rw [<- hk]; exact hd,hm⟩; rw [hk] at hl ⊢; clear hk h hd hm
  go_enter Tryz.func36,Tryz.ntmps36
  go_wp2_with fail
  try rw [hW0]
  clear hW0
  go_loopg [3,8] k (fun gk s3 s8 wr => ∃ i : Nat,s8 = .int .i64 (i : Int) /\ i + gk = k /\ s3 = .int .i64 ((mxN (O.take i) : Nat) : Int) /\ wr = W0)
  case atStart => exact ⟨0,rfl,by omega,rfl,rfl⟩
  case round =>
    obtain ⟨i,rfl,hi,rfl,rfl⟩ := hrel
    by_cases hlt : i < k
    · obtain ⟨b,o,rfl,hbl,hc⟩ := HO.out (by rw [HK.out]; omega)
      have c1 := hc i (by rw [HK.out]; exact hlt); have q1 : (i : Int) < (k : Int) := by omega
      have e1 : max ((mxN (O.take i) : Nat) : Int) ((O.getD i 0 : Nat) : Int) = ((mxN (O.take (i + 1)) : Nat) : Int) := by
        rw [take_nat (by rw [HK.out]; exact hlt),mxN_snoc]
        by_cases h : mxN (O.take i) < O.getD i 0
        · rw [if_pos h]; omega
        rw [if_neg h]; omega
      have HE : Hid (max ((mxN (O.take i) : Nat) : Int) ((O.getD i 0 : Nat) : Int) = ((mxN (O.take (i + 1)) : Nat) : Int)) := e1; clear e1 hc; obtain ⟨x,hx⟩ : ∃ x : Int,((O.getD i 0 : Nat) : Int) = x := ⟨_,rfl⟩; obtain ⟨m,hm⟩ : ∃ m : Int,((mxN (O.take i) : Nat) : Int) = m := ⟨_,rfl⟩; rw [hx] at c1 HE; rw [hm] at HE ⊢; clear hx hm
      go_wp2_with fail
      go_roundg (gk - 1)
      case measure => omega
      case rel => exact ⟨i + 1,by simp,by omega,by rw [HE.out],rfl⟩
    have hik : i = k := by omega
    subst hik; have ht : O.take i = O := by rw [<- HK.out,List.take_length]
    rw [ht]; clear ht; obtain ⟨m,hm⟩ : ∃ m : Nat,mxN O = m := ⟨_,rfl⟩; rw [hm] at HPP HB ⊢; have hb1 := HB.out.1; have hb2 := HB.out.2; have q1 : (m : Int) / 16 <= (i : Int) := by omega
    have q2 : IntKind.i64.wrap ((m : Int) + 1) = ((m + 1 : Nat) : Int) := by simp [IntKind.wrap,IntKind.bits,IntKind.signed]; omega
    have k0 : wr.cell? ⟨w.heap.size,0,none⟩ = some (.slice none 0 0) := blk_cell HW.out.2.1 0; have k1 : wr.cell? ⟨w.heap.size,1,none⟩ = some (.map none) := blk_cell HW.out.2.1 1; have f0 : wr.frozen? ⟨w.heap.size,0,none⟩ = false := by simp [World.frozen?,HW.out.2.1]
    have f1 : wr.frozen? ⟨w.heap.size,1,none⟩ = false := by simp [World.frozen?,HW.out.2.1]
    clear hm; obtain ⟨i0,hi0,hz0,hz1,hz2⟩ := info_parts (P := Tryz.prog) (e := 36) (z := .int .u64 0) (size := 1) (bytes := 8) (by kernel_rfl); have eM : ∀ W : World,(Instr.makeSlice 22 (.int .i64 ((m : Int) + 1)) (.int .i64 ((m : Int) + 1))).run Tryz.prog W = .ok (.slice (some ⟨W.heap.size,0,none⟩) (m + 1) (m + 1)) (W.alloc (.cells (madeCells (Value.int .u64 0).cells ((m + 1) * 1)) 36)) := fun W => by
      have h7 := run_make (P := Tryz.prog) (w := W) 22 36 i0 (.int .u64 0) Tryz.underlying22 hi0 hz0 .i64 .i64 ((m : Int) + 1) ((m : Int) + 1) (by omega) (by omega) (by rw [hz2]; omega) (by omega); rw [hz1] at h7; exact h7
    have hls : w.heap.size < wr.heap.size := by rw [HW.out.2.2]; omega
    have hne : ¬ w.heap.size = wr.heap.size := by omega
    go_wp2_with fail
    obtain ⟨w2,hw2⟩ : ∃ w2,((wr.setCell ⟨w.heap.size,0,none⟩ (.slice (some ⟨wr.heap.size,0,none⟩) (m + 1) (m + 1))).setCell ⟨w.heap.size,1,none⟩ (.map none)) = w2 := ⟨_,rfl⟩; have hz9 : w2.heap.size = wr.heap.size := by rw [<- hw2]; simp
    have hh : w2.heap[w.heap.size]? = some (Obj.cells #[.slice (some ⟨wr.heap.size,0,none⟩) (m + 1) (m + 1),.map none] 95 (0,0)) := by
      rw [<- hw2]; exact (heap_setCell_same _ _ _ _ _ _ (heap_setCell_same _ _ _ _ _ _ HW.out.2.1)).trans rfl
    have hb2 : Below w.heap.size w w2 := by
      rw [<- hw2]; exact below_set (below_set HW.out.1 (Nat.le_refl _) _) (Nat.le_refl _) _
    rw [hw2]; refine bodyPost_ret (v := .agg #[.slice (some ⟨wr.heap.size,0,none⟩) (m + 1) (m + 1),.map none]) (res_one (p := 2) rfl _ _ w.heap.size 95 _ (0,0) _ rfl ((Below.heap_alloc _ _ _ (by rw [hz9]; exact hls)).trans hh) Tryz.underlying95 rfl (by kernel_rfl)) rfl ?_; have hz := umade w2 (m + 1); simp only [Nat.mul_one] at hz; rw [hz9] at hz; exact HPP.out _ _ hz (hb2.trans (below_le' (bel1 w2 _) (by rw [hz9]; omega))) (by omega)
theorem UL.new_below {B : Nat} {w w' : World} {g n : Nat} {f : Nat -> Nat} (h : UL w g n f) (hb : Below B w w') (hg : g < B) : UL w' g n f := h.keep (hb.block g hg)
theorem uall_any (g n : Nat) (f : Nat -> Nat) {ad : Option Addr} {cp : Nat} {xs : List Int} (w : World) (h : UL w g n f) (hI : IR w ad xs) (hx : ∀ x ∈ xs,0 <= x /\ x.toNat < n) (hl : xs.length <= 1000000000000) : Calls Tryz.prog 40 #[zN g n,.slice ad xs.length cp] w fun e w' => ∃ g2,e = .returned (.slice (some ⟨g2,0,none⟩) xs.length xs.length) /\ UL w' g2 xs.length (fun j => f (xs.getD j 0).toNat) /\ Below w.heap.size w w' /\ w.heap.size <= g2 := by
  generalize hPP : (fun (e : Ending) (w' : World) => ∃ g2,e = .returned (.slice (some ⟨g2,0,none⟩) xs.length xs.length) /\ UL w' g2 xs.length (fun j => f (xs.getD j 0).toNat) /\ Below w.heap.size w w' /\ w.heap.size <= g2) = PP
  obtain ⟨k,hk⟩ : ∃ k,xs.length = k := ⟨_,rfl⟩; have HPP : Hid (∀ g2 w',UL w' g2 k (fun j => f (xs.getD j 0).toNat) -> Below w.heap.size w w' -> w.heap.size <= g2 -> PP (.returned (.slice (some ⟨g2,0,none⟩) k k)) w') := fun g2 w' h1 h2 h3 => by rw [<- hPP]; subst hk; exact ⟨g2,rfl,h1,h2,h3⟩
  clear hPP; have HK : Hid (xs.length = k) := hk; have HU : Hid (UL w g n f) := h; have HIR : Hid (IR w ad xs) := hI; have HX : Hid (∀ x ∈ xs,0 <= x /\ x.toNat < n) := hx; rw [hk] at hl ⊢; have hgl := h.lt; clear hk h hI hx; unfold zN; obtain ⟨i0,hi0,hz0,hz1,hz2⟩ := info_parts (P := Tryz.prog) (e := 36) (z := .int .u64 0) (size := 1) (bytes := 8) (by kernel_rfl); have eM : ∀ W : World,(Instr.makeSlice 22 (.int .i64 (k : Int)) (.int .i64 (k : Int))).run Tryz.prog W = .ok (.slice (some ⟨W.heap.size,0,none⟩) k k) (W.alloc (.cells (madeCells (Value.int .u64 0).cells (k * 1)) 36)) := fun W => by
    have h7 := run_make (P := Tryz.prog) (w := W) 22 36 i0 (.int .u64 0) Tryz.underlying22 hi0 hz0 .i64 .i64 (k : Int) (k : Int) (by omega) (by omega) (by rw [hz2]; omega) (by omega); rw [hz1] at h7; exact h7
  go_enter Tryz.func40,Tryz.ntmps40
  go_wp2_with fail
  clear eM; have h0s : (w.alloc (Obj.cells #[.slice (some ⟨g,0,none⟩) n n,.map none] 95 (0,0))).heap.size = w.heap.size + 1 := by simp
  try simp only [Nat.mul_one]
  try rw [h0s]
  obtain ⟨W0,hW0⟩ : ∃ W0,((w.alloc (Obj.cells #[.slice (some ⟨g,0,none⟩) n n,.map none] 95 (0,0))).alloc (.cells (madeCells #[.int .u64 0] k) 36)) = W0 := ⟨_,rfl⟩; have HW : Hid (Below w.heap.size w W0 /\ W0.heap[w.heap.size]? = some (Obj.cells #[.slice (some ⟨g,0,none⟩) n n,.map none] 95 (0,0)) /\ UL W0 (w.heap.size + 1) k (fun j => if j < 0 then f (xs.getD j 0).toNat else 0)) := by
    rw [<- hW0]; refine ⟨bel2 _ _ _,(Below.heap_alloc _ _ _ (by simp)).trans (heap_alloc_new _ _),?_⟩; have h9 := umade (w.alloc (Obj.cells #[.slice (some ⟨g,0,none⟩) n n,.map none] 95 (0,0))) k; rw [h0s,Nat.mul_one] at h9
    simpa using h9
  try rw [hW0]
  clear hW0 h0s
  go_loopg [13] k (fun gk s13 wr => ∃ i : Nat,s13 = .int .i64 (i : Int) /\ i + gk = k /\ Below w.heap.size w wr /\ wr.heap[w.heap.size]? = some (Obj.cells #[.slice (some ⟨g,0,none⟩) n n,.map none] 95 (0,0)) /\ UL wr (w.heap.size + 1) k (fun j => if j < i then f (xs.getD j 0).toNat else 0))
  case atStart => exact ⟨0,rfl,by omega,HW.out⟩
  case round =>
    obtain ⟨i,rfl,hi,hb,hbx,hu⟩ := hrel; have HR : Hid (Below w.heap.size w wr /\ wr.heap[w.heap.size]? = some (Obj.cells #[.slice (some ⟨g,0,none⟩) n n,.map none] 95 (0,0)) /\ UL wr (w.heap.size + 1) k (fun j => if j < i then f (xs.getD j 0).toNat else 0)) := ⟨hb,hbx,hu⟩; clear hb hbx hu
    by_cases hlt : i < k
    · obtain ⟨b,o,rfl,hbl,hc⟩ := (HIR.out.below HR.out.1) (by rw [HK.out]; omega)
      have c1 := hc i (by rw [HK.out]; exact hlt); have q1 : (i : Int) < (k : Int) := by omega
      have k0 : wr.cell? ⟨w.heap.size,0,none⟩ = some (.slice (some ⟨g,0,none⟩) n n) := blk_cell HR.out.2.1 0; have k1 : wr.cell? ⟨w.heap.size,1,none⟩ = some (.map none) := blk_cell HR.out.2.1 1; have hxm : xs.getD i 0 ∈ xs := by rw [List.getD_eq_getElem?_getD,List.getElem?_eq_getElem (by rw [HK.out]; exact hlt)]; exact List.getElem_mem _
      have HA : Hid (Calls Tryz.prog 62 #[.agg #[.slice (some ⟨g,0,none⟩) n n,.map none],.int .i64 (xs.getD i 0)] wr fun e w' => e = .returned (.int .u64 ((f (xs.getD i 0).toNat : Nat) : Int)) /\ Below wr.heap.size wr w') := by
        have h9 := uat_any g n f (xs.getD i 0).toNat wr (HU.out.below HR.out.1) (HX.out _ hxm).2; rw [Int.toNat_of_nonneg (HX.out _ hxm).1] at h9; exact h9
      have HF : Hid (∀ W,Below wr.heap.size wr W -> Below w.heap.size w (W.setCell ⟨w.heap.size + 1,i,none⟩ (.int .u64 ((f (xs.getD i 0).toNat : Nat) : Int))) /\ (W.setCell ⟨w.heap.size + 1,i,none⟩ (.int .u64 ((f (xs.getD i 0).toNat : Nat) : Int))).heap[w.heap.size]? = some (Obj.cells #[.slice (some ⟨g,0,none⟩) n n,.map none] 95 (0,0)) /\ UL (W.setCell ⟨w.heap.size + 1,i,none⟩ (.int .u64 ((f (xs.getD i 0).toNat : Nat) : Int))) (w.heap.size + 1) k (fun j => if j < i + 1 then f (xs.getD j 0).toNat else 0)) := fun W hb => by
        refine ⟨below_set (HR.out.1.trans (below_le' hb HR.out.1.size)) (show w.heap.size <= w.heap.size + 1 by omega) _,((heap_setCell_other _ _ _ _ (show w.heap.size ≠ w.heap.size + 1 by omega)).trans (hb.block _ (Array.getElem?_eq_some_iff.1 HR.out.2.1).1)).trans HR.out.2.1,?_⟩; have h9 := (HR.out.2.2.below hb).put (f (xs.getD i 0).toNat) hlt; have e : (fun y => if y = i then f (xs.getD i 0).toNat else if y < i then f (xs.getD y 0).toNat else 0) = (fun j => if j < i + 1 then f (xs.getD j 0).toNat else 0) := by
          funext y
          by_cases h1 : y = i
          · subst h1; rw [if_pos rfl,if_pos (by omega)]
          rw [if_neg h1]
          by_cases h2 : y < i
          · rw [if_pos h2,if_pos (by omega)]
          rw [if_neg h2,if_neg (by omega)]
        rw [<- e]; exact h9
      clear hc
      generalize ((f (xs.getD i 0).toNat : Nat) : Int) = fx at *
      generalize xs.getD i 0 = x at *
      go_wp2_with fail
      refine HA.out.mono ?_; rintro e w5 ⟨rfl,hb5⟩; have HF5 := HF.out _ hb5; obtain ⟨u1,u2⟩ := (HR.out.2.2.below hb5).at_ hlt; have HF6 : Hid _ := HF5; clear HF5 HF HA hb5 HR
      go_wp2_with fail
      go_roundg (gk - 1)
      case measure => omega
      case rel => exact ⟨i + 1,by simp,by omega,HF6.out⟩
    have hik : i = k := by omega
    subst hik
    go_wp2_with fail
    refine HPP.out _ _ ?_ HR.out.1 (by omega); obtain ⟨A,hA,h1,h2⟩ := HR.out.2.2.blk; exact ⟨A,hA,h1,fun j hj => by have h3 := h2 j hj; rw [if_pos hj] at h3; exact h3⟩
end Go.Proofs.YtkpapgfbnledpaaGreatDoor
namespace Go.Proofs.YtkpapgfbnledpaaGreatDoor
open Go.ChangeShapes Go.WideShapes Go.ChangeAt Go.RowKit Go.Lib Go.Tm Go.Bw Go.Bn Go.WideMaps Go.Maps Go.ChangeMaps Go.Shelf
attribute [local go_sem] Oper.semAt_some

def szP (L : List Nd) {O : List Nat} (pre : List (ET O)) : Nat -> Nat × Nat := szF L (pre.map (·.1))
theorem szP_snoc (L : List Nd) {O : List Nat} (pre : List (ET O)) (x : ET O) : szP L (pre ++ [x]) = fun y => if y = x.1 then szG L x.1 (szP L pre) else szP L pre y := by
  unfold szP szF; rw [List.map_append,List.map_cons,List.map_nil,folN_snoc]
  rfl
structure ZI (w : World) (H Cb Sb g m B n cO : Nat) (aO : Option Addr) (L : List Nd) {O : List Nat} (pre : List (ET O)) (W : World) : Prop where
  cb : W.heap[Cb]? = some (Obj.cells #[.pointer (some ⟨B,0,none⟩),.slice aO n cO] 68 (0,0))
  sb : W.heap[Sb]? = some (Obj.cells #[.slice (some ⟨g,0,none⟩) m m,.map none] 126 (0,0))
  zl : ZL W g m (szP L pre)
  bel : Below w.heap.size w W
  hs : H <= W.heap.size
theorem ZI.own {w : World} {H Cb Sb g m B n cO : Nat} {aO : Option Addr} {L : List Nd} {O : List Nat} (hH : w.heap.size <= H) : OwnFrom H (fun s W => ZI w H Cb Sb g m B n cO aO L (O := O) s W) := fun s W W' row hs hg hr => by
  have hk : ∀ (j : Nat) (cs : Array Value) (t : TypeId) (fr : Nat × Nat),W.heap[j]? = some (Obj.cells cs t fr) -> W'.heap[j]? = W.heap[j]? := fun j cs t fr hj => hg.block j (Array.getElem?_eq_some_iff.1 hj).1 (fun e => by
    obtain ⟨_,o,ho,hc⟩ := hr j e.symm; rw [hj] at ho; cases ho; cases hc)
  obtain ⟨A,hA,_⟩ := hs.zl.blk; exact ⟨(hk _ _ _ _ hs.cb).trans hs.cb,(hk _ _ _ _ hs.sb).trans hs.sb,hs.zl.keep (hk _ _ _ _ hA),(ownFrom_below (β := Unit) (Nat.le_refl _) hH) () W W' row hs.bel hg hr,Nat.le_trans hs.hs hg.size⟩
theorem grown_t {A B C : World} {g : Nat} (h : A.grownBy B (some g)) (h2 : B.grownBy C (some g)) : A.grownBy C (some g) :=
  ⟨h2.os.trans h.os,h2.tape.trans h.tape,h2.output.trans h.output,Nat.le_trans h.size h2.size,fun k hk hn => (h2.block k (Nat.lt_of_lt_of_le hk h.size) hn).trans (h.block k hk hn)⟩
def ndA (n : Nd) : Array Value := #[.int .i64 n.op,.int .i64 n.w,.int .i64 n.a,.int .i64 n.b,.int .i64 n.c,.int .u64 n.num,.string n.name]
def QN (K : Act -> World -> Prop) : Exit -> Act -> World -> Prop := fun e a w => match e with
  | .normal => K a w
  | _ => False
theorem qn_intro {P : Program} {c : Code} {Q : Exit -> Act -> World -> Prop} {a : Act} {w : World} (h : c.wp P (QN (Q .normal)) a w) : c.wp P Q a w := wp_mono h (fun e a w h => by
  cases e with
  | normal => exact h
  | _ => exact (h : False).elim)
def ZS (W : World) (g m Sb Bx : Nat) (L : List Nd) (t : Nat) (f : Nat -> Nat × Nat) (a b c : Int) (X : World) : Prop :=
  X.cell? ⟨Sb,0,none⟩ = some (.slice (some ⟨g,0,none⟩) m m) /\ X.cell? ⟨Sb,1,none⟩ = some (.map none) /\ X.cell? ⟨Bx,2,none⟩ = some (.int .i64 a) /\ X.cell? ⟨Bx,3,none⟩ = some (.int .i64 b) /\ X.cell? ⟨Bx,4,none⟩ = some (.int .i64 c) /\ W.grownBy X (some g) /\ (ZL X g m f ∨ ZL X g m (fun y => if y = t then szG L t f else f y))
theorem ZS.go {W : World} {g m Sb Bx : Nat} {L : List Nd} {t : Nat} {f : Nat -> Nat × Nat} {a b c : Int} {X X' : World} (h : ZS W g m Sb Bx L t f a b c X) (hb : X.grownBy X' (some g)) (hz : ZL X' g m f ∨ ZL X' g m (fun y => if y = t then szG L t f else f y)) (h1 : Sb ≠ g) (h2 : Bx ≠ g) : ZS W g m Sb Bx L t f a b c X' := by
  obtain ⟨c1,c2,c3,c4,c5,hg,_⟩ := h; have k1 : ∀ (B j : Nat) (v : Value),B ≠ g -> X.cell? ⟨B,j,none⟩ = some v -> X'.cell? ⟨B,j,none⟩ = some v := fun B j v hn hc => (World.cell?_of_block (w' := X') (w := X) (a := ⟨B,j,none⟩) (hb.block B (by
    have := block_lt_of_cell hc; exact this) (fun e => hn (by cases e; rfl)))).trans hc
  exact ⟨k1 _ _ _ h1 c1,k1 _ _ _ h1 c2,k1 _ _ _ h2 c3,k1 _ _ _ h2 c4,k1 _ _ _ h2 c5,grown_t hg hb,hz⟩
theorem ZI.over {w : World} {H Cb Sb g m B n cO : Nat} {aO : Option Addr} {L : List Nd} {O : List Nat} {pre : List (ET O)} {W W' : World} (h : ZI w H Cb Sb g m B n cO aO L pre W) (hb : Below W.heap.size W W') : ZI w H Cb Sb g m B n cO aO L pre W' :=
  ⟨(hb.block _ (Array.getElem?_eq_some_iff.1 h.cb).1).trans h.cb,(hb.block _ (Array.getElem?_eq_some_iff.1 h.sb).1).trans h.sb,h.zl.below hb,h.bel.trans (below_le' hb h.bel.size),Nat.le_trans h.hs hb.size⟩
theorem size_any (B0 B : Nat) (lim : Int) (L : List Nd) (v : Value) (M1 M2 : Option Nat) (t : Nat) (w : World) (hS : SM 78 w B0 B lim L v M1 M2) (hP : PAR L) (h1 : 1 <= t) (h2 : t <= L.length) (hd : mxN (og L [] [t]) / 16 <= (og L [] [t]).length) :
    Calls Tryz.prog 24 #[.pointer (some ⟨B,0,none⟩),.int .i64 (t : Int)] w fun e w' => e = .returned (.tuple #[.int .i64 (((og L [] [t]).length : Nat) : Int),.int .u64 (((szF L (og L [] [t]) t).1 : Nat) : Int),.int .i64 (((szF L (og L [] [t]) t).2 : Nat) : Int),.int .i64 0]) /\ Below w.heap.size w w' := by
  have HC : Hid (∀ W c,Below w.heap.size w W -> IR W (some ⟨w.heap.size,0,none⟩) [(t : Int)] -> Calls Tryz.prog 26 #[.pointer (some ⟨B,0,none⟩),.slice (some ⟨w.heap.size,0,none⟩) 1 c] W fun e w' => ∃ aO cO,e = .returned (.tuple #[.agg #[.pointer (some ⟨B,0,none⟩),.slice aO (og L [] [t]).length cO],.int .i64 0]) /\ Below W.heap.size W w' /\ OR w' aO (og L [] [t])) := fun W c hb hi => coneOf_ok (cp := c) B0 B lim L v M1 M2 W (hS.below hb) hP hi (by simp) (fun x hx => by rw [List.mem_singleton.1 hx]; exact decide_eq_true (by omega))
  obtain ⟨g0,hSR,_,_⟩ := hS.sr; have hLl := hS.len; have hb : ∀ r ∈ [t],1 <= r /\ r <= L.length /\ True := fun r hr => by rw [List.mem_singleton.1 hr]; exact ⟨h1,h2,trivial⟩
  obtain ⟨hPW,_,hroot,_⟩ := og_ok (R := fun _ => True) hP [t] [] (PW.nil L) ⟨fun _ _ _ _ => Or.inl trivial,fun _ _ _ _ => Or.inl trivial⟩ hb; have htO := hroot t (List.mem_singleton.2 rfl); have HSR : Hid (SR w B g0 L) := hSR; have HPAR : Hid (PAR L) := hP; clear hS hSR hroot hb h1 h2
  generalize og L [] [t] = O at *
  have HOB : Hid (∀ x ∈ O,1 <= x /\ x <= L.length) := hPW.ob; have hlO : O.length <= L.length := by have := hPW.len; simpa using this
  have hmx : mxN O <= 1000000000000 := mxN_le (fun x hx => by have := (hPW.ob x hx).2; omega); have htm : t <= mxN O := mxN_ge htO; clear hPW hP
  generalize hPP : (fun (e : Ending) (w' : World) => e = .returned (.tuple #[.int .i64 ((O.length : Nat) : Int),.int .u64 (((szF L O t).1 : Nat) : Int),.int .i64 (((szF L O t).2 : Nat) : Int),.int .i64 0]) /\ Below w.heap.size w w') = PP
  have HPP : Hid (∀ w',Below w.heap.size w w' -> PP (.returned (.tuple #[.int .i64 ((O.length : Nat) : Int),.int .u64 (((szF L O t).1 : Nat) : Int),.int .i64 (((szF L O t).2 : Nat) : Int),.int .i64 0])) w') := fun w' h => by rw [<- hPP]; exact ⟨rfl,h⟩
  clear hPP; refine (callsIn_wide (n := 9)).1 ?_; refine callsIn_of_wp_marks Tryz.func24 rfl trivial ?_ rfl; simp only [Tryz.ntmps24,List.size_toArray,List.length_cons,List.length_nil,Nat.reduceAdd,Nat.reduceSub,Array.replicate_succ,Array.replicate_zero,List.push_toArray,List.append_toArray,List.nil_append,List.cons_append]; obtain ⟨n,hn⟩ : ∃ n,O.length = n := ⟨_,rfl⟩; have HN : Hid (O.length = n) := hn; obtain ⟨m,hm⟩ : ∃ m,mxN O + 1 = m := ⟨_,rfl⟩; have HM : Hid (mxN O + 1 = m) := hm; have HZn : Hid (∀ W aO cO,OR W aO O -> Calls Tryz.prog 51 #[.slice aO n cO] W fun e w' => ∃ g,e = .returned (.agg #[.slice (some ⟨g,0,none⟩) m m,.map none]) /\ ZL w' g m (fun _ => (0,0)) /\ Below W.heap.size W w' /\ W.heap.size <= g) := fun W aO cO h => by
    rw [<- hn,<- hm]; exact znew_any W h hd hmx (by omega)
  rw [hn] at HC HPP hlO hd; have htm' : t < m := by omega
  have hm2 : m <= 1000000000001 := by omega
  clear hn hm hmx htm hd
  gi_wp2_with fail
  refine ⟨trivial,(callsIn_wide.2 (HC.out _ 1 (bel1 _ _) ?ir)).mono ?_⟩
  case ir => exact fun _ => ⟨w.heap.size,0,rfl,by simp,fun j hj => by
    obtain rfl : j = 0 := by simpa using hj
    exact (blk_cell (heap_alloc_new w _) 0).trans rfl⟩
  rintro e w1 ⟨aO,cO,rfl,hb1,hO1⟩; have HB1 : Hid (Below w.heap.size w w1 /\ OR w1 aO O) := ⟨(bel1 w _).trans (below_le' hb1 (by simp)),hO1⟩; clear hb1 hO1 HC
  gi_wp2_with fail
  refine ⟨trivial,(callsIn_wide.2 (HZn.out _ aO cO (HB1.out.2.below (bel1 _ _)))).mono ?_⟩; rintro e w2 ⟨g,rfl,hz2,hb2,hg2⟩; obtain ⟨Cb,hCb⟩ : ∃ Cb,w1.heap.size = Cb := ⟨_,rfl⟩; have hcb : w2.heap[w1.heap.size]? = some (Obj.cells #[.pointer (some ⟨B,0,none⟩),.slice aO n cO] 68 (0,0)) := (hb2.block _ (by simp)).trans (heap_alloc_new _ _); have hgs : Cb < g := by
    have : (w1.alloc (Obj.cells #[.pointer (some ⟨B,0,none⟩),.slice aO n cO] 68)).heap.size = w1.heap.size + 1 := by simp
    omega
  rw [hCb] at hcb ⊢; have hw1 := HB1.out.1.size; rw [hCb] at hw1; have hCl : Cb < w2.heap.size := (Array.getElem?_eq_some_iff.1 hcb).1; have HB2 : Hid (Below w.heap.size w w2 /\ OR w2 aO O /\ w2.heap[Cb]? = some (Obj.cells #[.pointer (some ⟨B,0,none⟩),.slice aO n cO] 68 (0,0)) /\ ZL w2 g m (fun _ => (0,0)) /\ (∀ b o,0 < O.length -> aO = some ⟨b,o,none⟩ -> b < g)) := by
    refine ⟨(HB1.out.1.trans (below_le' (bel1 w1 _) HB1.out.1.size)).trans (below_le' hb2 (by simp; omega)),(HB1.out.2.below (bel1 _ _)).below hb2,hcb,hz2,fun b o h0 e => ?_⟩; obtain ⟨b',o',e',hb',_⟩ := HB1.out.2 h0; rw [e] at e'; cases e'
    omega
  have k0 : w2.cell? ⟨Cb,0,none⟩ = some (.pointer (some ⟨B,0,none⟩)) := blk_cell hcb 0; have k1 : w2.cell? ⟨Cb,1,none⟩ = some (.slice aO n cO) := blk_cell hcb 1; clear hz2 hb2 hcb HZn HB1
  gi_wp2_with fail
  refine ⟨trivial,(callsIn_wide.2 (nodes_in _ _ _ _ _)).mono ?_⟩; rintro e w' ⟨rfl,rfl⟩
  gi_wp2_with fail
  have hs2 : (w2.alloc (Obj.cells #[.slice (some ⟨g,0,none⟩) m m,.map none] 126)).heap.size = w2.heap.size + 1 := by simp
  try rw [hs2]
  obtain ⟨Sb,hSb⟩ : ∃ Sb,w2.heap.size = Sb := ⟨_,rfl⟩; obtain ⟨W0,hW0⟩ : ∃ W0,((w2.alloc (Obj.cells #[.slice (some ⟨g,0,none⟩) m m,.map none] 126)).alloc (Obj.cells #[.pointer (some ⟨B,0,none⟩),.slice aO n cO] 68)) = W0 := ⟨_,rfl⟩; have hzg : g < w2.heap.size := HB2.out.2.2.2.1.lt; have hb02 : Below w2.heap.size w2 W0 := by rw [<- hW0]; exact bel2 _ _ _
  have h0s : W0.heap.size = Sb + 1 + 1 := by rw [<- hW0,<- hSb]; simp
  have HB0 : Hid (W0.heap[Sb]? = some (Obj.cells #[.slice (some ⟨g,0,none⟩) m m,.map none] 126 (0,0)) /\ W0.heap[Sb + 1]? = some (Obj.cells #[.pointer (some ⟨B,0,none⟩),.slice aO n cO] 68 (0,0))) := by
    rw [<- hW0,<- hSb]; refine ⟨?_,heap2 w2 _ _⟩; rw [Below.heap_alloc _ _ _ (by simp)]; exact heap_alloc_new w2 _
  have hBw : Below w.heap.size w W0 := HB2.out.1.trans (below_le' hb02 (by omega)); have HI0 : Hid (ZI w W0.heap.size Cb Sb g m B n cO aO L (O := O) [] W0) := ⟨(hb02.block _ hCl).trans HB2.out.2.2.1,HB0.out.1,HB2.out.2.2.2.1.below hb02,hBw,Nat.le_refl _⟩; have HO0 : Hid (OR W0 aO O) := HB2.out.2.1.below hb02; have HS0 : Hid (SR W0 B g0 L) := HSR.out.below (below_le' hBw (Nat.le_refl _)); rw [hSb,hW0]; have hwg : w.heap.size <= g := by omega
  have HNE : Hid (B ≠ g /\ (0 < L.length -> g0 ≠ g) /\ (0 < O.length -> ∀ b o,aO = some ⟨b,o,none⟩ -> b ≠ g) /\ Sb + 1 ≠ g /\ Sb ≠ g /\ w.heap.size <= g /\ g < Sb) := by
    have q1 := HSR.out.bl; refine ⟨by omega,fun h0 => by have := HSR.out.gl h0; omega,fun h0 b o e => by have := HB2.out.2.2.2.2 b o h0 e; omega,by omega,by omega,hwg,by omega⟩
  have hlO2 : O.length <= 1000000000000 := by rw [HN.out]; omega
  clear hW0 hb02 hBw HB2 k0 k1 hs2 hSb hzg hwg; refine wpIn_rangeFunc_ownH (F := Fence.wide) rfl (by omega) (gf := 61) (lb := #[.pointer (some ⟨Sb + 1,0,none⟩)]) rfl trivial (enters_of Tryz.func61 (by kernel_rfl) rfl)
    (nodes_stops _ (by omega) (Sb + 1) g B g0 cO aO L O HOB.out hlO2 W0 ⟨by omega,HNE.out.2.2.2.1⟩ HNE.out.1 HNE.out.2.1 (blk_cell HB0.out.2 0) (by rw [HN.out]; exact blk_cell HB0.out.2 1) HO0.out HNE.out.2.2.1 HS0.out) (fun h1 h2 => h1.t h2) (fun W l o o' h1 h2 h3 h4 => KC.b W l o o' h1 h2 h3 h4) (Below.refl _ _) (fun _ => rfl)
    (fun pre W => ZI w W0.heap.size Cb Sb g m B n cO aO L pre W) (fun _ _ _ => False) (ZI.own HI0.out.bel.size) (fun cd => fun _ _ _ _ h _ _ => h.elim)
    HI0.out
    (fun x a' W => ∃ Bx,W0.heap.size <= Bx /\ W.heap[Bx]? = some (Obj.cells (ndA (L.getD (x.1 - 1) z0)) 40 (0,0)) /\ a' = { tmps := #[.pointer (some ⟨B,0,none⟩),.int .i64 (t : Int),undef,undef,.int .i64 0,.int .u64 0,.int .i64 0,.int .i64 0,.pointer (some ⟨Cb,0,none⟩),.int .i64 0,.pointer (some ⟨Sb,0,none⟩),.int .i64 (x.1 : Int),.pointer (some ⟨Bx,0,none⟩),undef,.tuple #[.agg #[.pointer (some ⟨B,0,none⟩),.slice aO n cO],.int .i64 0],.pointer (some ⟨B,0,none⟩),.int .i64 (t : Int),.slice (some ⟨w.heap.size,0,none⟩) 1 1,.tuple #[.agg #[.pointer (some ⟨B,0,none⟩),.slice aO n cO],.int .i64 0],.agg #[.pointer (some ⟨B,0,none⟩),.slice aO n cO],.int .i64 0,.int .i64 0,.bool false,undef,.pointer (some ⟨Cb,1,none⟩),.slice aO n cO,.agg #[.slice (some ⟨g,0,none⟩) m m,.map none],.agg #[.pointer (some ⟨B,0,none⟩),.slice aO n cO],.func (.func 61) #[] #[.pointer (some ⟨Sb + 1,0,none⟩)],.int .i64 (x.1 : Int),nodeV (L.getD (x.1 - 1) z0),undef,undef,undef,undef,undef,undef,undef,undef,undef,undef,undef,undef,undef,undef,undef,undef,undef,undef,undef,undef,undef,undef,undef,undef,undef,undef,undef,undef],defers := [] })
    ?hax ?assign ?body ?done ?stop
  case hax =>
    rintro x a' _ X Y row ⟨Bx,h1,h2,h3⟩ hg2 hr; exact ⟨Bx,h1,(hg2.block Bx (Array.getElem?_eq_some_iff.1 h2).1 (fun e => by
      obtain ⟨_,o,ho,hc⟩ := hr Bx e.symm; rw [h2] at ho; cases ho; cases hc)).trans h2,h3⟩
  case assign =>
    rintro l pre x W K hi hK; simp only [encT,nodeV]; unfold nodeV ndA at hK
    generalize L.getD (x.1 - 1) z0 = nd at *
    gi_wp2
    exact hK _ _ ⟨by simp,fun k o _ hk _ => (Below.heap_alloc _ _ _ (Array.getElem?_eq_some_iff.1 hk).1).trans hk⟩ (KC.of (bel1 W _) hi.hs) (hi.over (bel1 W _)) ⟨W.heap.size,hi.hs,heap_alloc_new W _,rfl⟩
  case body =>
    rintro l pre x a' W hl _ hI ⟨Bx,hBx,hbx,rfl⟩ hlt; have HI : Hid (ZI w W0.heap.size Cb Sb g m B n cO aO L pre W) := hI; obtain ⟨b1,b2⟩ := HOB.out x.1 x.2; have hxm : x.1 < m := by
      have := mxN_ge x.2; have := HM.out
      omega
    have hpa := HPAR.out (x.1 - 1) (by omega); have eA : (L.getD (x.1 - 1) z0).a = ((pA L x.1 : Nat) : Int) := by unfold pA; omega
    have eB : (L.getD (x.1 - 1) z0).b = ((pB L x.1 : Nat) : Int) := by unfold pB; omega
    have eC : (L.getD (x.1 - 1) z0).c = ((pC L x.1 : Nat) : Int) := by unfold pC; omega
    have lA : pA L x.1 < x.1 := by unfold pA; omega
    have lB : pB L x.1 < x.1 := by unfold pB; omega
    have lC : pC L x.1 < x.1 := by unfold pC; omega
    have hSg := HNE.out.2.2.2.2.1; have hBg : Bx ≠ g := by have := HNE.out.2.2.2.2.2; omega
    have hAt : ∀ X i,i < x.1 -> ZS W g m Sb Bx L x.1 (szP L pre) (pA L x.1 : Nat) (pB L x.1 : Nat) (pC L x.1 : Nat) X -> Calls Tryz.prog 53 #[.agg #[.slice (some ⟨g,0,none⟩) m m,.map none],.int .i64 (i : Int)] X fun e w' => e = .returned (zV (szP L pre i)) /\ ZS W g m Sb Bx L x.1 (szP L pre) (pA L x.1 : Nat) (pB L x.1 : Nat) (pC L x.1 : Nat) w' := fun X i hi hS => by
      obtain ⟨_,_,_,_,_,_,hz⟩ := id hS
      rcases hz with hz | hz
      · exact (zat_any g m _ i X hz (by omega)).mono fun e w' ⟨he,hb⟩ => ⟨he,hS.go ⟨hb.os,hb.tape,hb.output,hb.size,fun k hk _ => hb.block k hk⟩ (Or.inl (hz.below hb)) hSg hBg⟩
      have h9 := zat_any g m _ i X hz (by omega); rw [if_neg (show ¬ i = x.1 by omega)] at h9; exact h9.mono fun e w' ⟨he,hb⟩ => ⟨he,hS.go ⟨hb.os,hb.tape,hb.output,hb.size,fun k hk _ => hb.block k hk⟩ (Or.inr (hz.below hb)) hSg hBg⟩
    have hTo : ∀ X X',ZS W g m Sb Bx L x.1 (szP L pre) (pA L x.1 : Nat) (pB L x.1 : Nat) (pC L x.1 : Nat) X -> Below X.heap.size X X' -> ZS W g m Sb Bx L x.1 (szP L pre) (pA L x.1 : Nat) (pB L x.1 : Nat) (pC L x.1 : Nat) X' := fun X X' hS hb => by
      obtain ⟨_,_,_,_,_,_,hz⟩ := id hS; exact hS.go ⟨hb.os,hb.tape,hb.output,hb.size,fun k hk _ => hb.block k hk⟩ (hz.imp (fun h => h.below hb) (fun h => h.below hb)) hSg hBg
    have hle := fun y => szF_le L (pre.map (·.1)) y
    have hdp : (pre.map (·.1)).length <= 1000000000000 := by rw [List.length_map]; omega
    have e1 : ∀ y,(szP L pre y).1 <= 18446744073709551615 := fun y => (hle y).1
    have e2 : ∀ y,(szP L pre y).2 <= 1000000000000 := fun y => Nat.le_trans (hle y).2 hdp
    have e3 : ∀ z o : Nat × Nat,(besZ z o).1 <= 18446744073709551615 := fun z o => capU_le _ _
    have e4 : ∀ z o : Nat × Nat,z.2 <= 1000000000000 -> o.2 <= 1000000000000 -> (besZ z o).2 <= 1000000000000 := fun z o h1 h2 => by unfold besZ; show (if z.2 <= o.2 then o.2 else z.2) <= _; split <;> omega
    have HA1 := fun X => hAt X _ lA
    have HA2 := fun X => hAt X _ lB
    have HA3 := fun X => hAt X _ lC
    have HA4 := fun X => beside_any (szP L pre (pA L x.1)) (szP L pre (pB L x.1)) (e1 _) (e1 _) X
    have HA5 := fun X => beside_any (besZ (szP L pre (pA L x.1)) (szP L pre (pB L x.1))) (szP L pre (pC L x.1)) (e3 _ _) (e1 _) X
    have HA6 := fun X => under_any (besZ (besZ (szP L pre (pA L x.1)) (szP L pre (pB L x.1))) (szP L pre (pC L x.1))) (e3 _ _) (e4 _ _ (e4 _ _ (e2 _) (e2 _)) (e2 _)) X
    have HA7 : ∀ X,ZS W g m Sb Bx L x.1 (szP L pre) (pA L x.1 : Nat) (pB L x.1 : Nat) (pC L x.1 : Nat) X -> Calls Tryz.prog 52 #[.agg #[.slice (some ⟨g,0,none⟩) m m,.map none],.int .i64 (x.1 : Int),zV (szG L x.1 (szP L pre))] X fun e w' => e = .returned (.tuple #[]) /\ ZS W g m Sb Bx L x.1 (szP L pre) (pA L x.1 : Nat) (pB L x.1 : Nat) (pC L x.1 : Nat) w' /\ ZL w' g m (szP L (pre ++ [x])) := fun X hS => by
      obtain ⟨_,_,_,_,_,_,hz⟩ := id hS
      rcases hz with hz | hz
      · refine (zset_any g m _ x.1 (szG L x.1 (szP L pre)) X hz hxm).mono fun e w' ⟨he,h8,h9⟩ => ⟨he,hS.go h9 (Or.inr h8) hSg hBg,?_⟩
        rw [szP_snoc]; exact h8
      refine (zset_any g m _ x.1 (szG L x.1 (szP L pre)) X hz hxm).mono fun e w' ⟨he,h8,h9⟩ => ?_
      have h10 : ZL w' g m (fun y => if y = x.1 then szG L x.1 (szP L pre) else szP L pre y) := by
        have e : (fun y => if y = x.1 then szG L x.1 (szP L pre) else if y = x.1 then szG L x.1 (szP L pre) else szP L pre y) = (fun y => if y = x.1 then szG L x.1 (szP L pre) else szP L pre y) := by
          funext y
          split <;> rfl
        rw [<- e]; exact h8
      exact ⟨he,hS.go h9 (Or.inr h10) hSg hBg,by rw [szP_snoc]; exact h10⟩
    have eG : szG L x.1 (szP L pre) = undZ (besZ (besZ (szP L pre (pA L x.1)) (szP L pre (pB L x.1))) (szP L pre (pC L x.1))) := rfl; rw [eG] at HA7; have hz0 : ZS W g m Sb Bx L x.1 (szP L pre) (pA L x.1 : Nat) (pB L x.1 : Nat) (pC L x.1 : Nat) W.drew := by
      have n2 : W.cell? ⟨Bx,2,none⟩ = _ := blk_cell hbx 2; have n3 : W.cell? ⟨Bx,3,none⟩ = _ := blk_cell hbx 3; have n4 : W.cell? ⟨Bx,4,none⟩ = _ := blk_cell hbx 4; refine ⟨blk_cell hI.sb 0,blk_cell hI.sb 1,n2.trans ?_,n3.trans ?_,n4.trans ?_,⟨rfl,rfl,rfl,Nat.le_refl _,fun _ _ _ => rfl⟩,Or.inl (hI.zl.keep rfl)⟩
      · rw [<- eA]; rfl
      · rw [<- eB]; rfl
      rw [<- eC]; rfl
    have HEND : Hid (∀ X,ZS W g m Sb Bx L x.1 (szP L pre) (pA L x.1 : Nat) (pB L x.1 : Nat) (pC L x.1 : Nat) X -> ZL X g m (szP L (pre ++ [x])) -> KeepsFrom W0.heap.size W X /\ KC W0.heap.size g W X /\ ZI w W0.heap.size Cb Sb g m B n cO aO L (pre ++ [x]) X) := fun X hS hz => by
      obtain ⟨_,_,_,_,_,hg,_⟩ := hS; have hgc : ∃ A,W.heap[g]? = some (Obj.cells A 129 (0,0)) := by obtain ⟨A,hA,_⟩ := hI.zl.blk; exact ⟨A,hA⟩
      obtain ⟨A,hA⟩ := hgc; have kk : ∀ k (o : Obj),W.heap[k]? = some o -> k ≠ g -> X.heap[k]? = some o := fun k o hk hn => (hg.block k (Array.getElem?_eq_some_iff.1 hk).1 (fun e => hn (by cases e; rfl))).trans hk
      have hw9 := HNE.out.2.2.2.2.2.1; refine ⟨⟨hg.size,fun k o _ hk hc => kk k o hk (fun e => by rw [e,hA] at hk; cases hk; cases hc)⟩,⟨fun j hj hn => hg.block j (Nat.lt_of_lt_of_le hj hI.hs) (fun e => hn (by cases e; rfl)),hg.size⟩,⟨kk _ _ hI.cb (by omega),kk _ _ hI.sb hSg,hz,⟨hg.os.trans hI.bel.os,hg.tape.trans hI.bel.tape,hg.output.trans hI.bel.output,Nat.le_trans hI.bel.size hg.size,fun k hk => (hg.block k (Nat.lt_of_lt_of_le hk hI.bel.size) (fun e => by cases e; omega)).trans (hI.bel.block k hk)⟩,Nat.le_trans hI.hs hg.size⟩⟩
    clear hI hbx eA eB eC hpa hle hdp e1 e2 e3 e4 eG hAt; have KA1 : Hid (∀ X,_ -> _) := HA1; have KA2 : Hid (∀ X,_ -> _) := HA2; have KA3 : Hid (∀ X,_ -> _) := HA3; have KA4 : Hid (∀ X,_) := HA4; have KA5 : Hid (∀ X,_) := HA5; have KA6 : Hid (∀ X,_) := HA6; have KA7 : Hid (∀ X,_ -> _) := HA7; have HTO : Hid (∀ X X',_ -> _ -> _) := hTo; clear hTo HA1 HA2 HA3 HA4 HA5 HA6 HA7
    generalize zV (szP L pre (pA L x.1)) = vA at *
    generalize zV (szP L pre (pB L x.1)) = vB at *
    generalize zV (szP L pre (pC L x.1)) = vC at *
    generalize zV (besZ (szP L pre (pA L x.1)) (szP L pre (pB L x.1))) = vAB at *
    generalize zV (besZ (besZ (szP L pre (pA L x.1)) (szP L pre (pB L x.1))) (szP L pre (pC L x.1))) = vABC at *
    generalize zV (undZ (besZ (besZ (szP L pre (pA L x.1)) (szP L pre (pB L x.1))) (szP L pre (pC L x.1)))) = vU at *
    generalize ((pA L x.1 : Nat) : Int) = ai at *
    generalize ((pB L x.1 : Nat) : Int) = bi at *
    generalize ((pC L x.1 : Nat) : Int) = ci at *
    generalize nodeV (L.getD (x.1 - 1) z0) = nv at *
    gi_wp2_with fail
    refine sq_round (ZS W g m Sb Bx L x.1 (szP L pre) ai bi ci) [5,9,10,14,15,16,17] [0,1,2,3,4,6,7,8,11,12,13,5,9,10,14,15,16,17] (by kernel_rfl) (by kernel_rfl) (by rintro ⟨_,_,h⟩; exact h) (by kernel_rfl) hz0 ?_
    repeat (refine sq_op (v := ?_) (by rfl) (by rfl) (by rfl) ?_ ?_; rotate_left; (focus (intro w hSw; obtain ⟨c1,c2,c3,c4,c5,-,-⟩ := hSw; go_simp <;> with_reducible rfl)); simp only [Act.put,List.setIfInBounds_toArray,List.set_cons_zero,List.set_cons_succ])
    refine sq_do (by rfl) (by rfl) (by rfl) (fun K hK => ?_)
    go_simp
    go_at_call 53
    refine (KA1.out _ hz0).mono ?_; rintro e w3 ⟨rfl,hz1⟩; refine hK.out _ _ hz1 (fun _ => ?_); clear hK K
    try simp only [Act.put,List.setIfInBounds_toArray,List.set_cons_zero,List.set_cons_succ]
    refine sq_do (by rfl) (by rfl) (by rfl) (fun K hK => ?_)
    go_simp
    go_at_call 53
    refine (KA2.out _ hz1).mono ?_; rintro e w4 ⟨rfl,hz2⟩; refine hK.out _ _ hz2 (fun _ => ?_); clear hK K
    try simp only [Act.put,List.setIfInBounds_toArray,List.set_cons_zero,List.set_cons_succ]
    refine sq_do (by rfl) (by rfl) (by rfl) (fun K hK => ?_)
    go_simp
    go_at_call 54
    refine (KA4.out _).mono ?_; rintro e w5 ⟨rfl,hb5⟩; have hz3 := HTO.out _ _ hz2 hb5; clear hb5; refine hK.out _ _ hz3 (fun _ => ?_); clear hK K
    try simp only [Act.put,List.setIfInBounds_toArray,List.set_cons_zero,List.set_cons_succ]
    refine sq_do (by rfl) (by rfl) (by rfl) (fun K hK => ?_)
    go_simp
    go_at_call 53
    refine (KA3.out _ hz3).mono ?_; rintro e w6 ⟨rfl,hz4⟩; refine hK.out _ _ hz4 (fun _ => ?_); clear hK K
    try simp only [Act.put,List.setIfInBounds_toArray,List.set_cons_zero,List.set_cons_succ]
    refine sq_do (by rfl) (by rfl) (by rfl) (fun K hK => ?_)
    go_simp
    go_at_call 54
    refine (KA5.out _).mono ?_; rintro e w7 ⟨rfl,hb7⟩; have hz5 := HTO.out _ _ hz4 hb7; clear hb7; refine hK.out _ _ hz5 (fun _ => ?_); clear hK K
    try simp only [Act.put,List.setIfInBounds_toArray,List.set_cons_zero,List.set_cons_succ]
    refine sq_do (by rfl) (by rfl) (by rfl) (fun K hK => ?_)
    go_simp
    go_at_call 55
    refine (KA6.out _).mono ?_; rintro e w8 ⟨rfl,hb8⟩; have hz6 := HTO.out _ _ hz5 hb8; clear hb8; refine hK.out _ _ hz6 (fun _ => ?_); clear hK K
    try simp only [Act.put,List.setIfInBounds_toArray,List.set_cons_zero,List.set_cons_succ]
    refine sq_do (by rfl) (by rfl) (by rfl) (fun K hK => ?_)
    go_simp
    go_at_call 52
    refine (KA7.out _ hz6).mono ?_; rintro e w9 ⟨rfl,hz7,hf7⟩; refine hK.out _ _ hz7 (fun _ => ?_); clear hK K
    try simp only [Act.put,List.setIfInBounds_toArray,List.set_cons_zero,List.set_cons_succ]
    refine sq_end (fun _ => ?_); have HE := HEND.out _ hz7 hf7; clear HEND KA1 KA2 KA3 KA4 KA5 KA6 KA7 HTO hz0 hz1 hz2 hz3 hz4 hz5 hz6 hz7 hf7
    gi_wp2
    first | exact HE
  case stop =>
    rintro D c pre W _ _ h _; exact h.elim
  case done =>
    rintro D xs W hD hxs hI hK; have hzl := hI.zl; have e0 : szP L xs = szF L O := by
      unfold szP; rw [hxs]
      congr 1
      exact List.attach_map_subtype_val O
    rw [e0] at hzl; have HI : Hid (ZI w W0.heap.size Cb Sb g m B n cO aO L xs W) := hI; have HAT : Hid (∀ X,Below W.heap.size W X -> Calls Tryz.prog 53 #[.agg #[.slice (some ⟨g,0,none⟩) m m,.map none],.int .i64 (t : Int)] X fun e w' => e = .returned (.agg #[.int .u64 (((szF L O t).1 : Nat) : Int),.int .i64 (((szF L O t).2 : Nat) : Int)]) /\ Below X.heap.size X w') := fun X hb => zat_any g m _ t X (hzl.below hb) (by omega)
    have k0 : W.cell? ⟨Sb,0,none⟩ = some (.slice (some ⟨g,0,none⟩) m m) := blk_cell hI.sb 0; have k1 : W.cell? ⟨Sb,1,none⟩ = some (.map none) := blk_cell hI.sb 1; clear hI hzl e0 hxs
    generalize (((szF L O t).1 : Nat) : Int) = zx at *
    generalize (((szF L O t).2 : Nat) : Int) = zd at *
    gi_wp2_with fail
    refine ⟨trivial,(callsIn_wide.2 (HAT.out W (Below.refl _ _))).mono ?_⟩; rintro e w5 ⟨rfl,hb5⟩; have hcb5 := (hb5.block Cb (Array.getElem?_eq_some_iff.1 HI.out.cb).1).trans HI.out.cb; have hcl5 : Cb < w5.heap.size := (Array.getElem?_eq_some_iff.1 hcb5).1; have k5 : w5.cell? ⟨Cb,1,none⟩ = some (.slice aO n cO) := blk_cell hcb5 1; have hK5 : w5.heap[D]? = some (.deferred (some [])) := (hb5.block D (Array.getElem?_eq_some_iff.1 hK).1).trans hK; have HB5 : Hid (Below w.heap.size w w5) := HI.out.bel.trans (below_le' hb5 HI.out.bel.size); clear hb5 hcb5
    gi_wp2_with fail
    obtain ⟨W6,hW6⟩ : ∃ W6,w5.alloc (Obj.cells #[.int .u64 zx,.int .i64 zd] 129) = W6 := ⟨_,rfl⟩; have c1 : W6.cell? ⟨Cb,1,none⟩ = some (.slice aO n cO) := by
      rw [<- hW6]; exact (World.cell?_of_block (a := ⟨Cb,1,none⟩) (Below.heap_alloc _ _ _ hcl5)).trans k5
    have hb6 : W6.heap[w5.heap.size]? = some (Obj.cells #[.int .u64 zx,.int .i64 zd] 129 (0,0)) := by rw [<- hW6]; exact heap_alloc_new w5 _
    have c2 : W6.cell? ⟨w5.heap.size,0,none⟩ = some (.int .u64 zx) := blk_cell hb6 0; have c3 : W6.cell? ⟨w5.heap.size,1,none⟩ = some (.int .i64 zd) := blk_cell hb6 1; have hK6 : W6.heap[D]? = some (.deferred (some [])) := by
      rw [<- hW6]; exact (Below.heap_alloc _ _ _ (Array.getElem?_eq_some_iff.1 hK5).1).trans hK5
    have HB6 : Hid (Below w.heap.size w W6) := by
      rw [<- hW6]; exact HB5.out.trans (below_le' (bel1 w5 _) HB5.out.size)
    try rw [hW6]
    clear hW6 hb6 k5 hK5; refine wpIn_wide.2 (qn_intro ?_); refine sq_start (fun X => X.cell? ⟨Cb,1,none⟩ = some (.slice aO n cO) /\ X.cell? ⟨w5.heap.size,0,none⟩ = some (.int .u64 zx) /\ X.cell? ⟨w5.heap.size,1,none⟩ = some (.int .i64 zd)) [] [0,1,2,3,4,5,6,7,8,9,10] (by kernel_rfl) (by kernel_rfl) ⟨c1,c2,c3⟩ ?_
    repeat (refine sq_op (v := ?_) (by rfl) (by rfl) (by rfl) ?_ ?_; rotate_left; (focus (intro w hSw; obtain ⟨c1,c2,c3⟩ := hSw; go_simp <;> with_reducible rfl)); simp only [Act.put,List.setIfInBounds_toArray,List.set_cons_zero,List.set_cons_succ])
    refine sq_end (fun _ => ?_); unfold QN
    dsimp only
    gi_wp2
    refine ⟨by simp,.inl ⟨_,_,rfl,run_takeDeferred (w := W6.drew) hK6,?_⟩⟩; have hbw : Below w.heap.size w (W6.drew.putObj D (Obj.deferred none)) := (drw HB6.out 1).trans (belowK_b (w := w) (Nat.le_refl _) W6.drew D _ _ (by have := HI0.out.hs; have := HI0.out.bel.size; omega) hK6 rfl rfl); have HF := HPP.out _ hbw; refine ⟨.tuple #[.int .i64 (n : Int),.int .u64 zx,.int .i64 zd,.int .i64 0],?hres,HF⟩
    case hres => first | rfl | (simp [results]; done)
end Go.Proofs.YtkpapgfbnledpaaGreatDoor
namespace Go.Proofs.YtkpapgfbnledpaaGreatDoor
open Go.ChangeShapes Go.WideShapes Go.ChangeAt Go.RowKit Go.Lib Go.Tm Go.Bw Go.Bn Go.WideMaps Go.Maps Go.ChangeMaps

structure Vl where
  nm : ByteArray
  w : Int
  num : Int
def vV (x : Vl) : Value := .agg #[.string x.nm,.int .i64 x.w,.int .u64 x.num]
def vZ : Vl := ⟨ByteArray.empty,0,0⟩
def vD (x : Vl) : DataW Unit := .agg [.lit (.string x.nm.data.toList),.lit (.int .i64 x.w),.lit (.int .u64 x.num)]
def vRd (v : Value) : Option (DataW Unit × List MemPlace) := match v with
  | .agg ⟨[.string s,.int .i64 a,.int .u64 b]⟩ => some (vD ⟨s,a,b⟩,[])
  | _ => none
theorem vRd_mk (x : Vl) : vRd (vV x) = some (vD x,[]) := rfl
theorem vRd_inv {v : Value} {x : Vl} {ps : List MemPlace} (h : vRd v = some (vD x,ps)) : v = vV x := by
  unfold vRd at h
  split at h
  · rename_i s a b
    injection h with h
    injection h with h1 h2
    unfold vD at h1
    injection h1 with h1
    simp only [List.cons.injEq,DataW.lit.injEq,Lit.string.injEq,Lit.int.injEq] at h1; obtain ⟨e1,⟨-,e2⟩,⟨-,e3⟩,-⟩ := h1; have e4 : s = x.nm := by
      apply ByteArray.ext
      exact Array.ext' e1
    unfold vV; rw [e4,e2,e3]
  cases h
def tupd (f : ByteArray -> Option Vl) (x : Vl) : ByteArray -> Option Vl := fun s => if s = x.nm then some x else f s
theorem tupd_same (f : ByteArray -> Option Vl) (x : Vl) : tupd f x x.nm = some x := if_pos rfl
theorem tupd_other {f : ByteArray -> Option Vl} {x : Vl} {s : ByteArray} (h : ¬ s = x.nm) : tupd f x s = f s := if_neg h
def TMP (W : World) (M n : Nat) (f : ByteArray -> Option Vl) : Prop := ∃ D : DataW Unit,W.ownsMap Tryz.prog 9 vRd M n D /\ IsMap D /\ ∀ s : ByteArray,s.size <= 140737488355328 -> ∃ kl,keyOf Tryz.prog 9 (.string s) = some kl /\ Maps.has D kl = (f s).isSome /\ ∀ x,f s = some x -> ∀ zd,D.atKey kl zd = vD x
theorem TMP.made {W : World} {M : Nat} (h : W.heap[M]? = some (Obj.map #[] 0)) : TMP W M 0 (fun _ => none) := by
  refine ⟨.map [],⟨#[],0,h,⟨by simp,MapKept.stamped_empty 0,by simp⟩,Nat.le_refl _,rfl⟩,isMap_empty,fun s hs => ?_⟩; obtain ⟨kl,hk⟩ := key_str s hs; exact ⟨kl,hk,rfl,fun x hx => by cases hx⟩
theorem TMP.keep {W W' : World} {M n : Nat} {f : ByteArray -> Option Vl} (h : TMP W M n f) (hb : W'.heap[M]? = W.heap[M]?) : TMP W' M n f := by
  obtain ⟨D,⟨es,clock,h1,h2⟩,hF⟩ := h; exact ⟨D,⟨es,clock,hb.trans h1,h2⟩,hF⟩
theorem TMP.lt {W : World} {M n : Nat} {f : ByteArray -> Option Vl} (h : TMP W M n f) : M < W.heap.size := by
  obtain ⟨D,hm,hF⟩ := h; exact hm.lt
theorem TMP.below {W W' : World} {M n : Nat} {f : ByteArray -> Option Vl} (h : TMP W M n f) (hb : Below W.heap.size W W') : TMP W' M n f := h.keep (hb.block M h.lt)
theorem zeroV (w : World) : (zeroValue 38).run Tryz.prog w = .ok (vV vZ) w := by
  have hi : ∃ i,Tryz.prog.info? 38 = some i /\ i.zero = some (vV vZ) := by
    obtain ⟨i0,hi,hz0,_,_⟩ := info_parts (P := Tryz.prog) (e := 38) (z := vV vZ) (size := 3) (bytes := 32) (by kernel_rfl); exact ⟨i0,hi,hz0⟩
  obtain ⟨i,h1,h2⟩ := hi
  simp [zeroValue,typeInfo,h1,h2,Result.andThen]
theorem TMP.look {W : World} {M n : Nat} {f : ByteArray -> Option Vl} (h : TMP W M n f) (s : ByteArray) (hs : s.size <= 140737488355328) : (Instr.lookup 89 (.map (some M)) (.string s) false).run Tryz.prog W = .ok (vV ((f s).getD vZ)) W := by
  obtain ⟨D,hm,hF⟩ := h; obtain ⟨kl,h1,h2,h3⟩ := hF.2 _ hs; obtain ⟨vv,pss,hrun,hR⟩ := hm.lookup lawS Tryz.underlying89 (zeroV W) (vRd_mk vZ) h1; cases hf : f s with
  | none =>
    rw [hf] at h2; have hz : D.atKey kl (vD vZ) = vD vZ := atKey_of_not_has h2 _; rw [hz] at hR; rw [hrun,vRd_inv hR]
    rfl
  | some x =>
    rw [h3 x hf] at hR; rw [hrun,vRd_inv hR]
    rfl
theorem TMP.look_ok {W : World} {M n : Nat} {f : ByteArray -> Option Vl} (h : TMP W M n f) (s : ByteArray) (hs : s.size <= 140737488355328) : (Instr.lookup 89 (.map (some M)) (.string s) true).run Tryz.prog W = .ok (.tuple #[vV ((f s).getD vZ),.bool (f s).isSome]) W := by
  obtain ⟨D,hm,hF⟩ := h; obtain ⟨kl,h1,h2,h3⟩ := hF.2 _ hs; obtain ⟨vv,pss,hrun,hR⟩ := hm.look_ok lawS Tryz.underlying89 (zeroV W) (vRd_mk vZ) h1; cases hf : f s with
  | none =>
    rw [hf] at h2; have hz : D.atKey kl (vD vZ) = vD vZ := atKey_of_not_has h2 _; rw [hz] at hR; rw [hrun,h2,vRd_inv hR]
    rfl
  | some x =>
    rw [h3 x hf] at hR; rw [hrun,h2,vRd_inv hR,hf]
    rfl
theorem TMP.put {W : World} {M n : Nat} {f : ByteArray -> Option Vl} (h : TMP W M n f) (hn : n <= 1000000000000000000) (x : Vl) (hx : x.nm.size <= 140737488355328) : ∃ w',(Instr.mapUpdate 89 (.map (some M)) (.string x.nm) (vV x)).run Tryz.prog W = .ok () w' /\ TMP w' M (n + 1) (tupd f x) /\ W.grownBy w' (some M) := by
  obtain ⟨D,hm,hI,hF⟩ := h; obtain ⟨kl,h1,h2,h3⟩ := hF _ hx; obtain ⟨w',hrun,hm',hg⟩ := hm.update lawS Tryz.underlying89 (by unfold maxLen; omega) h1 (vRd_mk x); refine ⟨w',hrun,⟨_,hm',isMap_put hI _ _,fun s hs => ?_⟩,hg⟩; obtain ⟨ky,k1,k2,k3⟩ := hF s hs; have inj : ∀ a b : ByteArray,Value.string a = Value.string b -> a = b := fun a b e => by injection e
  refine ⟨ky,k1,?_,fun y hy zd => ?_⟩
  · by_cases e : s = x.nm
    · subst e
      rw [h1] at k1; cases k1; rw [has_put_same hI (lawS.key h1),tupd_same]
      rfl
    rw [has_put_other (fun e2 => e (inj _ _ (lawS.inj (by rw [k1,e2]) h1))),k2,tupd_other e]
  by_cases e : s = x.nm
  · subst e
    rw [h1] at k1; cases k1; rw [tupd_same] at hy; cases hy; rw [atKey_put_same hI (lawS.key h1)]
  rw [tupd_other e] at hy; rw [atKey_put_other (fun e2 => e (inj _ _ (lawS.inj (by rw [k1,e2]) h1))),k3 y hy zd]
def okV (x : Vl) : Prop := (x.w = 0 /\ 0 <= x.num /\ x.num <= 1) ∨ (1 <= x.w /\ x.w <= 64 /\ trimI x.w x.num = x.num /\ U x.num)
theorem holds_yes (x : Vl) (h : okV x) (w : World) : Calls Tryz.prog 60 #[.int .i64 x.w,.int .u64 x.num] w fun e w' => e = .returned (.bool true) /\ w' = w := by
  obtain ⟨nm,a,b⟩ := x
  rcases h with ⟨h1,h2,h3⟩ | ⟨h1,h2,h3,h4⟩
  · obtain rfl : a = 0 := h1
    dsimp only at h2 h3 ⊢
    go_enter Tryz.func60,Tryz.ntmps60
    go_wp2
    go_ret
    exact ⟨rfl,rfl⟩
  dsimp only at h1 h2 h3 h4 ⊢
  have hne : ¬ a = 0 := by omega
  have HR : Hid (∀ W,Calls Tryz.prog 99 #[.int .i64 a] W fun e w' => e = .returned (.bool true) /\ w' = W) := fun W => right_yes a W h1 h2
  have HT : Hid (∀ W,Calls Tryz.prog 100 #[.int .i64 a,.int .u64 b] W fun e w' => e = .returned (.int .u64 b) /\ w' = W) := fun W => by
    have h9 := trim_any a b W h4; rw [h3] at h9; exact h9
  clear h3 h4
  go_enter Tryz.func60,Tryz.ntmps60
  go_wp2_with (first | (go_at_call 99; refine (HR.out _).mono ?_; rintro e w' ⟨rfl,rfl⟩) | (go_at_call 100; refine (HT.out _).mono ?_; rintro e w' ⟨rfl,rfl⟩))
  go_ret
  exact ⟨rfl,rfl⟩
def tellF (xs : List Vl) : ByteArray -> Option Vl := xs.foldl tupd (fun _ => none)
theorem tellF_snoc (xs : List Vl) (x : Vl) : tellF (xs ++ [x]) = tupd (tellF xs) x := by
  unfold tellF; rw [List.foldl_append]
  rfl
theorem tell_fol {s : ByteArray} : ∀ (xs : List Vl) (f : ByteArray -> Option Vl),(∀ x ∈ xs,¬ s = x.nm) -> xs.foldl tupd f s = f s
  | [],_,_ => rfl
  | x :: xs,f,h => by
    rw [List.foldl_cons,tell_fol xs _ (fun y hy => h y (List.mem_cons_of_mem _ hy)),tupd_other (h x (List.mem_cons_self ..))]
theorem tellF_none {xs : List Vl} {s : ByteArray} (h : ∀ x ∈ xs,¬ s = x.nm) : tellF xs s = none := tell_fol xs _ h
theorem take_vl {l : List Vl} {i : Nat} (h : i < l.length) : l.take (i + 1) = l.take i ++ [l.getD i vZ] := by
  rw [List.take_add_one,List.getD_eq_getElem?_getD,List.getElem?_eq_getElem h]
  rfl
def VR (w : World) (ad : Option Addr) (xs : List Vl) : Prop := 0 < xs.length -> ∃ b o,ad = some ⟨b,o,none⟩ /\ b < w.heap.size /\ ∀ j,j < xs.length -> w.cell? ⟨b,o + j * 3,none⟩ = some (.string (xs.getD j vZ).nm) /\ w.cell? ⟨b,o + j * 3 + 1,none⟩ = some (.int .i64 (xs.getD j vZ).w) /\ w.cell? ⟨b,o + j * 3 + 2,none⟩ = some (.int .u64 (xs.getD j vZ).num)
theorem VR.below {w w' : World} {ad : Option Addr} {xs : List Vl} (h : VR w ad xs) (hb : Below w.heap.size w w') : VR w' ad xs := fun h0 => by
  obtain ⟨b,o,e,hl,hc⟩ := h h0; have k : ∀ i v,w.cell? ⟨b,i,none⟩ = some v -> w'.cell? ⟨b,i,none⟩ = some v := fun i v hv => (World.cell?_of_block (w' := w') (w := w) (a := ⟨b,i,none⟩) (hb.block b hl)).trans hv
  exact ⟨b,o,e,Nat.lt_of_lt_of_le hl hb.size,fun j hj => ⟨k _ _ (hc j hj).1,k _ _ (hc j hj).2.1,k _ _ (hc j hj).2.2⟩⟩
theorem make_told (n : Int) (w : World) : (Instr.makeMap 89 (some (.int .i64 n))).run Tryz.prog w = .ok (.map (some w.heap.size)) (w.alloc (.map #[] 0)) := by
  simp [Instr.makeMap,run_underlying Tryz.underlying89,asInt,asIntOf,Result.andThen]
theorem told_ok {ad : Option Addr} {cp : Nat} {xs : List Vl} (w : World) (h : VR w ad xs) (hl : xs.length <= 1000000000000) (hn : ∀ i j,i < j -> j < xs.length -> ¬ (xs.getD j vZ).nm = (xs.getD i vZ).nm) (hg : ∀ x ∈ xs,nmB x.nm = true /\ x.nm.size <= 140737488355328 /\ okV x) :
    Calls Tryz.prog 35 #[.slice ad xs.length cp] w fun e w' => e = .returned (.tuple #[.map (some w.heap.size),.int .i64 0]) /\ TMP w' w.heap.size xs.length (tellF xs) /\ Below w.heap.size w w' := by
  generalize hPP : (fun (e : Ending) (w' : World) => e = .returned (.tuple #[.map (some w.heap.size),.int .i64 0]) /\ TMP w' w.heap.size xs.length (tellF xs) /\ Below w.heap.size w w') = PP
  obtain ⟨k,hk⟩ : ∃ k,xs.length = k := ⟨_,rfl⟩; have HPP : Hid (∀ w',TMP w' w.heap.size k (tellF xs) -> Below w.heap.size w w' -> PP (.returned (.tuple #[.map (some w.heap.size),.int .i64 0])) w') := fun w' h1 h2 => by rw [<- hPP]; subst hk; exact ⟨rfl,h1,h2⟩
  clear hPP; have HK : Hid (xs.length = k) := hk; have HV : Hid (VR w ad xs) := h; have HN : Hid (∀ i j,i < j -> j < xs.length -> ¬ (xs.getD j vZ).nm = (xs.getD i vZ).nm) := hn; have HG : Hid (∀ x ∈ xs,nmB x.nm = true /\ x.nm.size <= 140737488355328 /\ okV x) := hg; rw [hk] at hl ⊢; clear hk h hn hg; have eM := make_told (k : Int)
  go_enter Tryz.func35,Tryz.ntmps35
  go_wp2_with fail
  clear eM; obtain ⟨W0,hW0⟩ : ∃ W0,w.alloc (Obj.map #[] 0) = W0 := ⟨_,rfl⟩; have HW : Hid (TMP W0 w.heap.size 0 (tellF (xs.take 0)) /\ Below w.heap.size w W0) := by
    rw [<- hW0]; exact ⟨TMP.made (heap_alloc_new w _),bel1 w _⟩
  rw [hW0]; clear hW0
  go_loopg [16] k (fun gk s16 wr => ∃ i : Nat,s16 = .int .i64 (i : Int) /\ i + gk = k /\ TMP wr w.heap.size i (tellF (xs.take i)) /\ Below w.heap.size w wr)
  case atStart => exact ⟨0,rfl,by omega,HW.out⟩
  case round =>
    obtain ⟨i,rfl,hi,hm,hb⟩ := hrel; have HR : Hid (TMP wr w.heap.size i (tellF (xs.take i)) /\ Below w.heap.size w wr) := ⟨hm,hb⟩; clear hm hb
    by_cases hlt : i < k
    · have hlx : i < xs.length := by rw [HK.out]; exact hlt
      obtain ⟨b,o,rfl,hbl,hc⟩ := (HV.out.below HR.out.2) (by rw [HK.out]; omega); obtain ⟨c1,c2,c3⟩ := hc i hlx; have q1 : (i : Int) < (k : Int) := by omega
      have hxm : xs.getD i vZ ∈ xs := by rw [List.getD_eq_getElem?_getD,List.getElem?_eq_getElem hlx]; exact List.getElem_mem _
      obtain ⟨g1,g2,g3⟩ := HG.out _ hxm; have hnone : tellF (xs.take i) (xs.getD i vZ).nm = none := tellF_none fun y hy => by
        obtain ⟨j,hj,e⟩ := List.mem_take_iff_getElem.1 hy; have hji : j < i := by omega
        have h7 := HN.out j i hji hlx; rw [show xs.getD j vZ = y by rw [<- e,List.getD_eq_getElem?_getD,List.getElem?_eq_getElem (by omega)]; rfl] at h7; exact h7
      have HLk : Hid (∀ W,Below wr.heap.size wr W -> (Instr.lookup 89 (.map (some w.heap.size)) (.string (xs.getD i vZ).nm) true).run Tryz.prog W = .ok (.tuple #[vV vZ,.bool false]) W) := fun W hb => by
        have h9 := (HR.out.1.below hb).look_ok (xs.getD i vZ).nm g2; rw [hnone] at h9; exact h9
      have HNm : Hid (∀ W,Calls Tryz.prog 47 #[.string (xs.getD i vZ).nm] W fun e w' => e = .returned (.bool true) /\ Below W.heap.size W w') := fun W => by
        have h9 := name_bel (xs.getD i vZ).nm W (by unfold maxLen; omega); rw [g1] at h9; exact h9
      have HPu : Hid (∀ W,Below wr.heap.size wr W -> ∃ w',(Instr.mapUpdate 89 (.map (some w.heap.size)) (.string (xs.getD i vZ).nm) (vV (xs.getD i vZ))).run Tryz.prog W = .ok () w' /\ TMP w' w.heap.size (i + 1) (tellF (xs.take (i + 1))) /\ Below w.heap.size w w') := fun W hb => by
        obtain ⟨w',h1,h2,h3⟩ := (HR.out.1.below hb).put (by omega) (xs.getD i vZ) g2; rw [<- tellF_snoc,<- take_vl hlx] at h2; have h4 := HR.out.2.trans (below_le' hb HR.out.2.size); exact ⟨w',h1,h2,⟨h3.os.trans h4.os,h3.tape.trans h4.tape,h3.output.trans h4.output,Nat.le_trans h4.size h3.size,fun j hj => (h3.block j (Nat.lt_of_lt_of_le hj h4.size) (fun e => by cases e; omega)).trans (h4.block j hj)⟩⟩
      clear hc g1 g2 g3 hnone hxm
      generalize xs.getD i vZ = x at *
      obtain ⟨nm,xw,xn⟩ := x; unfold vV at HLk HPu
      dsimp only [vZ] at HLk HPu HNm c1 c2 c3
      have hlk := HLk.out _ (bel1 wr (Obj.cells #[.string nm,.int .i64 xw,.int .u64 xn] 38 (0,0))); have HC : Hid (∀ o w5,Below ((wr.alloc (Obj.cells #[.string nm,.int .i64 xw,.int .u64 xn] 38 (0,0))).alloc o).heap.size ((wr.alloc (Obj.cells #[.string nm,.int .i64 xw,.int .u64 xn] 38 (0,0))).alloc o) w5 -> Below wr.heap.size wr w5 /\ w5.cell? ⟨wr.heap.size,0,none⟩ = some (.string nm) /\ w5.cell? ⟨wr.heap.size,1,none⟩ = some (.int .i64 xw) /\ w5.cell? ⟨wr.heap.size,2,none⟩ = some (.int .u64 xn)) := fun o w5 hb5 => by
        have hbk := ((hb5.block wr.heap.size (by simp; omega)).trans (Below.heap_alloc _ _ _ (by simp))).trans (heap_alloc_new wr _); exact ⟨(bel2 wr _ _).trans (below_le' hb5 (by simp; omega)),blk_cell hbk 0,blk_cell hbk 1,blk_cell hbk 2⟩
      go_wp2_with fail
      refine (HNm.out _).mono ?_; rintro e w5 ⟨rfl,hb5⟩; obtain ⟨hw5,k0,k1,k2⟩ := HC.out _ _ hb5; obtain ⟨w6,hput,ht6,hb6⟩ := HPu.out _ hw5; have H6 : Hid (TMP w6 w.heap.size (i + 1) (tellF (xs.take (i + 1))) /\ Below w.heap.size w w6) := ⟨ht6,hb6⟩; clear hb5 hw5 ht6 hb6 HC HPu HNm HLk hlk c1 c2 c3
      go_wp2_with fail
      go_roundg (gk - 1)
      case measure => omega
      case rel => exact ⟨i + 1,by simp,by omega,H6.out⟩
    have hik : i = k := by omega
    subst hik; have ht : xs.take i = xs := by rw [<- HK.out,List.take_length]
    rw [ht] at HR; clear ht
    go_wp2_with fail
    go_loopg [41] i (fun gk s41 wr => ∃ j : Nat,s41 = .int .i64 (j : Int) /\ j + gk = i /\ TMP wr w.heap.size i (tellF xs) /\ Below w.heap.size w wr)
    case atStart => exact ⟨0,rfl,by omega,HR.out⟩
    case round =>
      obtain ⟨j,rfl,hi,hm,hb⟩ := hrel; have HS : Hid (TMP wr w.heap.size i (tellF xs) /\ Below w.heap.size w wr) := ⟨hm,hb⟩; clear hm hb
      by_cases hlt : j < i
      · have hlx : j < xs.length := by rw [HK.out]; exact hlt
        obtain ⟨b,o,rfl,hbl,hc⟩ := (HV.out.below HS.out.2) (by rw [HK.out]; omega); obtain ⟨c1,c2,c3⟩ := hc j hlx; have q1 : (j : Int) < (i : Int) := by omega
        have hxm : xs.getD j vZ ∈ xs := by rw [List.getD_eq_getElem?_getD,List.getElem?_eq_getElem hlx]; exact List.getElem_mem _
        have HH : Hid (∀ W,Calls Tryz.prog 60 #[.int .i64 (xs.getD j vZ).w,.int .u64 (xs.getD j vZ).num] W fun e w' => e = .returned (.bool true) /\ w' = W) := fun W => holds_yes _ (HG.out _ hxm).2.2 W
        have HE : Hid (∀ (o : Obj),TMP (wr.alloc o) w.heap.size i (tellF xs) /\ Below w.heap.size w (wr.alloc o)) := fun o => ⟨HS.out.1.below (bel1 _ _),HS.out.2.trans (below_le' (bel1 wr o) HS.out.2.size)⟩
        clear hc hxm
        generalize xs.getD j vZ = x at *
        obtain ⟨nm,xw,xn⟩ := x
        dsimp only at HH c1 c2 c3
        go_wp2_with fail
        refine (HH.out _).mono ?_; rintro e w5 ⟨rfl,rfl⟩
        go_wp2_with fail
        go_roundg (gk - 1)
        case measure => omega
        case rel => exact ⟨j + 1,by simp,by omega,HE.out _⟩
      have hji : j = i := by omega
      subst hji
      go_wp2_with fail
      exact HPP.out _ HS.out.1 HS.out.2
end Go.Proofs.YtkpapgfbnledpaaGreatDoor
