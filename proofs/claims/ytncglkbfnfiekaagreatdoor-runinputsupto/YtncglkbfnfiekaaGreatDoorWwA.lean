import Derived.Test.YtncglkbfnfiekaaGreatDoorSqA
import Derived.WalkKit
import Derived.ProofKit
import Derived.OpenShut
import Derived.WalkSpells
import Derived.LoopTactic
import Derived.Below
import Derived.Deep.LoopGhost
import Derived.Deep.Draws
import Derived.Deep.QuietTactic
import Derived.Deep.RegionLaw
import Derived.Deep.AppendLies
import Derived.Deep.Cut
import Derived.Lib.Hide
import Derived.Laws.ResultCell
import Derived.Laws.Rows
import Derived.Laws.CopyOwn
import Derived.Deep.OwnRows
import Derived.BigQuiet
namespace Go.Proofs.YtncglkbfnfiekaaGreatDoor
open Go.ChangeShapes Go.WideShapes Go.ChangeAt Go.RowKit Go.Lib

def hiE (c : Int) : Int := IntKind.u64.wrap (IntKind.u64.wrap (IntKind.u64.wrap (IntKind.u64.wrap (bits BinOp.and IntKind.u64 1 4294967295 * bits BinOp.and IntKind.u64 c 4294967295) / 4294967296) / 4294967296) + IntKind.u64.wrap (bits BinOp.and IntKind.u64 (IntKind.u64.wrap (IntKind.u64.wrap (bits BinOp.and IntKind.u64 1 4294967295 * bits BinOp.and IntKind.u64 c 4294967295) / 4294967296)) 4294967295 + IntKind.u64.wrap (bits BinOp.and IntKind.u64 1 4294967295 * (c / 4294967296))) / 4294967296)
theorem hiE_fin : ∀ c : Fin 257,hiE (c.val : Int) = 0 := by decide +kernel
theorem madeF (c : Nat) : (madeCells #[Value.bool false] c).toList = List.replicate c (.bool false) := by
  simp only [madeCells]; refine List.ext_getElem (by simp) (fun j h1 h2 => ?_)
  simp [Nat.mod_one]
theorem splice_first (c : Nat) (x y : Value) (h : 1 <= c) : splice (List.replicate c x) 0 [y] = List.replicate 1 y ++ List.replicate (c - 1) x := by
  obtain ⟨d,rfl⟩ : ∃ d,c = d + 1 := ⟨c - 1,by omega⟩
  simp [splice,List.replicate_succ]
theorem splice_rep (n m : Nat) (R : List Value) (y : Value) : splice (List.replicate n y ++ R) n (List.replicate m y) = List.replicate (n + m) y ++ R.drop m := by
  unfold splice; rw [List.take_left' (by simp),<- List.append_assoc,List.replicate_append_replicate]
  congr 1
  rw [List.length_replicate,List.drop_append,List.length_replicate,List.drop_eq_nil_of_le (by simp),List.nil_append]
  congr 1
  omega
theorem wp_copy_splice {P : Program} {o : Oper} {a : Act} {w : World} {K : Act -> World -> Prop} {Q : Exit -> Act -> World -> Prop} (hgd : o.guard = none) (d s : Operand) (dT sT : TypeId)
    (ho : o.op = .call { callee := .builtin .copy,args := #[d,s],argTypes := #[dT,sT] }) (elem : TypeId) (hu : P.underlying dT = some (.slice elem)) (hsz : (P.info? elem).map (·.size) = some 1)
    (dp sp : Option Addr) (dLen dCap sLen sCap : Nat) (hd : a.eval d = .slice dp dLen dCap) (hs : a.eval s = .slice sp sLen sCap)
    (g off : Nat) (cur : List Value) (t : TypeId) (hg : w.heap[g]? = some (.cells cur.toArray t (0,0))) (cs : List Value) (hn : cs.length = Nat.min sLen dLen)
    (hpos : 0 < cs.length -> dp = some ⟨g,off,none⟩ /\ ∃ ad,sp = some ad /\ ∀ j v,cs[j]? = some v -> w.cell? (ad.add j) = some v)
    (hfit : off + cs.length <= cur.length) (h1 : ∀ v ∈ cs,v.oneCell' = true) (B : Nat) (w0 : World) (hb : Below B w0 w) (hBg : B <= g)
    (h : ∀ w',Hid (w'.heap[g]? = some (.cells (splice cur off cs).toArray t (0,0))) -> Below B w0 w' -> K (a.put o.dst (goInt cs.length)) w') : Oper.wp P o a w K Q := by
  have h5 := step_copy_splice (ops := #[]) (E := True) hgd d s dT sT ho elem hu hsz dp sp dLen dCap sLen sCap hd hs g off cur t hg cs hn hpos hfit h1 B w0 hb hBg h (Q := Q)
  rwa [if_pos (by simp [Region.wanted,hgd])] at h5
theorem hiE_nat (c : Nat) (h : c <= 256) : hiE (c : Int) = 0 := hiE_fin ⟨c,by omega⟩
set_option maxHeartbeats 4000000 in
set_option maxRecDepth 100000 in
theorem mul64_one (c : Nat) (hc : c <= 256) (w : World) : Calls Tryz.prog 31 #[.int .u64 1,.int .u64 (c : Int)] w fun e w' => e = .returned (.tuple #[.int .u64 0,.int .u64 (c : Int)]) /\ w' = w := by
  have h5 := hiE_nat c hc; unfold hiE at h5; have H5 : Hid (_ = (0 : Int)) := h5; clear h5
  go_enter Tryz.func31,Tryz.ntmps31
  go_wp2_with fail
  rw [H5.out]; exact ⟨rfl,_,by simp [results,Tryz.results31,go_sem],rfl,rfl⟩
set_option maxHeartbeats 4000000 in
set_option maxRecDepth 100000 in
theorem mul_one_ (c : Nat) (hc : c <= 256) (w : World) : Calls Tryz.prog 24 #[.int .u64 1,.int .u64 (c : Int)] w fun e w' => e = .returned (.tuple #[.int .u64 0,.int .u64 (c : Int)]) /\ w' = w := by
  have HC : Hid (Calls Tryz.prog 31 #[.int .u64 1,.int .u64 (c : Int)] w fun e w' => e = .returned (.tuple #[.int .u64 0,.int .u64 (c : Int)]) /\ w' = w) := mul64_one c hc w
  go_enter Tryz.func24,Tryz.ntmps24
  go_wp2_with fail
  refine HC.out.mono ?_; rintro e w' ⟨rfl,hw⟩; subst w'
  go_wp2_with fail
  exact ⟨rfl,_,by simp [results,Tryz.results24,go_sem],rfl,rfl⟩
theorem cell_ofA {w : World} {G : Nat} {cs : Array Value} {e : TypeId} (h : w.heap[G]? = some (.cells cs e (0,0))) (j : Nat) : w.cell? ⟨G,j,none⟩ = cs[j]? := by
  simp [World.cell?,h]
theorem fz_of {w : World} {G : Nat} {cs : Array Value} {e : TypeId} (h : w.heap[G]? = some (.cells cs e (0,0))) (j : Nat) : w.frozen? ⟨G,j,none⟩ = false := by simp [World.frozen?,h]
theorem cell_blt0 {w : World} {a : Addr} {v : Value} (h : w.cell? a = some v) : a.block < w.heap.size := by
  by_cases e : a.block < w.heap.size
  · exact e
  have : w.heap[a.block]? = none := Array.getElem?_eq_none (by omega)
  simp [World.cell?,this] at h
set_option maxHeartbeats 4000000 in
set_option maxRecDepth 100000 in
/-- a truth told so many times -/
theorem repeat_any (g0 c : Nat) (v : Bool) (hc : c <= 256) (h1 : 1 <= c) (w : World) (hg : w.cell? ⟨g0,0,none⟩ = some (.bool v)) : Calls Tryz.prog 17 #[.slice (some ⟨g0,0,none⟩) 1 1,.int .i64 (c : Int)] w fun e w' => e = .returned (.slice (some ⟨w.heap.size,0,none⟩) c c) /\ w'.heap[w.heap.size]? = some (.cells (List.replicate c (.bool v)).toArray 4 (0,0)) /\ Below w.heap.size w w' := by
  have HC : Hid (∀ W,Calls Tryz.prog 24 #[.int .u64 1,.int .u64 (c : Int)] W fun e w' => e = .returned (.tuple #[.int .u64 0,.int .u64 (c : Int)]) /\ w' = W) := fun W => mul_one_ c hc W
  have q0 : ¬ (c : Int) < 0 := by omega
  go_enter Tryz.func17,Tryz.ntmps17
  go_wp2_with fail
  refine (HC.out _).mono ?_; rintro e w' ⟨rfl,hw⟩; subst w'; have q2 : ¬ (9223372036854775807 : Int) < (c : Int) := by omega
  obtain ⟨i0,hi0,hz0,hz1,hz2⟩ := info_parts (P := Tryz.prog) (e := 4) (z := .bool false) (size := 1) (bytes := 1) (by kernel_rfl)
  go_upto_region 6 with fail
  obtain ⟨G,hG⟩ : ∃ G,w.heap.size = G := ⟨_,rfl⟩; obtain ⟨W1,hW1⟩ : ∃ W1,w.alloc (.cells (madeCells #[.bool false] c) 4) = W1 := ⟨_,rfl⟩; have hb1 : Below w.heap.size w W1 := by rw [<- hW1]; exact (Below.refl _ _).alloc (Nat.le_refl _) _
  have hr1 : W1.heap[G]? = some (.cells (List.replicate c (.bool false)).toArray 4 (0,0)) := by rw [<- hW1,<- hG,<- madeF]; exact heap_alloc_new _ _
  have hc1 : W1.cell? ⟨g0,0,none⟩ = some (.bool v) := by
    rw [<- hg]; exact World.cell?_of_block (a := ⟨g0,0,none⟩) (hb1.block g0 (cell_blt0 hg))
  have HW1 : Hid (w.alloc (.cells (madeCells #[.bool false] c) 4) = W1 /\ w.heap.size = G) := ⟨hW1,hG⟩; have HB1 : Hid (Below w.heap.size w W1) := hb1; have HR1 : Hid (W1.heap[G]? = some (.cells (List.replicate c (.bool false)).toArray 4 (0,0))) := hr1; have HC1 : Hid (∀ j u,([Value.bool v])[j]? = some u -> W1.cell? ((⟨g0,0,none⟩ : Addr).add j) = some u) := fun j u hu => by
    cases j with
    | zero => cases hu; rw [Addr.add_lit]; exact hc1
    | succ j => simp at hu
  clear hb1 hr1 hc1 hW1 hG hg HC
  go_upto_region 7 with (refine wpList_make_row _ rfl _ _ 30 rfl 4 i0 (.bool false) Tryz.underlying30 hi0 hz0 hz1 rfl .i64 .i64 c rfl rfl (by rw [hz2]; omega) (by omega) ?_)
  rw [HW1.out.1,HW1.out.2]
  go_wp2_with (refine wpList_copy_splice rfl _ _ 30 30 rfl 4 Tryz.underlying30 (by kernel_rfl) (some ⟨G,0,none⟩) (some ⟨g0,0,none⟩) c c 1 1 rfl rfl G 0 _ 4 HR1.out [.bool v] (Nat.min_eq_left h1).symm (fun _ => ⟨rfl,_,rfl,HC1.out⟩) (by simpa using h1) (by intro u hu; simp at hu; subst hu; rfl) w.heap.size w HB1.out (by rw [HW1.out.2]; exact Nat.le_refl _) ?_)
  intro W2 hr2 hb2; rw [splice_first c _ _ h1] at hr2; have H2 : Hid (∃ R : List Value,1 + R.length = c /\ W2.heap[G]? = some (.cells (List.replicate 1 (Value.bool v) ++ R).toArray 4 (0,0)) /\ Below w.heap.size w W2) := ⟨_,by simp; omega,hr2.out,hb2⟩; clear hr2 hb2 HC1 HR1 HB1 hi0 hz0 hz1 hz2
  go_wp2_with fail
  go_loopg [8] c (fun gk v8 wr => ∃ n : Nat,v8 = .int .i64 (n : Int) /\ n + gk = c + 1 /\ 1 <= n /\ n <= c /\ Aside (∃ R : List Value,n + R.length = c /\ wr.heap[G]? = some (.cells (List.replicate n (Value.bool v) ++ R).toArray 4 (0,0)) /\ Below w.heap.size w wr))
  case atStart => exact ⟨1,by rfl,by omega,by omega,by omega,H2.out⟩
  case round =>
    obtain ⟨n,rfl,hn,hn1,hnc,HR⟩ := hrel
    by_cases hlt : n < c
    · have q1 : (n : Int) < (c : Int) := by omega
      obtain ⟨R,hRl,hr,hb⟩ := HR.out; obtain ⟨m,hm⟩ : ∃ m,Nat.min n (c - n) = m := ⟨_,rfl⟩; have hm1 : 1 <= m /\ m <= n /\ m <= c - n := by rw [<- hm]; exact ⟨Nat.le_min.2 ⟨hn1,by omega⟩,Nat.min_le_left _ _,Nat.min_le_right _ _⟩
      have Hm : Hid (Nat.min n (c - n) = m) := hm; have HRn : Hid (n + R.length = c /\ wr.heap[G]? = some (.cells (List.replicate n (Value.bool v) ++ R).toArray 4 (0,0)) /\ Below w.heap.size w wr.drew) := ⟨hRl,hr,⟨hb.os,hb.tape,hb.output,hb.size,hb.block⟩⟩; have HS : Hid (∀ j u,(List.replicate m (Value.bool v))[j]? = some u -> wr.drew.cell? ((⟨G,0,none⟩ : Addr).add j) = some u) := fun j u hu => by
        obtain ⟨hj,e⟩ := List.getElem?_eq_some_iff.1 hu; rw [List.length_replicate] at hj; rw [Addr.add_lit]; have h6 := cell_ofA (w := wr.drew) hr j; rw [Nat.zero_add,h6,List.getElem?_toArray,List.getElem?_append_left (by simp; omega),<- hu,List.getElem?_replicate,List.getElem?_replicate,if_pos (by omega),if_pos hj]
      clear hr hb hm HR hRl
      go_upto_region 9 with fail
      refine wp_region_held_drew (S := (fun _ => True)) (by kernel_rfl) trivial (fun hHeld => ?_); refine sq_of [7] [0,1,2,3,4,5,6,7,8,9] (by kernel_rfl) hHeld ?_
      repeat (first | (refine sq_skip (by rfl) (by rfl) ?_; simp only [Act.put,z0,z1,z2]) | (refine sq_op (v := ?_) (by rfl) (by rfl) (by rfl) ?_ ?_; rotate_left; (focus (intro w hSw; (try dsimp only at hSw); go_simp <;> with_reducible rfl)); simp only [Act.put,z0,z1,z2]))
      rw [if_neg (show ¬ c = n by omega)]; refine sq_do (by rfl) (by rfl) (by rfl) (fun K hK => ?_)
      refine wp_copy_splice rfl (.tmp 41) (.tmp 44) 30 30 rfl 4 Tryz.underlying30 (by kernel_rfl) (some ⟨G,n,none⟩) (some ⟨G,0,none⟩) (c - n) (c - n) n c rfl rfl G n (List.replicate n (Value.bool v) ++ R) 4 HRn.out.2.1 (List.replicate m (.bool v)) (by rw [List.length_replicate]; exact Hm.out.symm) (fun _ => ⟨rfl,_,rfl,HS.out⟩) (by rw [List.length_replicate,List.length_append,List.length_replicate]; have := HRn.out.1; omega) (by intro u hu; rw [List.eq_of_mem_replicate hu]; rfl) w.heap.size w HRn.out.2.2 (by rw [HW1.out.2]; exact Nat.le_refl _) ?_; intro w3 hr3 hb3; rw [splice_rep] at hr3; have H3 : Hid (∃ R : List Value,n + m + R.length = c /\ w3.heap[G]? = some (.cells (List.replicate (n + m) (Value.bool v) ++ R).toArray 4 (0,0)) /\ Below w.heap.size w w3) := ⟨_,by have := HRn.out.1; rw [List.length_drop]; omega,hr3.out,hb3⟩; clear hr3 hb3 HRn HS hHeld; rw [List.length_replicate]; refine hK.out _ _ trivial (fun _ => ?_); clear hK K
      try simp only [Act.put,z0,z1,z2]
      repeat (first | (refine sq_skip (by rfl) (by rfl) ?_; simp only [Act.put,z0,z1,z2]) | (refine sq_op (v := ?_) (by rfl) (by rfl) (by rfl) ?_ ?_; rotate_left; (focus (intro w hSw; (try dsimp only at hSw); go_simp <;> with_reducible rfl)); simp only [Act.put,z0,z1,z2]))
      refine sq_end (fun _ => ?_)
      go_wp2_with fail
      go_roundg (c + 1 - (n + m))
      case measure => omega
      case rel => exact ⟨n + m,by simp; rw [IntKind.wrap_i64]; omega,by omega,by omega,by omega,H3.out⟩
    obtain rfl : c = n := by omega
    have q1 : ¬ (c : Int) < (c : Int) := by omega
    have HZ : Hid (wr.heap[G]? = some (.cells (List.replicate c (.bool v)).toArray 4 (0,0)) /\ Below w.heap.size w wr) := by
      obtain ⟨R,hRl,hr,hb⟩ := HR.out; obtain rfl : R = [] := List.eq_nil_of_length_eq_zero (by omega); rw [List.append_nil] at hr; exact ⟨hr,hb⟩
    clear HR
    go_wp2_with fail
    go_ret
    exact ⟨by rw [HW1.out.2]; rfl,by rw [HW1.out.2]; exact HZ.out.1,HZ.out.2⟩
set_option maxHeartbeats 4000000 in
set_option maxRecDepth 100000 in
theorem isInput_any (b f : Nat) (z : Int) (w : World) (hc : w.cell? ⟨b,f,none⟩ = some (.int .i64 z)) : Calls Tryz.prog 16 #[.pointer (some ⟨b,f,none⟩)] w fun e w' => e = .returned (.bool (decide (z = 1 ∨ z = 2))) /\ w' = w := by
  by_cases h1 : z = 1
  · subst h1
    go_enter Tryz.func16,Tryz.ntmps16
    go_wp2_with fail
    go_ret
    exact ⟨rfl,rfl⟩
  have q1 : (z == 1) = false := by simp [h1]
  by_cases h2 : z = 2
  · subst h2
    go_enter Tryz.func16,Tryz.ntmps16
    go_wp2_with fail
    go_ret
    exact ⟨rfl,rfl⟩
  have q2 : (z == 2) = false := by simp [h2]
  go_enter Tryz.func16,Tryz.ntmps16
  go_wp2_with fail
  go_ret
  exact ⟨by simp [h1,h2],rfl⟩
end Go.Proofs.YtncglkbfnfiekaaGreatDoor
