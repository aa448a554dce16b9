import Derived.Test.YtkpapgfbnledpaaGreatDoorTmE3
import Derived.Test.YtkpapgfbnledpaaGreatDoorTmN
import Derived.Shelf.Pu.Clone
import Derived.Deep.RegionHeld3
set_option maxHeartbeats 8000000
set_option maxRecDepth 100000
namespace Go.Proofs.YtkpapgfbnledpaaGreatDoor
open Go.ChangeShapes Go.WideShapes Go.ChangeAt Go.RowKit Go.Lib Go.Tm Go.Bw Go.Bn Go.WideMaps Go.Maps Go.ChangeMaps

theorem namef_any (ty : TypeId) (B0 B : Nat) (lim : Int) (L : List Nd) (v : Value) (M1 M2 : Option Nat) (n : Nd) (w : World) (h : SM ty w B0 B lim L v M1 M2) (hn : n.name.size <= 140737488355328) :
    Calls Tryz.prog 93 #[.pointer (some ⟨B,0,none⟩),nodeV n] w fun e w' => e = .returned (.bool (nf L n)) /\ Below w.heap.size w w' := by
  have HN : Hid (∀ W,Calls Tryz.prog 47 #[.string n.name] W fun e w' => e = .returned (.bool (nmB n.name)) /\ Below W.heap.size W w') := fun W => name_bel n.name W (by unfold maxLen; omega)
  have HR : Hid (nf L n = (nmB n.name && (match vw n.name L with | none => true | some u => decide (u = n.w)))) := rfl; have HS : Hid (SM ty w B0 B lim L v M1 M2) := h; have HK : Hid (n.name.size <= 140737488355328) := hn; obtain ⟨op,u,a,b,c,num,nm⟩ := n
  dsimp only at HN HR HK
  clear h hn
  generalize nf L ⟨op,u,a,b,c,num,nm⟩ = R at *
  cases hnm : nmB nm with
  | false =>
    rw [hnm] at HN HR
    go_enter Tryz.func93,Tryz.ntmps93
    go_wp2_with (go_at_call 47; refine (HN.out _).mono ?_; rintro e w1 ⟨rfl,hb⟩)
    go_ret
    exact ⟨ret_bool (by rw [HR.out]; rfl),(bel1 _ _).trans (hb.mono (by simp))⟩
  | true =>
    rw [hnm] at HN HR
    go_enter Tryz.func93,Tryz.ntmps93
    go_wp2_with fail
    refine (HN.out _).mono ?_; rintro e w1 ⟨rfl,hb⟩; have hb1 : Below w.heap.size w w1 := (bel1 _ _).trans (hb.mono (by simp)); have hS1 := HS.out.below hb1; have hlt : w.heap.size < w1.heap.size := by have := hb.size; simp at this; omega
    obtain ⟨D,hm,hF⟩ := hS1.m2; have hrun := hF.look lawS Tryz.underlying76 hm nm HK.out; have hrunD := hF.look lawS Tryz.underlying76 hm.drew nm HK.out; have c3 : w1.cell? ⟨B,3,none⟩ = some (.map M2) := blk_cell hS1.blk 3; have hnode : ∀ j,j < 7 -> w1.cell? ⟨w.heap.size,j,none⟩ = (#[Value.int .i64 op,.int .i64 u,.int .i64 a,.int .i64 b,.int .i64 c,.int .u64 num,.string nm] : Array Value)[j]? := fun j hj => by
      rw [hb.cell (p := ⟨w.heap.size,j,none⟩) (by simp)]; exact blk_cell (heap_alloc_new w _) j
    have d1 : w1.cell? ⟨w.heap.size,1,none⟩ = some (.int .i64 u) := hnode 1 (by omega); have d6 : w1.cell? ⟨w.heap.size,6,none⟩ = some (.string nm) := hnode 6 (by omega); clear hS1 hm hF hnode hb; unfold varF at hrun hrunD; cases hv : vw nm L with
    | none =>
      rw [hv] at hrun hrunD HR
      go_wp2
      go_region
      all_goals go_wp2
      all_goals go_ret
      all_goals exact ⟨ret_bool (by rw [HR.out]; rfl),by first | exact hb1.drew | exact hb1⟩
    | some x =>
      rw [hv] at hrun hrunD HR
      go_wp2
      go_region
      all_goals go_wp2
      all_goals go_ret
      all_goals exact ⟨ret_bool (by rw [HR.out]; rfl),by first | exact hb1.drew | exact hb1⟩
end Go.Proofs.YtkpapgfbnledpaaGreatDoor
namespace Go.Proofs.YtkpapgfbnledpaaGreatDoor
open Go.ChangeShapes Go.WideShapes Go.ChangeAt Go.RowKit Go.Lib Go.Tm Go.Bw Go.Bn Go.WideMaps Go.Maps Go.ChangeMaps

theorem box_cells {w W : World} {cs : Array Value} {ty : TypeId} {fr : Nat × Nat} (hb : Below (w.heap.size + 1) (w.alloc (.cells cs ty fr)) W) (j : Nat) : W.cell? ⟨w.heap.size,j,none⟩ = cs[j]? := by
  rw [hb.cell (p := ⟨w.heap.size,j,none⟩) (by simp)]; exact blk_cell (heap_alloc_new w _) j
theorem box_next {w W W' : World} {o : Obj} (h1 : Below (w.heap.size + 1) (w.alloc o) W) (h2 : Below W.heap.size W W') : Below (w.heap.size + 1) (w.alloc o) W' := h1.trans (h2.mono (by have := h1.size; simp at this; omega))
theorem box_old {w W : World} {o : Obj} (h1 : Below (w.heap.size + 1) (w.alloc o) W) : Below w.heap.size w W := (bel1 w o).trans (h1.mono (by omega))
def KP (w W : World) : Prop := Aside (Below w.heap.size w W)
theorem KP.out {w W : World} (h : KP w W) : Below w.heap.size w W := Aside.out h
theorem KP.refl (w : World) : KP w w := Below.refl _ _
theorem KP.refl' (w : World) : KP w w.drew := (Below.refl _ _).drew
theorem KP.drew {w W : World} (h : KP w W) : KP w W.drew := Below.drew h.out
theorem KP.alloc {w W : World} (h : KP w W) (o : Obj) : KP w (W.alloc o) := h.out.alloc h.out.size o
theorem box_refl (w : World) (o : Obj) : Below (w.heap.size + 1) (w.alloc o) (w.alloc o) := Below.refl _ _
theorem refuse_any (ty : TypeId) (B0 B : Nat) (lim : Int) (L : List Nd) (v : Value) (M1 M2 : Option Nat) (n : Nd) (w : World) (h : SM ty w B0 B lim L v M1 M2) (hn : n.ok) :
    Calls Tryz.prog 56 #[.pointer (some ⟨B,0,none⟩),nodeV n] w fun e w' => e = .returned (.int .i64 (rfE L n)) /\ Below w.heap.size w w' := by
  have HR : Hid (rfE L n = if n.op < 1 ∨ 33 < n.op then 73 else if n.w < 0 ∨ 64 < n.w then 5 else if hp L n = false then 70 else if br n = false then 1
    else if sf n.op (wd L n.a) (wd L n.b) (wd L n.c) = false then 71 else if wf n.op n.w n.num (wd L n.a) (wd L n.b) = false then 5 else if n.op = 4 /\ nf L n = false then 72 else 0) := rfl
  have HP : Hid (∀ W,Below w.heap.size w W -> Calls Tryz.prog 88 #[.pointer (some ⟨B,0,none⟩),nodeV n] W fun e w' => e = .returned (.bool (hp L n)) /\ Below W.heap.size W w') := fun W hb => hasp_any ty B0 B lim L v M1 M2 n W (h.below hb)
  have HB : Hid (∀ W,Calls Tryz.prog 89 #[nodeV n] W fun e w' => e = .returned (.bool (br n)) /\ Below W.heap.size W w') := fun W => bare_any n W
  have HW : Hid (∀ W t,Below w.heap.size w W -> Calls Tryz.prog 90 #[.pointer (some ⟨B,0,none⟩),.int .i64 t] W fun e w' => e = .returned (.int .i64 (wd L t)) /\ w' = W) := fun W t hb => width_any ty B0 B lim L v M1 M2 t W (h.below hb)
  have HN : Hid (∀ W,Below w.heap.size w W -> Calls Tryz.prog 93 #[.pointer (some ⟨B,0,none⟩),nodeV n] W fun e w' => e = .returned (.bool (nf L n)) /\ Below W.heap.size W w') := fun W hb => namef_any ty B0 B lim L v M1 M2 n W (h.below hb) hn.name
  have HU : Hid (U n.num) := ⟨hn.num.1,by have := hn.num.2; omega⟩; have hx := wd_lo h.wds n.a; have hy := wd_lo h.wds n.b; obtain ⟨op,u,a,b,c,num,nm⟩ := n
  dsimp only at *
  generalize rfE L ⟨op,u,a,b,c,num,nm⟩ = E at *
  generalize hp L ⟨op,u,a,b,c,num,nm⟩ = PH at *
  generalize br ⟨op,u,a,b,c,num,nm⟩ = PB at *
  generalize nf L ⟨op,u,a,b,c,num,nm⟩ = PN at *
  clear h hn
  by_cases h1 : op < 1 ∨ 33 < op
  · have he : Hid (E = 73) := by show _ = _; rw [HR.out,if_pos h1]
    clear HR HP HB HW HN hx hy
    by_cases h1a : op < 1
    · have q1 : decide (op < 1) = true := decide_eq_true h1a
      clear h1
      go_enter Tryz.func56,Tryz.ntmps56
      go_wp2
      go_ret
      exact ⟨ret_int he.out.symm,bel1 _ _⟩
    have q1 : decide (op < 1) = false := decide_eq_false h1a; have q2 : decide (33 < op) = true := decide_eq_true (by omega); clear h1 h1a
    go_enter Tryz.func56,Tryz.ntmps56
    go_wp2
    go_ret
    exact ⟨ret_int he.out.symm,bel1 _ _⟩
  have h1a : 1 <= op := by omega
  have h1b : op <= 33 := by omega
  have q1 : decide (op < 1) = false := decide_eq_false (by omega); have q2 : decide (33 < op) = false := decide_eq_false (by omega)
  by_cases h2 : u < 0 ∨ 64 < u
  · have he : Hid (E = 5) := by show _ = _; rw [HR.out,if_neg h1,if_pos h2]
    clear HR HP HB HW HN hx hy
    by_cases h2a : u < 0
    · have q3 : decide (u < 0) = true := decide_eq_true h2a
      clear h1 h2
      go_enter Tryz.func56,Tryz.ntmps56
      go_wp2
      go_ret
      exact ⟨ret_int he.out.symm,bel1 _ _⟩
    have q3 : decide (u < 0) = false := decide_eq_false h2a; have q4 : decide (64 < u) = true := decide_eq_true (by omega); clear h1 h2 h2a
    go_enter Tryz.func56,Tryz.ntmps56
    go_wp2
    go_ret
    exact ⟨ret_int he.out.symm,bel1 _ _⟩
  have h2a : 0 <= u := by omega
  have h2b : u <= 64 := by omega
  have q3 : decide (u < 0) = false := decide_eq_false (by omega); have q4 : decide (64 < u) = false := decide_eq_false (by omega); have HS : Hid (∀ W,Calls Tryz.prog 91 #[.int .i64 op,.agg #[.int .i64 (wd L a),.int .i64 (wd L b),.int .i64 (wd L c)]] W fun e w' => e = .returned (.bool (sf op (wd L a) (wd L b) (wd L c))) /\ Below W.heap.size W w') := fun W => sorts_any _ _ _ _ W h1a h1b
  have HF : Hid (∀ W,sf op (wd L a) (wd L b) (wd L c) = true -> Calls Tryz.prog 92 #[nodeV ⟨op,u,a,b,c,num,nm⟩,.agg #[.int .i64 (wd L a),.int .i64 (wd L b),.int .i64 (wd L c)]] W fun e w' => e = .returned (.bool (wf op u num (wd L a) (wd L b))) /\ Below W.heap.size W w') := fun W hs => widthf_any ⟨op,u,a,b,c,num,nm⟩ _ _ _ W h1a h1b HU.out ⟨h2a,h2b⟩ hx hy hs
  have HR2 : Hid (E = if PH = false then 70 else if PB = false then 1 else if sf op (wd L a) (wd L b) (wd L c) = false then 71 else if wf op u num (wd L a) (wd L b) = false then 5 else if op = 4 /\ PN = false then 72 else 0) := by
    show _ = _
    rw [HR.out,if_neg h1,if_neg h2]
  clear HR h1 h2 hx hy
  generalize wf op u num (wd L a) (wd L b) = PW at *
  generalize sf op (wd L a) (wd L b) (wd L c) = PS at *
  have HXw0 : Hid (Below (w.heap.size + 1) (w.alloc (.cells #[.int .i64 op,.int .i64 u,.int .i64 a,.int .i64 b,.int .i64 c,.int .u64 num,.string nm] 40 (0,0))) (w.alloc (.cells #[.int .i64 op,.int .i64 u,.int .i64 a,.int .i64 b,.int .i64 c,.int .u64 num,.string nm] 40 (0,0)))) := box_refl _ _
  go_enter Tryz.func56,Tryz.ntmps56
  go_wp2_with fail
  refine (HP.out _ (bel1 _ _)).mono ?_; rintro e w1 ⟨rfl,hb⟩; have Xw1 : Below (w.heap.size + 1) (w.alloc (.cells #[.int .i64 op,.int .i64 u,.int .i64 a,.int .i64 b,.int .i64 c,.int .u64 num,.string nm] 40 (0,0))) w1 := box_next HXw0.out hb; have HXw1 : Hid (Below (w.heap.size + 1) (w.alloc (.cells #[.int .i64 op,.int .i64 u,.int .i64 a,.int .i64 b,.int .i64 c,.int .u64 num,.string nm] 40 (0,0))) w1) := Xw1; have d0 : w1.cell? ⟨w.heap.size,0,none⟩ = some (.int .i64 op) := box_cells Xw1 0; have d1 : w1.cell? ⟨w.heap.size,1,none⟩ = some (.int .i64 u) := box_cells Xw1 1; have d2 : w1.cell? ⟨w.heap.size,2,none⟩ = some (.int .i64 a) := box_cells Xw1 2; have d3 : w1.cell? ⟨w.heap.size,3,none⟩ = some (.int .i64 b) := box_cells Xw1 3; have d4 : w1.cell? ⟨w.heap.size,4,none⟩ = some (.int .i64 c) := box_cells Xw1 4; have d5 : w1.cell? ⟨w.heap.size,5,none⟩ = some (.int .u64 num) := box_cells Xw1 5; have d6 : w1.cell? ⟨w.heap.size,6,none⟩ = some (.string nm) := box_cells Xw1 6; clear hb Xw1; cases PH with
  | false =>
    have he : Hid (E = 70) := by show _ = _; rw [HR2.out,if_pos rfl]
    go_wp2
    go_ret
    exact ⟨ret_int he.out.symm,box_old HXw1.out⟩
  | true =>
    go_wp2_with fail
    refine (HB.out _).mono ?_; rintro e w2 ⟨rfl,hb⟩; have Xw2 : Below (w.heap.size + 1) (w.alloc (.cells #[.int .i64 op,.int .i64 u,.int .i64 a,.int .i64 b,.int .i64 c,.int .u64 num,.string nm] 40 (0,0))) w2 := box_next HXw1.out hb; have HXw2 : Hid (Below (w.heap.size + 1) (w.alloc (.cells #[.int .i64 op,.int .i64 u,.int .i64 a,.int .i64 b,.int .i64 c,.int .u64 num,.string nm] 40 (0,0))) w2) := Xw2; clear d0 d1 d2 d3 d4 d5 d6; have d0 : w2.cell? ⟨w.heap.size,0,none⟩ = some (.int .i64 op) := box_cells Xw2 0; have d1 : w2.cell? ⟨w.heap.size,1,none⟩ = some (.int .i64 u) := box_cells Xw2 1; have d2 : w2.cell? ⟨w.heap.size,2,none⟩ = some (.int .i64 a) := box_cells Xw2 2; have d3 : w2.cell? ⟨w.heap.size,3,none⟩ = some (.int .i64 b) := box_cells Xw2 3; have d4 : w2.cell? ⟨w.heap.size,4,none⟩ = some (.int .i64 c) := box_cells Xw2 4; have d5 : w2.cell? ⟨w.heap.size,5,none⟩ = some (.int .u64 num) := box_cells Xw2 5; have d6 : w2.cell? ⟨w.heap.size,6,none⟩ = some (.string nm) := box_cells Xw2 6; clear hb Xw2; cases PB with
    | false =>
      have he : Hid (E = 1) := by show _ = _; rw [HR2.out,if_neg (by decide),if_pos rfl]
      go_wp2
      go_ret
      exact ⟨ret_int he.out.symm,box_old HXw2.out⟩
    | true =>
      have hlt2 : w.heap.size < w2.heap.size := by have h5 := HXw2.out.size; simp at h5; omega
      have hne2 : ¬ w.heap.size = w2.heap.size := by omega
      have HW3 : Hid (∀ W t,KP w2 W -> Calls Tryz.prog 90 #[.pointer (some ⟨B,0,none⟩),.int .i64 t] W fun e w' => e = .returned (.int .i64 (wd L t)) /\ w' = W) := fun W t hb => HW.out W t ((box_old HXw2.out).trans (hb.out.mono (by have h5 := (box_old HXw2.out).size; exact h5)))
      have K0 : KP w2 w2 := KP.refl w2; have K1 : KP w2 w2.drew := KP.refl' w2
      go_wp2_with fail
      go_region_held3 (fun W => KP w2 W /\ W.cell? ⟨w.heap.size,2,none⟩ = some (.int .i64 a) /\ W.cell? ⟨w.heap.size,3,none⟩ = some (.int .i64 b) /\ W.cell? ⟨w.heap.size,4,none⟩ = some (.int .i64 c)) (first | (refine ⟨by first | assumption | exact KP.drew (by assumption) | exact KP.alloc (by assumption) _,?_,?_,?_⟩ <;> go_keep) | go_keep) (first
        | (go_at_call 90; refine (HW3.out _ _ (by first | assumption | exact And.left (by assumption) | exact KP.drew (KP.alloc K0 _) | exact KP.alloc K1 _)).mono ?_; rintro e w' ⟨rfl,hw⟩; obtain rfl := hw.symm))
      all_goals go_wp2_with fail
      all_goals
        (have HXw3 : Hid (Below (w.heap.size + 1) (w.alloc (.cells #[.int .i64 op,.int .i64 u,.int .i64 a,.int .i64 b,.int .i64 c,.int .u64 num,.string nm] 40 (0,0))) (w2.alloc (.cells #[.int .i64 (wd L a),.int .i64 (wd L b),.int .i64 (wd L c)] 180 (0,0))).drew) := (HXw2.out.alloc (by have h5 := HXw2.out.size; simp at h5; omega) _).drew
         have HYw3 : Hid (Below (w2.heap.size + 1) (w2.alloc (.cells #[.int .i64 (wd L a),.int .i64 (wd L b),.int .i64 (wd L c)] 180 (0,0))) (w2.alloc (.cells #[.int .i64 (wd L a),.int .i64 (wd L b),.int .i64 (wd L c)] 180 (0,0))).drew) := (Below.refl _ _).drew; refine (HS.out _).mono ?_; rintro e w4 ⟨rfl,hb⟩; have Xw4 : Below (w.heap.size + 1) (w.alloc (.cells #[.int .i64 op,.int .i64 u,.int .i64 a,.int .i64 b,.int .i64 c,.int .u64 num,.string nm] 40 (0,0))) w4 := box_next HXw3.out hb; have HXw4 : Hid (Below (w.heap.size + 1) (w.alloc (.cells #[.int .i64 op,.int .i64 u,.int .i64 a,.int .i64 b,.int .i64 c,.int .u64 num,.string nm] 40 (0,0))) w4) := Xw4; have Yw4 : Below (w2.heap.size + 1) (w2.alloc (.cells #[.int .i64 (wd L a),.int .i64 (wd L b),.int .i64 (wd L c)] 180 (0,0))) w4 := box_next HYw3.out hb; have HYw4 : Hid (Below (w2.heap.size + 1) (w2.alloc (.cells #[.int .i64 (wd L a),.int .i64 (wd L b),.int .i64 (wd L c)] 180 (0,0))) w4) := Yw4; clear d0 d1 d2 d3 d4 d5 d6; have d0 : w4.cell? ⟨w.heap.size,0,none⟩ = some (.int .i64 op) := box_cells Xw4 0; have d1 : w4.cell? ⟨w.heap.size,1,none⟩ = some (.int .i64 u) := box_cells Xw4 1; have d2 : w4.cell? ⟨w.heap.size,2,none⟩ = some (.int .i64 a) := box_cells Xw4 2; have d3 : w4.cell? ⟨w.heap.size,3,none⟩ = some (.int .i64 b) := box_cells Xw4 3; have d4 : w4.cell? ⟨w.heap.size,4,none⟩ = some (.int .i64 c) := box_cells Xw4 4; have d5 : w4.cell? ⟨w.heap.size,5,none⟩ = some (.int .u64 num) := box_cells Xw4 5; have d6 : w4.cell? ⟨w.heap.size,6,none⟩ = some (.string nm) := box_cells Xw4 6; have e0 : w4.cell? ⟨w2.heap.size,0,none⟩ = some (.int .i64 (wd L a)) := box_cells Yw4 0; have e1 : w4.cell? ⟨w2.heap.size,1,none⟩ = some (.int .i64 (wd L b)) := box_cells Yw4 1; have e2 : w4.cell? ⟨w2.heap.size,2,none⟩ = some (.int .i64 (wd L c)) := box_cells Yw4 2; clear hb Xw4 Yw4; cases PS with
         | false =>
           have he : Hid (E = 71) := by show _ = _; rw [HR2.out,if_neg (by decide),if_neg (by decide),if_pos rfl]
           go_wp2
           go_ret
           exact ⟨ret_int he.out.symm,box_old HXw4.out⟩
         | true =>
           go_wp2_with fail
           refine (HF.out _ (by trivial)).mono ?_; rintro e w5 ⟨rfl,hb⟩; have Xw5 : Below (w.heap.size + 1) (w.alloc (.cells #[.int .i64 op,.int .i64 u,.int .i64 a,.int .i64 b,.int .i64 c,.int .u64 num,.string nm] 40 (0,0))) w5 := box_next HXw4.out hb; have HXw5 : Hid (Below (w.heap.size + 1) (w.alloc (.cells #[.int .i64 op,.int .i64 u,.int .i64 a,.int .i64 b,.int .i64 c,.int .u64 num,.string nm] 40 (0,0))) w5) := Xw5; have Yw5 : Below (w2.heap.size + 1) (w2.alloc (.cells #[.int .i64 (wd L a),.int .i64 (wd L b),.int .i64 (wd L c)] 180 (0,0))) w5 := box_next HYw4.out hb; have HYw5 : Hid (Below (w2.heap.size + 1) (w2.alloc (.cells #[.int .i64 (wd L a),.int .i64 (wd L b),.int .i64 (wd L c)] 180 (0,0))) w5) := Yw5; clear d0 d1 d2 d3 d4 d5 d6; clear e0 e1 e2; have d0 : w5.cell? ⟨w.heap.size,0,none⟩ = some (.int .i64 op) := box_cells Xw5 0; have d1 : w5.cell? ⟨w.heap.size,1,none⟩ = some (.int .i64 u) := box_cells Xw5 1; have d2 : w5.cell? ⟨w.heap.size,2,none⟩ = some (.int .i64 a) := box_cells Xw5 2; have d3 : w5.cell? ⟨w.heap.size,3,none⟩ = some (.int .i64 b) := box_cells Xw5 3; have d4 : w5.cell? ⟨w.heap.size,4,none⟩ = some (.int .i64 c) := box_cells Xw5 4; have d5 : w5.cell? ⟨w.heap.size,5,none⟩ = some (.int .u64 num) := box_cells Xw5 5; have d6 : w5.cell? ⟨w.heap.size,6,none⟩ = some (.string nm) := box_cells Xw5 6; have e0 : w5.cell? ⟨w2.heap.size,0,none⟩ = some (.int .i64 (wd L a)) := box_cells Yw5 0; have e1 : w5.cell? ⟨w2.heap.size,1,none⟩ = some (.int .i64 (wd L b)) := box_cells Yw5 1; have e2 : w5.cell? ⟨w2.heap.size,2,none⟩ = some (.int .i64 (wd L c)) := box_cells Yw5 2; clear hb Xw5 Yw5; cases PW with
           | false =>
             have he : Hid (E = 5) := by show _ = _; rw [HR2.out,if_neg (by decide),if_neg (by decide),if_neg (by decide),if_pos rfl]
             go_wp2
             go_ret
             exact ⟨ret_int he.out.symm,box_old HXw5.out⟩
           | true =>
             by_cases h4 : op = 4
             · subst h4
               have q44 : ((4 : Int) == 4) = true := rfl
               go_wp2_with fail
               refine (HN.out _ (box_old HXw5.out)).mono ?_; rintro e w6 ⟨rfl,hb⟩; have HB6 : Hid (Below w.heap.size w w6) := box_old (box_next HXw5.out hb); clear hb d0 d1 d2 d3 d4 d5 d6 e0 e1 e2; cases PN with
               | false =>
                 have he : Hid (E = 72) := by show _ = _; rw [HR2.out,if_neg (by decide),if_neg (by decide),if_neg (by decide),if_neg (by decide),if_pos (by simp)]
                 go_wp2
                 go_ret
                 exact ⟨ret_int he.out.symm,HB6.out⟩
               | true =>
                 have he : Hid (E = 0) := by show _ = _; rw [HR2.out,if_neg (by decide),if_neg (by decide),if_neg (by decide),if_neg (by decide),if_neg (by decide)]
                 go_wp2
                 go_ret
                 exact ⟨ret_int he.out.symm,HB6.out⟩
             have q44 : (op == 4) = false := beq_eq_false_iff_ne.2 h4; have he : Hid (E = 0) := by show _ = _; rw [HR2.out,if_neg (by decide),if_neg (by decide),if_neg (by decide),if_neg (by decide),if_neg (fun h7 => h4 h7.1)]
             clear h4
             go_wp2
             go_ret
             exact ⟨ret_int he.out.symm,box_old HXw5.out⟩)
end Go.Proofs.YtkpapgfbnledpaaGreatDoor
