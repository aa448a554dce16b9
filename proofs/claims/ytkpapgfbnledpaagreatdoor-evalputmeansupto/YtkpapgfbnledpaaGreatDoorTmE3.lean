import Derived.Test.YtkpapgfbnledpaaGreatDoorTmD
import Derived.Deep.RegionWith
set_option maxHeartbeats 8000000
set_option maxRecDepth 100000
namespace Go.Proofs.YtkpapgfbnledpaaGreatDoor
open Go.ChangeShapes Go.WideShapes Go.ChangeAt Go.RowKit Go.Lib Go.Tm Go.Bw Go.Bn Go.WideMaps Go.Maps Go.ChangeMaps

theorem bare_any (n : Nd) (w : World) :
    Calls Tryz.prog 89 #[nodeV n] w fun e w' => e = .returned (.bool (br n)) /\ Below w.heap.size w w' := by
  obtain ⟨op,v,a,b,c,num,nm⟩ := n; have he : Hid (nm.toList.isEmpty = decide (nm.size = 0)) := by
    show _ = _
    by_cases h0 : nm.size = 0
    · rw [empty_yes nm h0,decide_eq_true h0]
    rw [empty_no nm h0,decide_eq_false h0]
  have HP : Hid (∀ W,Calls Tryz.prog 117 #[.int .i64 op] W fun e w' => e = .returned (.int .i64 (pt op)) /\ w' = W) := fun W => parts_any op W
  have HR : Hid (br ⟨op,v,a,b,c,num,nm⟩ = ((decide (1 <= pt op) || decide (a = 0)) && ((decide (2 <= pt op) || decide (b = 0)) && ((decide (3 <= pt op) || decide (c = 0)) && ((decide (op = 3) || (decide (op = 31) || decide (num = 0))) && (decide (op = 4) || decide (nm.size = 0))))))) := rfl; obtain ⟨p,hpp⟩ : ∃ p,pt op = p := ⟨_,rfl⟩; have hp3 := pt_lo op; rw [hpp] at HP HR hp3
  generalize br ⟨op,v,a,b,c,num,nm⟩ = R at *
  clear hpp; have hc : p = 0 ∨ p = 1 ∨ p = 2 ∨ p = 3 := by omega
  clear hp3; have HE : Hid (nm.toList.isEmpty = true -> nm.size = 0) := fun h => by
    by_cases h0 : nm.size = 0
    · exact h0
    rw [empty_no nm h0] at h; cases h
  have HE2 : Hid (nm.toList.isEmpty = false -> ¬ nm.size = 0) := fun h h0 => by
    rw [empty_yes nm h0] at h; cases h
  rcases hc with rfl | rfl | rfl | rfl
  all_goals go_enter Tryz.func89,Tryz.ntmps89
  all_goals go_wp2_with (go_at_call 117; refine (HP.out _).mono ?_; rintro e w' ⟨rfl,rfl⟩)
  all_goals go_ret
  all_goals refine ⟨ret_bool ?_,bel1 _ _⟩
  all_goals rw [HR.out]
  all_goals (try simp [he.out, *])
end Go.Proofs.YtkpapgfbnledpaaGreatDoor
namespace Go.Proofs.YtkpapgfbnledpaaGreatDoor
open Go.ChangeShapes Go.WideShapes Go.ChangeAt Go.RowKit Go.Lib Go.Tm Go.Bw Go.Bn Go.WideMaps Go.Maps Go.ChangeMaps

theorem has_any (ty : TypeId) (B0 B : Nat) (lim : Int) (L : List Nd) (v : Value) (M1 M2 : Option Nat) (t : Int) (w : World) (h : SM ty w B0 B lim L v M1 M2) :
    Calls Tryz.prog 29 #[.pointer (some ⟨B,0,none⟩),.int .i64 t] w fun e w' => e = .returned (.bool (isT L t)) /\ w' = w := by
  obtain ⟨ad,c,rfl,hc,_⟩ := h.form; have c1 : w.cell? ⟨B,1,none⟩ = some (.slice ad L.length c) := blk_cell h.blk 1; have hl : Hid (∀ t,isT L t = decide (1 <= t /\ t <= (L.length : Int))) := fun t => rfl
  generalize L.length = n at *
  clear h
  by_cases h1 : 1 <= t
  · have hl2 : Hid (isT L t = decide (t <= (n : Int))) := by show _ = _; rw [hl.out]; simp [h1]
    have q1 : decide (1 <= t) = true := decide_eq_true h1
    go_enter Tryz.func29,Tryz.ntmps29
    go_wp2
    go_ret
    exact ⟨ret_bool hl2.out.symm,rfl⟩
  have hl2 : Hid (isT L t = false) := by show _ = _; rw [hl.out]; exact decide_eq_false (fun h7 => h1 h7.1)
  have q1 : decide (1 <= t) = false := decide_eq_false h1
  go_enter Tryz.func29,Tryz.ntmps29
  go_wp2
  go_ret
  exact ⟨ret_bool hl2.out.symm,rfl⟩
theorem width_any (ty : TypeId) (B0 B : Nat) (lim : Int) (L : List Nd) (v : Value) (M1 M2 : Option Nat) (t : Int) (w : World) (h : SM ty w B0 B lim L v M1 M2) :
    Calls Tryz.prog 90 #[.pointer (some ⟨B,0,none⟩),.int .i64 t] w fun e w' => e = .returned (.int .i64 (wd L t)) /\ w' = w := by
  have HC : Hid (Calls Tryz.prog 29 #[.pointer (some ⟨B,0,none⟩),.int .i64 t] w fun e w' => e = .returned (.bool (isT L t)) /\ w' = w) := has_any ty B0 B lim L v M1 M2 t w h; cases hi : isT L t with
  | false =>
    have hw : Hid (wd L t = 0) := wd_none hi; rw [hi] at HC; clear hi h
    go_enter Tryz.func90,Tryz.ntmps90
    go_wp2_with (go_at_call 29; refine HC.out.mono ?_; rintro e w' ⟨rfl,rfl⟩)
    go_ret
    exact ⟨ret_int hw.out.symm,rfl⟩
  | true =>
    have ht : 1 <= t /\ t <= (L.length : Int) := of_decide_eq_true hi; have hw : Hid (wd L t = (L.getD (t.toNat - 1) z0).w) := by show _ = _; unfold wd; rw [if_pos hi]
    rw [hi] at HC; clear hi; obtain ⟨ad,c,rfl,hc,hcell⟩ := h.form; obtain ⟨g,rfl,hg⟩ := hcell (by omega); have c1 : w.cell? ⟨B,1,none⟩ = some (.slice (some ⟨g,0,none⟩) L.length c) := blk_cell h.blk 1; obtain ⟨i,rfl⟩ : ∃ i : Nat,t = (i : Int) + 1 := ⟨t.toNat - 1,by omega⟩; have c2 : w.cell? ⟨g,i * 7 + 1,none⟩ = some (.int .i64 (L.getD i z0).w) := by rw [hg i 1 (by omega) (by omega)]; rfl
    have e0 : ((i : Int) + 1).toNat - 1 = i := by omega
    rw [e0] at hw
    generalize (L.getD i z0).w = W at *
    have q1 : (i : Int) < (L.length : Int) := by omega
    have hlen := h.len; clear h hg hcell
    generalize L.length = n at *
    clear ht e0
    go_enter Tryz.func90,Tryz.ntmps90
    go_wp2_with (go_at_call 29; refine HC.out.mono ?_; rintro e w' ⟨rfl,rfl⟩)
    go_ret
    exact ⟨ret_int hw.out.symm,rfl⟩
end Go.Proofs.YtkpapgfbnledpaaGreatDoor
namespace Go.Proofs.YtkpapgfbnledpaaGreatDoor
open Go.ChangeShapes Go.WideShapes Go.ChangeAt Go.RowKit Go.Lib Go.Tm Go.Bw Go.Bn Go.WideMaps Go.Maps Go.ChangeMaps

theorem hasp_any (ty : TypeId) (B0 B : Nat) (lim : Int) (L : List Nd) (v : Value) (M1 M2 : Option Nat) (n : Nd) (w : World) (h : SM ty w B0 B lim L v M1 M2) :
    Calls Tryz.prog 88 #[.pointer (some ⟨B,0,none⟩),nodeV n] w fun e w' => e = .returned (.bool (hp L n)) /\ Below w.heap.size w w' := by
  have HP : Hid (∀ W,Calls Tryz.prog 117 #[.int .i64 n.op] W fun e w' => e = .returned (.int .i64 (pt n.op)) /\ w' = W) := fun W => parts_any n.op W
  have HH : Hid (∀ W t,Below w.heap.size w W -> Calls Tryz.prog 29 #[.pointer (some ⟨B,0,none⟩),.int .i64 t] W fun e w' => e = .returned (.bool (isT L t)) /\ w' = W) := fun W t hb => has_any ty B0 B lim L v M1 M2 t W (h.below hb)
  obtain ⟨op,u,a,b,c,num,nm⟩ := n; clear h; have HW : Hid (∀ o,Below w.heap.size w (w.alloc o)) := fun o => bel1 w o
  have HA : Hid (∀ o t,Calls Tryz.prog 29 #[.pointer (some ⟨B,0,none⟩),.int .i64 t] (w.alloc o) fun e w' => e = .returned (.bool (isT L t)) /\ w' = w.alloc o) := fun o t => HH.out _ t (HW.out o)
  have HR : Hid (hp L ⟨op,u,a,b,c,num,nm⟩ = ((decide (pt op < 1) || isT L a) && ((decide (pt op < 2) || isT L b) && (decide (pt op < 3) || isT L c)))) := rfl
  dsimp only at HP
  obtain ⟨p,hpp⟩ : ∃ p,pt op = p := ⟨_,rfl⟩; have hp3 := pt_lo op; rw [hpp] at HP HR hp3
  generalize hp L ⟨op,u,a,b,c,num,nm⟩ = R at *
  clear HH HW hpp
  go_enter Tryz.func88,Tryz.ntmps88
  go_wp2_with (first | (go_at_call 117; refine (HP.out _).mono ?_; rintro e w' ⟨rfl,rfl⟩) | (go_at_call 29; refine (HA.out _ _).mono ?_; rintro e w' ⟨rfl,rfl⟩))
  all_goals go_ret
  all_goals refine ⟨ret_bool ?_,bel1 _ _⟩
  all_goals rw [HR.out]
  all_goals (try simp [*])
  all_goals (try omega)
  all_goals (try rw [Bool.and_assoc])
end Go.Proofs.YtkpapgfbnledpaaGreatDoor
