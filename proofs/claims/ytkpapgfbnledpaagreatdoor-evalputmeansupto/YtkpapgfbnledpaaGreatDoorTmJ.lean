import Derived.Test.YtkpapgfbnledpaaGreatDoorTmId
import Derived.Test.YtkpapgfbnledpaaGreatDoorTmJ0
set_option maxHeartbeats 8000000
set_option maxRecDepth 100000
namespace Go.Proofs.YtkpapgfbnledpaaGreatDoor
open Go.ChangeShapes Go.WideShapes Go.ChangeAt Go.RowKit Go.Lib Go.Tm Go.Bw Go.Bn Go.WideMaps Go.Maps Go.ChangeMaps

theorem add_any (B0 B : Nat) (lim : Int) (L : List Nd) (v : Value) (M1 M2 : Option Nat) (n : Nd) (w : World) (h : SM 78 w B0 B lim L v M1 M2) (hl : L.length < 1000000000000) (hB0 : B0 <= w.heap.size) (hk : n.ok) (hr : rfE L n = 0) (hp : pos n L = none) :
    Calls Tryz.prog 57 #[.pointer (some ⟨B,0,none⟩),nodeV n] w fun e w' => e = .returned (.int .i64 ((L.length : Int) + 1)) /\ AddP 78 w B0 B lim (L ++ [n]) v M1 M2 w' := by
  obtain ⟨op,u,a,b,c,num,nm⟩ := n; cases M1 with
  | none =>
    by_cases h4 : op = 4
    · exact add_nil_var B0 B lim L v M2 op u a b c num nm w h h4 hl hB0 hk hr hp
    exact add_nil_no B0 B lim L v M2 op u a b c num nm w h h4 hl hB0 hk hr hp
  | some M1 =>
    cases M2 with
    | none => exact absurd rfl (h.nil2 (by simp))
    | some M2 =>
      by_cases h4 : op = 4
      · exact add_var B0 B lim L v M1 M2 op u a b c num nm w h h4 hl hB0 hk hr hp
      exact add_no B0 B lim L v M1 M2 op u a b c num nm w h h4 hl hB0 hk hr hp
end Go.Proofs.YtkpapgfbnledpaaGreatDoor
namespace Go.Proofs.YtkpapgfbnledpaaGreatDoor
open Go.ChangeShapes Go.WideShapes Go.ChangeAt Go.RowKit Go.Lib Go.Tm Go.Bw Go.Bn Go.WideMaps Go.Maps Go.ChangeMaps

theorem make_any (B0 B : Nat) (lim : Int) (L : List Nd) (v : Value) (M1 M2 : Option Nat) (n : Nd) (w : World) (h : SM 78 w B0 B lim L v M1 M2) (hB0 : B0 <= w.heap.size) (hl : L.length < 1000000000000) (hn : n.ok) :
    Calls Tryz.prog 28 #[.pointer (some ⟨B,0,none⟩),nodeV n] w (MkP 78 w B0 B lim L v M1 M2 n) := by
  have HRf : Hid (∀ W,Below w.heap.size w W -> Calls Tryz.prog 56 #[.pointer (some ⟨B,0,none⟩),nodeV n] W fun e w' => e = .returned (.int .i64 (rfE L n)) /\ Below W.heap.size W w') := fun W hb => refuse_any _ B0 B lim L v M1 M2 n W (h.below hb) hn
  have HS : Hid (SM 78 w B0 B lim L v M1 M2) := h; have HOK : Hid (n.ok) := hn
  by_cases hr : rfE L n = 0
  · have HA : Hid (∀ W,pos n L = none -> Below w.heap.size w W -> Calls Tryz.prog 57 #[.pointer (some ⟨B,0,none⟩),nodeV n] W fun e w' => e = .returned (.int .i64 ((L.length : Int) + 1)) /\ AddP 78 w B0 B lim (L ++ [n]) v M1 M2 w') := fun W hp hb =>
      (add_any B0 B lim L v M1 M2 n W (h.below hb) hl (Nat.le_trans hB0 hb.size) hn hr hp).mono fun e w' ⟨h1,h2⟩ => ⟨h1,h2.back hb⟩
    have HQ : Hid (∀ w' i,pos n L = some i -> Below w.heap.size w w' -> MkP 78 w B0 B lim L v M1 M2 n (.returned (.tuple #[.int .i64 ((i : Int) + 1),.int .i64 0])) w') := fun w' i hp hb => MkP.old h hr hp hb
    have HF : Hid (∀ w',pos n L = none -> 0 < lim /\ lim <= (L.length : Int) -> Below w.heap.size w w' -> MkP 78 w B0 B lim L v M1 M2 n (.returned (.tuple #[.int .i64 0,.int .i64 4])) w') := fun w' hp hf hb => MkP.full h hr hp hf hb
    have HW : Hid (∀ w',pos n L = none -> ¬ (0 < lim /\ lim <= (L.length : Int)) -> AddP 78 w B0 B lim (L ++ [n]) v M1 M2 w' -> MkP 78 w B0 B lim L v M1 M2 n (.returned (.tuple #[.int .i64 ((L.length : Int) + 1),.int .i64 0])) w') := fun w' hp hf hA => MkP.new hr hp hf hA
    rw [hr] at HRf; clear h hn hB0
    generalize hPP : MkP 78 w B0 B lim L v M1 M2 n = PP at *
    clear hPP hr; obtain ⟨op,u,a,b,c,num,nm⟩ := n
    go_enter Tryz.func28,Tryz.ntmps28
    go_wp2_with fail
    refine (HRf.out _ (bel1 _ _)).mono ?_; rintro e w1 ⟨rfl,hb0⟩; have hb : Below w.heap.size w w1 := (bel1 _ _).trans (hb0.mono (by simp)); have HB : Hid (Below w.heap.size w w1) := hb; have hS1 := HS.out.below hb; have hb1 : Below (w.heap.size + 1) (w.alloc (Obj.cells #[.int .i64 op,.int .i64 u,.int .i64 a,.int .i64 b,.int .i64 c,.int .u64 num,.string nm] 40 (0,0))) w1 := hb0.mono (by simp); have d0 : w1.cell? ⟨w.heap.size,0,none⟩ = some (.int .i64 op) := box_cells hb1 0; have d1 : w1.cell? ⟨w.heap.size,1,none⟩ = some (.int .i64 u) := box_cells hb1 1; have d2 : w1.cell? ⟨w.heap.size,2,none⟩ = some (.int .i64 a) := box_cells hb1 2; have d3 : w1.cell? ⟨w.heap.size,3,none⟩ = some (.int .i64 b) := box_cells hb1 3; have d4 : w1.cell? ⟨w.heap.size,4,none⟩ = some (.int .i64 c) := box_cells hb1 4; have d5 : w1.cell? ⟨w.heap.size,5,none⟩ = some (.int .u64 num) := box_cells hb1 5; have d6 : w1.cell? ⟨w.heap.size,6,none⟩ = some (.string nm) := box_cells hb1 6; obtain ⟨ad,cp,rfl,hc,_⟩ := hS1.form; obtain ⟨D,hm,hF⟩ := hS1.m1; have hrun := hF.look lawN Tryz.underlying75 hm ⟨op,u,a,b,c,num,nm⟩ HOK.out; have hrunD := hF.look lawN Tryz.underlying75 hm.drew ⟨op,u,a,b,c,num,nm⟩ HOK.out; have c0 : w1.cell? ⟨B,0,none⟩ = some (.int .i64 lim) := blk_cell hS1.blk 0; have c1 : w1.cell? ⟨B,1,none⟩ = some (.slice ad L.length cp) := blk_cell hS1.blk 1; have c2 : w1.cell? ⟨B,2,none⟩ = some (.map M1) := blk_cell hS1.blk 2; clear hS1 hm hF hb hb0 hb1; unfold numF at hrun hrunD; cases hp : pos ⟨op,u,a,b,c,num,nm⟩ L with
    | some i =>
      rw [hp] at hrun hrunD
      go_wp2
      first | go_region | skip
      all_goals go_wp2
      all_goals first | exact HQ.out _ i hp (by first | exact HB.out | exact HB.out.drew) | (go_ret2; exact HQ.out _ i hp (by first | exact HB.out | exact HB.out.drew)) | (go_ret; exact HQ.out _ i hp (by first | exact HB.out | exact HB.out.drew))
    | none =>
      rw [hp] at hrun hrunD; have HP : Hid (pos ⟨op,u,a,b,c,num,nm⟩ L = none) := hp; clear hp; obtain ⟨k,hk⟩ : ∃ k,L.length = k := ⟨_,rfl⟩; have HKN : Hid (L.length = k) := hk; rw [hk] at c1 hl hc; clear hk
      by_cases h1 : 0 < lim
      · have q1 : decide (0 < lim) = true := decide_eq_true h1
        by_cases h2 : lim <= (k : Int)
        · have q2 : decide (lim <= (k : Int)) = true := decide_eq_true h2
          go_wp2_with fail
          first | go_region | skip
          all_goals go_wp2_with fail
          all_goals (try (go_region; all_goals go_wp2_with fail))
          all_goals first | exact HF.out _ HP.out ⟨h1,by rw [HKN.out]; exact h2⟩ (by first | exact HB.out | exact HB.out.drew | exact HB.out.drew.drew) | (go_ret2; exact HF.out _ HP.out ⟨h1,by rw [HKN.out]; exact h2⟩ (by first | exact HB.out | exact HB.out.drew | exact HB.out.drew.drew))
        have q2 : decide (lim <= (k : Int)) = false := decide_eq_false h2
        go_wp2_with fail
        first | go_region | skip
        all_goals go_wp2_with fail
        all_goals (try (go_region; all_goals go_wp2_with fail))
        all_goals
          (refine (HA.out _ HP.out (by first | exact HB.out | exact HB.out.drew | exact HB.out.drew.drew)).mono ?_
           rintro e w2 ⟨rfl,hA⟩; have HAP : Hid (AddP 78 w B0 B lim (L ++ [⟨op,u,a,b,c,num,nm⟩]) (Value.slice ad L.length cp) M1 M2 w2) := hA; clear hA; have HE := HW.out w2 HP.out (by rw [HKN.out]; omega) HAP.out; have HE2 : Hid (PP (.returned (.tuple #[.int .i64 ((L.length : Int) + 1),.int .i64 0])) w2) := HE; clear HE; rw [HKN.out] at HE2 ⊢
           go_wp2
           first | exact HE2.out | (go_ret2; exact HE2.out))
      have q1 : decide (0 < lim) = false := decide_eq_false h1
      go_wp2_with fail
      first | go_region | skip
      all_goals go_wp2_with fail
      all_goals (try (go_region; all_goals go_wp2_with fail))
      all_goals
        (refine (HA.out _ HP.out (by first | exact HB.out | exact HB.out.drew | exact HB.out.drew.drew)).mono ?_
         rintro e w2 ⟨rfl,hA⟩; have HAP : Hid (AddP 78 w B0 B lim (L ++ [⟨op,u,a,b,c,num,nm⟩]) (Value.slice ad L.length cp) M1 M2 w2) := hA; clear hA; have HE := HW.out w2 HP.out (by omega) HAP.out; have HE2 : Hid (PP (.returned (.tuple #[.int .i64 ((L.length : Int) + 1),.int .i64 0])) w2) := HE; clear HE; rw [HKN.out] at HE2 ⊢
         go_wp2
         first | exact HE2.out | (go_ret2; exact HE2.out))
  have HQ : Hid (∀ w',Below w.heap.size w w' -> MkP 78 w B0 B lim L v M1 M2 n (.returned (.tuple #[.int .i64 0,.int .i64 (rfE L n)])) w') := fun w' hb => MkP.ref h hr hb
  generalize hPP : MkP 78 w B0 B lim L v M1 M2 n = PP at *
  generalize rfE L n = er at *
  have q1 : (er == 0) = false := beq_eq_false_iff_ne.2 hr; clear hPP hr h hn hB0 hl; obtain ⟨op,u,a,b,c,num,nm⟩ := n
  go_enter Tryz.func28,Tryz.ntmps28
  go_wp2_with fail
  refine (HRf.out _ (bel1 _ _)).mono ?_; rintro e w1 ⟨rfl,hb0⟩; have hb : Below w.heap.size w w1 := (bel1 _ _).trans (hb0.mono (by simp)); have HB : Hid (Below w.heap.size w w1) := hb; clear hb hb0
  go_wp2
  first | exact HQ.out _ HB.out | (go_ret2; exact HQ.out _ HB.out)
end Go.Proofs.YtkpapgfbnledpaaGreatDoor
