import Derived.Test.YtldpkkbdhohcmaaGreatDoorTmE3
import Derived.Deep.RegionWith
import Derived.BigQuiet
namespace Go.Proofs.YtldpkkbdhohcmaaGreatDoor
open Go.ChangeShapes Go.WideShapes Go.ChangeAt Go.RowKit Go.Lib Go.Tm Go.Bw Go.Bn Go.WideMaps Go.Maps Go.ChangeMaps

/-- the document's count: -1 of a number that is no operation -/
def rpt (op : Int) : Int := if op < 1 ∨ 33 < op then -1 else pt op
set_option maxHeartbeats 4000000 in
theorem rparts_any (op : Int) (w : World) :
    Calls Tryz.prog 58 #[.int .i64 op] w fun e w' => e = .returned (.int .i64 (rpt op)) /\ w' = w := by
  go_enter Tryz.func58,Tryz.ntmps58
  go_wp2
  all_goals go_ret
  all_goals refine ⟨ret_int ?_,rfl⟩
  all_goals (try simp only [beq_iff_eq,beq_eq_false_iff_ne] at *)
  all_goals unfold rpt pt
  all_goals repeat' split
  all_goals omega
theorem is_any (ty : TypeId) (B0 B : Nat) (lim : Int) (L : List Nd) (v : Value) (M1 M2 : Option Nat) (t : Int) (w : World) (h : SM ty w B0 B lim L v M1 M2) :
    Calls Tryz.prog 45 #[.pointer (some ⟨B,0,none⟩),.int .i64 t] w fun e w' => e = .returned (.bool (isT L t)) /\ w' = w := by
  obtain ⟨ad,c,rfl,hc,_⟩ := h.form; have c1 : w.cell? ⟨B,1,none⟩ = some (.slice ad L.length c) := blk_cell h.blk 1; have hl : Hid (∀ t,isT L t = decide (1 <= t /\ t <= (L.length : Int))) := fun t => rfl
  generalize L.length = n at *
  clear h
  by_cases h1 : 1 <= t
  · have hl2 : Hid (isT L t = decide (t <= (n : Int))) := by show _ = _; rw [hl.out]; simp [h1]
    have q1 : decide (1 <= t) = true := decide_eq_true h1
    go_enter Tryz.func45,Tryz.ntmps45
    go_wp2
    go_ret
    exact ⟨ret_bool hl2.out.symm,rfl⟩
  have hl2 : Hid (isT L t = false) := by show _ = _; rw [hl.out]; exact decide_eq_false (fun h7 => h1 h7.1)
  have q1 : decide (1 <= t) = false := decide_eq_false h1
  go_enter Tryz.func45,Tryz.ntmps45
  go_wp2
  go_ret
  exact ⟨ret_bool hl2.out.symm,rfl⟩
theorem w_any (ty : TypeId) (B0 B : Nat) (lim : Int) (L : List Nd) (v : Value) (M1 M2 : Option Nat) (t : Int) (w : World) (h : SM ty w B0 B lim L v M1 M2) (hi : isT L t = true) :
    Calls Tryz.prog 57 #[.pointer (some ⟨B,0,none⟩),.int .i64 t] w fun e w' => e = .returned (.int .i64 (wd L t)) /\ w' = w := by
  have ht : 1 <= t /\ t <= (L.length : Int) := of_decide_eq_true hi; have hw : Hid (wd L t = (L.getD (t.toNat - 1) z0).w) := by show _ = _; unfold wd; rw [if_pos hi]
  clear hi; obtain ⟨ad,c,rfl,hc,hcell⟩ := h.form; obtain ⟨g,rfl,hg⟩ := hcell (by omega); have c1 : w.cell? ⟨B,1,none⟩ = some (.slice (some ⟨g,0,none⟩) L.length c) := blk_cell h.blk 1; obtain ⟨i,rfl⟩ : ∃ i : Nat,t = (i : Int) + 1 := ⟨t.toNat - 1,by omega⟩; have c2 : w.cell? ⟨g,i * 7 + 1,none⟩ = some (.int .i64 (L.getD i z0).w) := by rw [hg i 1 (by omega) (by omega)]; rfl
  have e0 : ((i : Int) + 1).toNat - 1 = i := by omega
  rw [e0] at hw
  generalize (L.getD i z0).w = W at *
  have q1 : (i : Int) < (L.length : Int) := by omega
  have hlen := h.len; clear h hg hcell
  generalize L.length = n at *
  clear ht e0
  go_enter Tryz.func57,Tryz.ntmps57
  go_wp2
  go_ret
  exact ⟨ret_int hw.out.symm,rfl⟩
set_option maxHeartbeats 4000000 in
theorem extra_any (n : Nd) (w : World) :
    Calls Tryz.prog 59 #[nodeV n,.int .i64 (pt n.op)] w fun e w' => e = .returned (.bool (!br n)) /\ Below w.heap.size w w' := by
  obtain ⟨op,v,a,b,c,num,nm⟩ := n; have HR : Hid (br ⟨op,v,a,b,c,num,nm⟩ = ((decide (1 <= pt op) || decide (a = 0)) && ((decide (2 <= pt op) || decide (b = 0)) && ((decide (3 <= pt op) || decide (c = 0)) && ((decide (op = 3) || (decide (op = 31) || decide (num = 0))) && (decide (op = 4) || decide (nm.size = 0))))))) := rfl; have he : Hid (nm.toList.isEmpty = decide (nm.size = 0)) := by
    show _ = _
    by_cases h0 : nm.size = 0
    · rw [empty_yes nm h0,decide_eq_true h0]
    rw [empty_no nm h0,decide_eq_false h0]
  have HQ : Hid ((nm.toList = [] ↔ nm = ByteArray.empty) /\ (nm.size = 0 ↔ nm = ByteArray.empty)) := by
    have hs : nm.size = 0 ↔ nm = ByteArray.empty := by
      constructor
      · intro h
        simpa using h
      intro h; rw [h]
      rfl
    refine ⟨?_,hs⟩; rw [<- hs]; have h1 := he.out; rw [<- List.isEmpty_iff,h1]
    simp
  dsimp only
  obtain ⟨p,hpp⟩ : ∃ p,pt op = p := ⟨_,rfl⟩; have hp3 := pt_lo op; rw [hpp] at HR hp3; rw [hpp]
  generalize br ⟨op,v,a,b,c,num,nm⟩ = R at *
  clear hpp; have hc : p = 0 ∨ p = 1 ∨ p = 2 ∨ p = 3 := by omega
  clear hp3
  rcases hc with rfl | rfl | rfl | rfl
  all_goals go_enter Tryz.func59,Tryz.ntmps59
  all_goals go_wp2
  all_goals go_ret
  all_goals refine ⟨ret_bool ?_,bel1 _ _⟩
  all_goals rw [HR.out]
  all_goals have hq1 := HQ.out.1
  all_goals have hq2 := HQ.out.2
  all_goals clear HR HQ he
  all_goals simp_all [bne]
  all_goals have h9 : nm.toList.isEmpty = false := (by
    cases hx : nm.toList.isEmpty with
    | false => rfl
    | true => exact absurd (List.isEmpty_iff.1 hx) (by assumption))
  all_goals rw [h9]
  all_goals rfl
end Go.Proofs.YtldpkkbdhohcmaaGreatDoor
namespace Go.Proofs.YtldpkkbdhohcmaaGreatDoor
open Go.ChangeShapes Go.WideShapes Go.ChangeAt Go.RowKit Go.Lib Go.Tm Go.Bw Go.Bn Go.WideMaps Go.Maps Go.ChangeMaps

set_option maxHeartbeats 1000000 in
theorem shifts_any (a : Int) (w : World) :
    Calls Tryz.prog 87 #[.int .i64 a] w fun e w' => e = .returned (.bool (shB a)) /\ w' = w := by
  go_enter Tryz.func87,Tryz.ntmps87
  go_wp2
  go_loop [3] (fun k => ∃ p : Int,1 <= p /\ p <= 128 /\ k = .int .i64 p /\ Hid (((p = 1) ∨ (p = 2 /\ ¬ a = 1) ∨ (p = 4 /\ ¬ a = 1 /\ ¬ a = 2) ∨ (p = 8 /\ ¬ a = 1 /\ ¬ a = 2 /\ ¬ a = 4) ∨ (p = 16 /\ ¬ a = 1 /\ ¬ a = 2 /\ ¬ a = 4 /\ ¬ a = 8) ∨ (p = 32 /\ ¬ a = 1 /\ ¬ a = 2 /\ ¬ a = 4 /\ ¬ a = 8 /\ ¬ a = 16) ∨ (p = 64 /\ ¬ a = 1 /\ ¬ a = 2 /\ ¬ a = 4 /\ ¬ a = 8 /\ ¬ a = 16 /\ ¬ a = 32) ∨ (p = 128 /\ ¬ a = 1 /\ ¬ a = 2 /\ ¬ a = 4 /\ ¬ a = 8 /\ ¬ a = 16 /\ ¬ a = 32 /\ ¬ a = 64)))) (fun k => (128 - intOf k).toNat)
  case atStart => exact ⟨1,by omega,by omega,rfl,Or.inl rfl⟩
  case round =>
    obtain ⟨p,hp,hp2,rfl,HP⟩ := hrel
    by_cases h64 : p <= 64
    · by_cases he : a = p
      · have hv : Hid (shB a = true) := by
          show _ = _
          have h9 := HP.out; exact decide_eq_true (by omega)
        have he' : (a == p) = true := by simpa using he
        clear he
        go_wp2
        go_ret
        exact ⟨by rw [hv.out]; rfl,rfl⟩
      have he' : (a == p) = false := by simpa using he
      have hs : Hid (((2 * p = 1) ∨ (2 * p = 2 /\ ¬ a = 1) ∨ (2 * p = 4 /\ ¬ a = 1 /\ ¬ a = 2) ∨ (2 * p = 8 /\ ¬ a = 1 /\ ¬ a = 2 /\ ¬ a = 4) ∨ (2 * p = 16 /\ ¬ a = 1 /\ ¬ a = 2 /\ ¬ a = 4 /\ ¬ a = 8) ∨ (2 * p = 32 /\ ¬ a = 1 /\ ¬ a = 2 /\ ¬ a = 4 /\ ¬ a = 8 /\ ¬ a = 16) ∨ (2 * p = 64 /\ ¬ a = 1 /\ ¬ a = 2 /\ ¬ a = 4 /\ ¬ a = 8 /\ ¬ a = 16 /\ ¬ a = 32) ∨ (2 * p = 128 /\ ¬ a = 1 /\ ¬ a = 2 /\ ¬ a = 4 /\ ¬ a = 8 /\ ¬ a = 16 /\ ¬ a = 32 /\ ¬ a = 64))) := by
        show ((2 * p = 1) ∨ (2 * p = 2 /\ ¬ a = 1) ∨ (2 * p = 4 /\ ¬ a = 1 /\ ¬ a = 2) ∨ (2 * p = 8 /\ ¬ a = 1 /\ ¬ a = 2 /\ ¬ a = 4) ∨ (2 * p = 16 /\ ¬ a = 1 /\ ¬ a = 2 /\ ¬ a = 4 /\ ¬ a = 8) ∨ (2 * p = 32 /\ ¬ a = 1 /\ ¬ a = 2 /\ ¬ a = 4 /\ ¬ a = 8 /\ ¬ a = 16) ∨ (2 * p = 64 /\ ¬ a = 1 /\ ¬ a = 2 /\ ¬ a = 4 /\ ¬ a = 8 /\ ¬ a = 16 /\ ¬ a = 32) ∨ (2 * p = 128 /\ ¬ a = 1 /\ ¬ a = 2 /\ ¬ a = 4 /\ ¬ a = 8 /\ ¬ a = 16 /\ ¬ a = 32 /\ ¬ a = 64))
        have h9 := HP.out
        omega
      clear he
      go_wp2
      go_round
      case rel => exact ⟨2 * p,by omega,by omega,rfl,hs⟩
      case measure => simp [intOf]; omega
    have hv : Hid (shB a = false) := by
      show _ = _
      have h9 := HP.out; exact decide_eq_false (by omega)
    go_wp2
    go_ret
    exact ⟨by rw [hv.out]; rfl,rfl⟩
set_option maxHeartbeats 8000000 in
theorem rwd_1 (ty : TypeId) (B0 B : Nat) (lim : Int) (L : List Nd) (v : Value) (M1 M2 : Option Nat) (u a b c num : Int) (nm : ByteArray) (w : World) (h : SM ty w B0 B lim L v M1 M2) :
    Calls Tryz.prog 61 #[.pointer (some ⟨B,0,none⟩),.agg #[.int .i64 1,.int .i64 u,.int .i64 a,.int .i64 b,.int .i64 c,.int .u64 num,.string nm]] w fun e w' => e = .returned (.bool (wf 1 u num (wd L a) (wd L b))) /\ Below w.heap.size w w' := by
  have huse := h.len; clear huse; clear h
  go_enter Tryz.func61,Tryz.ntmps61
  go_wp2_with fail
  all_goals go_ret
  all_goals refine ⟨ret_bool ?_,by first | exact bel1 _ _ | exact (bel1 _ _).drew | exact drw (bel1 _ _) _⟩
  all_goals rw [Bool.eq_iff_iff]
  all_goals simp [wf,mw]
set_option maxHeartbeats 8000000 in
theorem rwd_2 (ty : TypeId) (B0 B : Nat) (lim : Int) (L : List Nd) (v : Value) (M1 M2 : Option Nat) (u a b c num : Int) (nm : ByteArray) (w : World) (h : SM ty w B0 B lim L v M1 M2) :
    Calls Tryz.prog 61 #[.pointer (some ⟨B,0,none⟩),.agg #[.int .i64 2,.int .i64 u,.int .i64 a,.int .i64 b,.int .i64 c,.int .u64 num,.string nm]] w fun e w' => e = .returned (.bool (wf 2 u num (wd L a) (wd L b))) /\ Below w.heap.size w w' := by
  have huse := h.len; clear huse; clear h
  go_enter Tryz.func61,Tryz.ntmps61
  go_wp2_with fail
  all_goals go_ret
  all_goals refine ⟨ret_bool ?_,by first | exact bel1 _ _ | exact (bel1 _ _).drew | exact drw (bel1 _ _) _⟩
  all_goals rw [Bool.eq_iff_iff]
  all_goals simp [wf,mw]
set_option maxHeartbeats 8000000 in
theorem rwd_5 (ty : TypeId) (B0 B : Nat) (lim : Int) (L : List Nd) (v : Value) (M1 M2 : Option Nat) (u a b c num : Int) (nm : ByteArray) (w : World) (h : SM ty w B0 B lim L v M1 M2) :
    Calls Tryz.prog 61 #[.pointer (some ⟨B,0,none⟩),.agg #[.int .i64 5,.int .i64 u,.int .i64 a,.int .i64 b,.int .i64 c,.int .u64 num,.string nm]] w fun e w' => e = .returned (.bool (wf 5 u num (wd L a) (wd L b))) /\ Below w.heap.size w w' := by
  have huse := h.len; clear huse; clear h
  go_enter Tryz.func61,Tryz.ntmps61
  go_wp2_with fail
  all_goals go_ret
  all_goals refine ⟨ret_bool ?_,by first | exact bel1 _ _ | exact (bel1 _ _).drew | exact drw (bel1 _ _) _⟩
  all_goals rw [Bool.eq_iff_iff]
  all_goals simp [wf,mw]
set_option maxHeartbeats 8000000 in
theorem rwd_6 (ty : TypeId) (B0 B : Nat) (lim : Int) (L : List Nd) (v : Value) (M1 M2 : Option Nat) (u a b c num : Int) (nm : ByteArray) (w : World) (h : SM ty w B0 B lim L v M1 M2) :
    Calls Tryz.prog 61 #[.pointer (some ⟨B,0,none⟩),.agg #[.int .i64 6,.int .i64 u,.int .i64 a,.int .i64 b,.int .i64 c,.int .u64 num,.string nm]] w fun e w' => e = .returned (.bool (wf 6 u num (wd L a) (wd L b))) /\ Below w.heap.size w w' := by
  have huse := h.len; clear huse; clear h
  go_enter Tryz.func61,Tryz.ntmps61
  go_wp2_with fail
  all_goals go_ret
  all_goals refine ⟨ret_bool ?_,by first | exact bel1 _ _ | exact (bel1 _ _).drew | exact drw (bel1 _ _) _⟩
  all_goals rw [Bool.eq_iff_iff]
  all_goals simp [wf,mw]
set_option maxHeartbeats 8000000 in
theorem rwd_7 (ty : TypeId) (B0 B : Nat) (lim : Int) (L : List Nd) (v : Value) (M1 M2 : Option Nat) (u a b c num : Int) (nm : ByteArray) (w : World) (h : SM ty w B0 B lim L v M1 M2) :
    Calls Tryz.prog 61 #[.pointer (some ⟨B,0,none⟩),.agg #[.int .i64 7,.int .i64 u,.int .i64 a,.int .i64 b,.int .i64 c,.int .u64 num,.string nm]] w fun e w' => e = .returned (.bool (wf 7 u num (wd L a) (wd L b))) /\ Below w.heap.size w w' := by
  have huse := h.len; clear huse; clear h
  go_enter Tryz.func61,Tryz.ntmps61
  go_wp2_with fail
  all_goals go_ret
  all_goals refine ⟨ret_bool ?_,by first | exact bel1 _ _ | exact (bel1 _ _).drew | exact drw (bel1 _ _) _⟩
  all_goals rw [Bool.eq_iff_iff]
  all_goals simp [wf,mw]
set_option maxHeartbeats 8000000 in
theorem rwd_8 (ty : TypeId) (B0 B : Nat) (lim : Int) (L : List Nd) (v : Value) (M1 M2 : Option Nat) (u a b c num : Int) (nm : ByteArray) (w : World) (h : SM ty w B0 B lim L v M1 M2) :
    Calls Tryz.prog 61 #[.pointer (some ⟨B,0,none⟩),.agg #[.int .i64 8,.int .i64 u,.int .i64 a,.int .i64 b,.int .i64 c,.int .u64 num,.string nm]] w fun e w' => e = .returned (.bool (wf 8 u num (wd L a) (wd L b))) /\ Below w.heap.size w w' := by
  have huse := h.len; clear huse; clear h
  go_enter Tryz.func61,Tryz.ntmps61
  go_wp2_with fail
  all_goals go_ret
  all_goals refine ⟨ret_bool ?_,by first | exact bel1 _ _ | exact (bel1 _ _).drew | exact drw (bel1 _ _) _⟩
  all_goals rw [Bool.eq_iff_iff]
  all_goals simp [wf,mw]
set_option maxHeartbeats 8000000 in
theorem rwd_9 (ty : TypeId) (B0 B : Nat) (lim : Int) (L : List Nd) (v : Value) (M1 M2 : Option Nat) (u a b c num : Int) (nm : ByteArray) (w : World) (h : SM ty w B0 B lim L v M1 M2) :
    Calls Tryz.prog 61 #[.pointer (some ⟨B,0,none⟩),.agg #[.int .i64 9,.int .i64 u,.int .i64 a,.int .i64 b,.int .i64 c,.int .u64 num,.string nm]] w fun e w' => e = .returned (.bool (wf 9 u num (wd L a) (wd L b))) /\ Below w.heap.size w w' := by
  have huse := h.len; clear huse; clear h
  go_enter Tryz.func61,Tryz.ntmps61
  go_wp2_with fail
  all_goals go_ret
  all_goals refine ⟨ret_bool ?_,by first | exact bel1 _ _ | exact (bel1 _ _).drew | exact drw (bel1 _ _) _⟩
  all_goals rw [Bool.eq_iff_iff]
  all_goals simp [wf,mw]
set_option maxHeartbeats 8000000 in
theorem rwd_10 (ty : TypeId) (B0 B : Nat) (lim : Int) (L : List Nd) (v : Value) (M1 M2 : Option Nat) (u a b c num : Int) (nm : ByteArray) (w : World) (h : SM ty w B0 B lim L v M1 M2) :
    Calls Tryz.prog 61 #[.pointer (some ⟨B,0,none⟩),.agg #[.int .i64 10,.int .i64 u,.int .i64 a,.int .i64 b,.int .i64 c,.int .u64 num,.string nm]] w fun e w' => e = .returned (.bool (wf 10 u num (wd L a) (wd L b))) /\ Below w.heap.size w w' := by
  have huse := h.len; clear huse; clear h
  go_enter Tryz.func61,Tryz.ntmps61
  go_wp2_with fail
  all_goals go_ret
  all_goals refine ⟨ret_bool ?_,by first | exact bel1 _ _ | exact (bel1 _ _).drew | exact drw (bel1 _ _) _⟩
  all_goals rw [Bool.eq_iff_iff]
  all_goals simp [wf,mw]
set_option maxHeartbeats 8000000 in
theorem rwd_11 (ty : TypeId) (B0 B : Nat) (lim : Int) (L : List Nd) (v : Value) (M1 M2 : Option Nat) (u a b c num : Int) (nm : ByteArray) (w : World) (h : SM ty w B0 B lim L v M1 M2) :
    Calls Tryz.prog 61 #[.pointer (some ⟨B,0,none⟩),.agg #[.int .i64 11,.int .i64 u,.int .i64 a,.int .i64 b,.int .i64 c,.int .u64 num,.string nm]] w fun e w' => e = .returned (.bool (wf 11 u num (wd L a) (wd L b))) /\ Below w.heap.size w w' := by
  have huse := h.len; clear huse; clear h
  go_enter Tryz.func61,Tryz.ntmps61
  go_wp2_with fail
  all_goals go_ret
  all_goals refine ⟨ret_bool ?_,by first | exact bel1 _ _ | exact (bel1 _ _).drew | exact drw (bel1 _ _) _⟩
  all_goals rw [Bool.eq_iff_iff]
  all_goals simp [wf,mw]
set_option maxHeartbeats 8000000 in
theorem rwd_12 (ty : TypeId) (B0 B : Nat) (lim : Int) (L : List Nd) (v : Value) (M1 M2 : Option Nat) (u a b c num : Int) (nm : ByteArray) (w : World) (h : SM ty w B0 B lim L v M1 M2) :
    Calls Tryz.prog 61 #[.pointer (some ⟨B,0,none⟩),.agg #[.int .i64 12,.int .i64 u,.int .i64 a,.int .i64 b,.int .i64 c,.int .u64 num,.string nm]] w fun e w' => e = .returned (.bool (wf 12 u num (wd L a) (wd L b))) /\ Below w.heap.size w w' := by
  have huse := h.len; clear huse; clear h
  go_enter Tryz.func61,Tryz.ntmps61
  go_wp2_with fail
  all_goals go_ret
  all_goals refine ⟨ret_bool ?_,by first | exact bel1 _ _ | exact (bel1 _ _).drew | exact drw (bel1 _ _) _⟩
  all_goals rw [Bool.eq_iff_iff]
  all_goals simp [wf,mw]
set_option maxHeartbeats 8000000 in
theorem rwd_13 (ty : TypeId) (B0 B : Nat) (lim : Int) (L : List Nd) (v : Value) (M1 M2 : Option Nat) (u a b c num : Int) (nm : ByteArray) (w : World) (h : SM ty w B0 B lim L v M1 M2) :
    Calls Tryz.prog 61 #[.pointer (some ⟨B,0,none⟩),.agg #[.int .i64 13,.int .i64 u,.int .i64 a,.int .i64 b,.int .i64 c,.int .u64 num,.string nm]] w fun e w' => e = .returned (.bool (wf 13 u num (wd L a) (wd L b))) /\ Below w.heap.size w w' := by
  have huse := h.len; clear huse; clear h
  go_enter Tryz.func61,Tryz.ntmps61
  go_wp2_with fail
  all_goals go_ret
  all_goals refine ⟨ret_bool ?_,by first | exact bel1 _ _ | exact (bel1 _ _).drew | exact drw (bel1 _ _) _⟩
  all_goals rw [Bool.eq_iff_iff]
  all_goals simp [wf,mw]
set_option maxHeartbeats 8000000 in
theorem rwd_4 (ty : TypeId) (B0 B : Nat) (lim : Int) (L : List Nd) (v : Value) (M1 M2 : Option Nat) (u a b c num : Int) (nm : ByteArray) (w : World) (h : SM ty w B0 B lim L v M1 M2) :
    Calls Tryz.prog 61 #[.pointer (some ⟨B,0,none⟩),.agg #[.int .i64 4,.int .i64 u,.int .i64 a,.int .i64 b,.int .i64 c,.int .u64 num,.string nm]] w fun e w' => e = .returned (.bool (wf 4 u num (wd L a) (wd L b))) /\ Below w.heap.size w w' := by
  have huse := h.len; clear huse; clear h
  go_enter Tryz.func61,Tryz.ntmps61
  go_wp2_with fail
  all_goals go_ret
  all_goals refine ⟨ret_bool ?_,by first | exact bel1 _ _ | exact (bel1 _ _).drew | exact drw (bel1 _ _) _⟩
  all_goals simp [wf]
set_option maxHeartbeats 8000000 in
theorem rwd_15 (ty : TypeId) (B0 B : Nat) (lim : Int) (L : List Nd) (v : Value) (M1 M2 : Option Nat) (u a b c num : Int) (nm : ByteArray) (w : World) (h : SM ty w B0 B lim L v M1 M2) (ha : isT L a = true) :
    Calls Tryz.prog 61 #[.pointer (some ⟨B,0,none⟩),.agg #[.int .i64 15,.int .i64 u,.int .i64 a,.int .i64 b,.int .i64 c,.int .u64 num,.string nm]] w fun e w' => e = .returned (.bool (wf 15 u num (wd L a) (wd L b))) /\ Below w.heap.size w w' := by
  have HQ : Hid (∀ o m t,isT L t = true -> Calls Tryz.prog 57 #[.pointer (some ⟨B,0,none⟩),.int .i64 t] ((w.alloc o).drewN m) fun e w' => e = .returned (.int .i64 (wd L t)) /\ w' = (w.alloc o).drewN m) := fun o m t ht => w_any ty B0 B lim L v M1 M2 t _ (h.below (drw (bel1 w o) m)) ht
  have HQ0 : Hid (∀ o t,isT L t = true -> Calls Tryz.prog 57 #[.pointer (some ⟨B,0,none⟩),.int .i64 t] (w.alloc o) fun e w' => e = .returned (.int .i64 (wd L t)) /\ w' = w.alloc o) := fun o t ht => w_any ty B0 B lim L v M1 M2 t _ (h.below (bel1 w o)) ht
  clear h
  go_enter Tryz.func61,Tryz.ntmps61
  go_wp2_with (go_at_call 57; refine (HQ0.out _ _ (by assumption)).mono ?_; rintro e w' ⟨rfl,rfl⟩)
  all_goals go_ret
  all_goals refine ⟨ret_bool ?_,by first | exact bel1 _ _ | exact (bel1 _ _).drew | exact drw (bel1 _ _) _⟩
  all_goals rw [Bool.eq_iff_iff]
  all_goals simp [wf,mw]
set_option maxHeartbeats 8000000 in
theorem rwd_16 (ty : TypeId) (B0 B : Nat) (lim : Int) (L : List Nd) (v : Value) (M1 M2 : Option Nat) (u a b c num : Int) (nm : ByteArray) (w : World) (h : SM ty w B0 B lim L v M1 M2) (ha : isT L a = true) :
    Calls Tryz.prog 61 #[.pointer (some ⟨B,0,none⟩),.agg #[.int .i64 16,.int .i64 u,.int .i64 a,.int .i64 b,.int .i64 c,.int .u64 num,.string nm]] w fun e w' => e = .returned (.bool (wf 16 u num (wd L a) (wd L b))) /\ Below w.heap.size w w' := by
  have HQ : Hid (∀ o m t,isT L t = true -> Calls Tryz.prog 57 #[.pointer (some ⟨B,0,none⟩),.int .i64 t] ((w.alloc o).drewN m) fun e w' => e = .returned (.int .i64 (wd L t)) /\ w' = (w.alloc o).drewN m) := fun o m t ht => w_any ty B0 B lim L v M1 M2 t _ (h.below (drw (bel1 w o) m)) ht
  have HQ0 : Hid (∀ o t,isT L t = true -> Calls Tryz.prog 57 #[.pointer (some ⟨B,0,none⟩),.int .i64 t] (w.alloc o) fun e w' => e = .returned (.int .i64 (wd L t)) /\ w' = w.alloc o) := fun o t ht => w_any ty B0 B lim L v M1 M2 t _ (h.below (bel1 w o)) ht
  clear h
  go_enter Tryz.func61,Tryz.ntmps61
  go_wp2_with (go_at_call 57; refine (HQ0.out _ _ (by assumption)).mono ?_; rintro e w' ⟨rfl,rfl⟩)
  all_goals go_ret
  all_goals refine ⟨ret_bool ?_,by first | exact bel1 _ _ | exact (bel1 _ _).drew | exact drw (bel1 _ _) _⟩
  all_goals rw [Bool.eq_iff_iff]
  all_goals simp [wf,mw]
set_option maxHeartbeats 8000000 in
theorem rwd_17 (ty : TypeId) (B0 B : Nat) (lim : Int) (L : List Nd) (v : Value) (M1 M2 : Option Nat) (u a b c num : Int) (nm : ByteArray) (w : World) (h : SM ty w B0 B lim L v M1 M2) (ha : isT L a = true) :
    Calls Tryz.prog 61 #[.pointer (some ⟨B,0,none⟩),.agg #[.int .i64 17,.int .i64 u,.int .i64 a,.int .i64 b,.int .i64 c,.int .u64 num,.string nm]] w fun e w' => e = .returned (.bool (wf 17 u num (wd L a) (wd L b))) /\ Below w.heap.size w w' := by
  have HQ : Hid (∀ o m t,isT L t = true -> Calls Tryz.prog 57 #[.pointer (some ⟨B,0,none⟩),.int .i64 t] ((w.alloc o).drewN m) fun e w' => e = .returned (.int .i64 (wd L t)) /\ w' = (w.alloc o).drewN m) := fun o m t ht => w_any ty B0 B lim L v M1 M2 t _ (h.below (drw (bel1 w o) m)) ht
  have HQ0 : Hid (∀ o t,isT L t = true -> Calls Tryz.prog 57 #[.pointer (some ⟨B,0,none⟩),.int .i64 t] (w.alloc o) fun e w' => e = .returned (.int .i64 (wd L t)) /\ w' = w.alloc o) := fun o t ht => w_any ty B0 B lim L v M1 M2 t _ (h.below (bel1 w o)) ht
  clear h
  go_enter Tryz.func61,Tryz.ntmps61
  go_wp2_with (go_at_call 57; refine (HQ0.out _ _ (by assumption)).mono ?_; rintro e w' ⟨rfl,rfl⟩)
  all_goals go_ret
  all_goals refine ⟨ret_bool ?_,by first | exact bel1 _ _ | exact (bel1 _ _).drew | exact drw (bel1 _ _) _⟩
  all_goals rw [Bool.eq_iff_iff]
  all_goals simp [wf,mw]
set_option maxHeartbeats 8000000 in
theorem rwd_18 (ty : TypeId) (B0 B : Nat) (lim : Int) (L : List Nd) (v : Value) (M1 M2 : Option Nat) (u a b c num : Int) (nm : ByteArray) (w : World) (h : SM ty w B0 B lim L v M1 M2) (ha : isT L a = true) :
    Calls Tryz.prog 61 #[.pointer (some ⟨B,0,none⟩),.agg #[.int .i64 18,.int .i64 u,.int .i64 a,.int .i64 b,.int .i64 c,.int .u64 num,.string nm]] w fun e w' => e = .returned (.bool (wf 18 u num (wd L a) (wd L b))) /\ Below w.heap.size w w' := by
  have HQ : Hid (∀ o m t,isT L t = true -> Calls Tryz.prog 57 #[.pointer (some ⟨B,0,none⟩),.int .i64 t] ((w.alloc o).drewN m) fun e w' => e = .returned (.int .i64 (wd L t)) /\ w' = (w.alloc o).drewN m) := fun o m t ht => w_any ty B0 B lim L v M1 M2 t _ (h.below (drw (bel1 w o) m)) ht
  have HQ0 : Hid (∀ o t,isT L t = true -> Calls Tryz.prog 57 #[.pointer (some ⟨B,0,none⟩),.int .i64 t] (w.alloc o) fun e w' => e = .returned (.int .i64 (wd L t)) /\ w' = w.alloc o) := fun o t ht => w_any ty B0 B lim L v M1 M2 t _ (h.below (bel1 w o)) ht
  clear h
  go_enter Tryz.func61,Tryz.ntmps61
  go_wp2_with (go_at_call 57; refine (HQ0.out _ _ (by assumption)).mono ?_; rintro e w' ⟨rfl,rfl⟩)
  all_goals go_ret
  all_goals refine ⟨ret_bool ?_,by first | exact bel1 _ _ | exact (bel1 _ _).drew | exact drw (bel1 _ _) _⟩
  all_goals rw [Bool.eq_iff_iff]
  all_goals simp [wf,mw]
set_option maxHeartbeats 8000000 in
theorem rwd_19 (ty : TypeId) (B0 B : Nat) (lim : Int) (L : List Nd) (v : Value) (M1 M2 : Option Nat) (u a b c num : Int) (nm : ByteArray) (w : World) (h : SM ty w B0 B lim L v M1 M2) (ha : isT L a = true) :
    Calls Tryz.prog 61 #[.pointer (some ⟨B,0,none⟩),.agg #[.int .i64 19,.int .i64 u,.int .i64 a,.int .i64 b,.int .i64 c,.int .u64 num,.string nm]] w fun e w' => e = .returned (.bool (wf 19 u num (wd L a) (wd L b))) /\ Below w.heap.size w w' := by
  have HQ : Hid (∀ o m t,isT L t = true -> Calls Tryz.prog 57 #[.pointer (some ⟨B,0,none⟩),.int .i64 t] ((w.alloc o).drewN m) fun e w' => e = .returned (.int .i64 (wd L t)) /\ w' = (w.alloc o).drewN m) := fun o m t ht => w_any ty B0 B lim L v M1 M2 t _ (h.below (drw (bel1 w o) m)) ht
  have HQ0 : Hid (∀ o t,isT L t = true -> Calls Tryz.prog 57 #[.pointer (some ⟨B,0,none⟩),.int .i64 t] (w.alloc o) fun e w' => e = .returned (.int .i64 (wd L t)) /\ w' = w.alloc o) := fun o t ht => w_any ty B0 B lim L v M1 M2 t _ (h.below (bel1 w o)) ht
  clear h
  go_enter Tryz.func61,Tryz.ntmps61
  go_wp2_with (go_at_call 57; refine (HQ0.out _ _ (by assumption)).mono ?_; rintro e w' ⟨rfl,rfl⟩)
  all_goals go_ret
  all_goals refine ⟨ret_bool ?_,by first | exact bel1 _ _ | exact (bel1 _ _).drew | exact drw (bel1 _ _) _⟩
  all_goals rw [Bool.eq_iff_iff]
  all_goals simp [wf,mw]
set_option maxHeartbeats 8000000 in
theorem rwd_20 (ty : TypeId) (B0 B : Nat) (lim : Int) (L : List Nd) (v : Value) (M1 M2 : Option Nat) (u a b c num : Int) (nm : ByteArray) (w : World) (h : SM ty w B0 B lim L v M1 M2) (ha : isT L a = true) :
    Calls Tryz.prog 61 #[.pointer (some ⟨B,0,none⟩),.agg #[.int .i64 20,.int .i64 u,.int .i64 a,.int .i64 b,.int .i64 c,.int .u64 num,.string nm]] w fun e w' => e = .returned (.bool (wf 20 u num (wd L a) (wd L b))) /\ Below w.heap.size w w' := by
  have HQ : Hid (∀ o m t,isT L t = true -> Calls Tryz.prog 57 #[.pointer (some ⟨B,0,none⟩),.int .i64 t] ((w.alloc o).drewN m) fun e w' => e = .returned (.int .i64 (wd L t)) /\ w' = (w.alloc o).drewN m) := fun o m t ht => w_any ty B0 B lim L v M1 M2 t _ (h.below (drw (bel1 w o) m)) ht
  have HQ0 : Hid (∀ o t,isT L t = true -> Calls Tryz.prog 57 #[.pointer (some ⟨B,0,none⟩),.int .i64 t] (w.alloc o) fun e w' => e = .returned (.int .i64 (wd L t)) /\ w' = w.alloc o) := fun o t ht => w_any ty B0 B lim L v M1 M2 t _ (h.below (bel1 w o)) ht
  clear h
  go_enter Tryz.func61,Tryz.ntmps61
  go_wp2_with (go_at_call 57; refine (HQ0.out _ _ (by assumption)).mono ?_; rintro e w' ⟨rfl,rfl⟩)
  all_goals go_ret
  all_goals refine ⟨ret_bool ?_,by first | exact bel1 _ _ | exact (bel1 _ _).drew | exact drw (bel1 _ _) _⟩
  all_goals rw [Bool.eq_iff_iff]
  all_goals simp [wf,mw]
set_option maxHeartbeats 8000000 in
theorem rwd_21 (ty : TypeId) (B0 B : Nat) (lim : Int) (L : List Nd) (v : Value) (M1 M2 : Option Nat) (u a b c num : Int) (nm : ByteArray) (w : World) (h : SM ty w B0 B lim L v M1 M2) (ha : isT L a = true) :
    Calls Tryz.prog 61 #[.pointer (some ⟨B,0,none⟩),.agg #[.int .i64 21,.int .i64 u,.int .i64 a,.int .i64 b,.int .i64 c,.int .u64 num,.string nm]] w fun e w' => e = .returned (.bool (wf 21 u num (wd L a) (wd L b))) /\ Below w.heap.size w w' := by
  have HQ : Hid (∀ o m t,isT L t = true -> Calls Tryz.prog 57 #[.pointer (some ⟨B,0,none⟩),.int .i64 t] ((w.alloc o).drewN m) fun e w' => e = .returned (.int .i64 (wd L t)) /\ w' = (w.alloc o).drewN m) := fun o m t ht => w_any ty B0 B lim L v M1 M2 t _ (h.below (drw (bel1 w o) m)) ht
  have HQ0 : Hid (∀ o t,isT L t = true -> Calls Tryz.prog 57 #[.pointer (some ⟨B,0,none⟩),.int .i64 t] (w.alloc o) fun e w' => e = .returned (.int .i64 (wd L t)) /\ w' = w.alloc o) := fun o t ht => w_any ty B0 B lim L v M1 M2 t _ (h.below (bel1 w o)) ht
  clear h
  go_enter Tryz.func61,Tryz.ntmps61
  go_wp2_with (go_at_call 57; refine (HQ0.out _ _ (by assumption)).mono ?_; rintro e w' ⟨rfl,rfl⟩)
  all_goals go_ret
  all_goals refine ⟨ret_bool ?_,by first | exact bel1 _ _ | exact (bel1 _ _).drew | exact drw (bel1 _ _) _⟩
  all_goals rw [Bool.eq_iff_iff]
  all_goals simp [wf,mw]
set_option maxHeartbeats 8000000 in
theorem rwd_22 (ty : TypeId) (B0 B : Nat) (lim : Int) (L : List Nd) (v : Value) (M1 M2 : Option Nat) (u a b c num : Int) (nm : ByteArray) (w : World) (h : SM ty w B0 B lim L v M1 M2) (ha : isT L a = true) :
    Calls Tryz.prog 61 #[.pointer (some ⟨B,0,none⟩),.agg #[.int .i64 22,.int .i64 u,.int .i64 a,.int .i64 b,.int .i64 c,.int .u64 num,.string nm]] w fun e w' => e = .returned (.bool (wf 22 u num (wd L a) (wd L b))) /\ Below w.heap.size w w' := by
  have HQ : Hid (∀ o m t,isT L t = true -> Calls Tryz.prog 57 #[.pointer (some ⟨B,0,none⟩),.int .i64 t] ((w.alloc o).drewN m) fun e w' => e = .returned (.int .i64 (wd L t)) /\ w' = (w.alloc o).drewN m) := fun o m t ht => w_any ty B0 B lim L v M1 M2 t _ (h.below (drw (bel1 w o) m)) ht
  have HQ0 : Hid (∀ o t,isT L t = true -> Calls Tryz.prog 57 #[.pointer (some ⟨B,0,none⟩),.int .i64 t] (w.alloc o) fun e w' => e = .returned (.int .i64 (wd L t)) /\ w' = w.alloc o) := fun o t ht => w_any ty B0 B lim L v M1 M2 t _ (h.below (bel1 w o)) ht
  clear h
  go_enter Tryz.func61,Tryz.ntmps61
  go_wp2_with (go_at_call 57; refine (HQ0.out _ _ (by assumption)).mono ?_; rintro e w' ⟨rfl,rfl⟩)
  all_goals go_ret
  all_goals refine ⟨ret_bool ?_,by first | exact bel1 _ _ | exact (bel1 _ _).drew | exact drw (bel1 _ _) _⟩
  all_goals rw [Bool.eq_iff_iff]
  all_goals simp [wf,mw]
set_option maxHeartbeats 8000000 in
theorem rwd_23 (ty : TypeId) (B0 B : Nat) (lim : Int) (L : List Nd) (v : Value) (M1 M2 : Option Nat) (u a b c num : Int) (nm : ByteArray) (w : World) (h : SM ty w B0 B lim L v M1 M2) (ha : isT L a = true) :
    Calls Tryz.prog 61 #[.pointer (some ⟨B,0,none⟩),.agg #[.int .i64 23,.int .i64 u,.int .i64 a,.int .i64 b,.int .i64 c,.int .u64 num,.string nm]] w fun e w' => e = .returned (.bool (wf 23 u num (wd L a) (wd L b))) /\ Below w.heap.size w w' := by
  have HQ : Hid (∀ o m t,isT L t = true -> Calls Tryz.prog 57 #[.pointer (some ⟨B,0,none⟩),.int .i64 t] ((w.alloc o).drewN m) fun e w' => e = .returned (.int .i64 (wd L t)) /\ w' = (w.alloc o).drewN m) := fun o m t ht => w_any ty B0 B lim L v M1 M2 t _ (h.below (drw (bel1 w o) m)) ht
  have HQ0 : Hid (∀ o t,isT L t = true -> Calls Tryz.prog 57 #[.pointer (some ⟨B,0,none⟩),.int .i64 t] (w.alloc o) fun e w' => e = .returned (.int .i64 (wd L t)) /\ w' = w.alloc o) := fun o t ht => w_any ty B0 B lim L v M1 M2 t _ (h.below (bel1 w o)) ht
  clear h
  go_enter Tryz.func61,Tryz.ntmps61
  go_wp2_with (go_at_call 57; refine (HQ0.out _ _ (by assumption)).mono ?_; rintro e w' ⟨rfl,rfl⟩)
  all_goals go_ret
  all_goals refine ⟨ret_bool ?_,by first | exact bel1 _ _ | exact (bel1 _ _).drew | exact drw (bel1 _ _) _⟩
  all_goals rw [Bool.eq_iff_iff]
  all_goals simp [wf,mw]
set_option maxHeartbeats 8000000 in
theorem rwd_24 (ty : TypeId) (B0 B : Nat) (lim : Int) (L : List Nd) (v : Value) (M1 M2 : Option Nat) (u a b c num : Int) (nm : ByteArray) (w : World) (h : SM ty w B0 B lim L v M1 M2) (ha : isT L a = true) :
    Calls Tryz.prog 61 #[.pointer (some ⟨B,0,none⟩),.agg #[.int .i64 24,.int .i64 u,.int .i64 a,.int .i64 b,.int .i64 c,.int .u64 num,.string nm]] w fun e w' => e = .returned (.bool (wf 24 u num (wd L a) (wd L b))) /\ Below w.heap.size w w' := by
  have HQ : Hid (∀ o m t,isT L t = true -> Calls Tryz.prog 57 #[.pointer (some ⟨B,0,none⟩),.int .i64 t] ((w.alloc o).drewN m) fun e w' => e = .returned (.int .i64 (wd L t)) /\ w' = (w.alloc o).drewN m) := fun o m t ht => w_any ty B0 B lim L v M1 M2 t _ (h.below (drw (bel1 w o) m)) ht
  have HQ0 : Hid (∀ o t,isT L t = true -> Calls Tryz.prog 57 #[.pointer (some ⟨B,0,none⟩),.int .i64 t] (w.alloc o) fun e w' => e = .returned (.int .i64 (wd L t)) /\ w' = w.alloc o) := fun o t ht => w_any ty B0 B lim L v M1 M2 t _ (h.below (bel1 w o)) ht
  clear h
  go_enter Tryz.func61,Tryz.ntmps61
  go_wp2_with (go_at_call 57; refine (HQ0.out _ _ (by assumption)).mono ?_; rintro e w' ⟨rfl,rfl⟩)
  all_goals go_ret
  all_goals refine ⟨ret_bool ?_,by first | exact bel1 _ _ | exact (bel1 _ _).drew | exact drw (bel1 _ _) _⟩
  all_goals rw [Bool.eq_iff_iff]
  all_goals simp [wf,mw]
set_option maxHeartbeats 8000000 in
theorem rwd_32 (ty : TypeId) (B0 B : Nat) (lim : Int) (L : List Nd) (v : Value) (M1 M2 : Option Nat) (u a b c num : Int) (nm : ByteArray) (w : World) (h : SM ty w B0 B lim L v M1 M2) (ha : isT L a = true) :
    Calls Tryz.prog 61 #[.pointer (some ⟨B,0,none⟩),.agg #[.int .i64 32,.int .i64 u,.int .i64 a,.int .i64 b,.int .i64 c,.int .u64 num,.string nm]] w fun e w' => e = .returned (.bool (wf 32 u num (wd L a) (wd L b))) /\ Below w.heap.size w w' := by
  have HQ : Hid (∀ o m t,isT L t = true -> Calls Tryz.prog 57 #[.pointer (some ⟨B,0,none⟩),.int .i64 t] ((w.alloc o).drewN m) fun e w' => e = .returned (.int .i64 (wd L t)) /\ w' = (w.alloc o).drewN m) := fun o m t ht => w_any ty B0 B lim L v M1 M2 t _ (h.below (drw (bel1 w o) m)) ht
  have HQ0 : Hid (∀ o t,isT L t = true -> Calls Tryz.prog 57 #[.pointer (some ⟨B,0,none⟩),.int .i64 t] (w.alloc o) fun e w' => e = .returned (.int .i64 (wd L t)) /\ w' = w.alloc o) := fun o t ht => w_any ty B0 B lim L v M1 M2 t _ (h.below (bel1 w o)) ht
  clear h
  go_enter Tryz.func61,Tryz.ntmps61
  go_wp2_with (go_at_call 57; refine (HQ0.out _ _ (by assumption)).mono ?_; rintro e w' ⟨rfl,rfl⟩)
  all_goals go_ret
  all_goals refine ⟨ret_bool ?_,by first | exact bel1 _ _ | exact (bel1 _ _).drew | exact drw (bel1 _ _) _⟩
  all_goals rw [Bool.eq_iff_iff]
  all_goals simp [wf]
set_option maxHeartbeats 8000000 in
theorem rwd_33 (ty : TypeId) (B0 B : Nat) (lim : Int) (L : List Nd) (v : Value) (M1 M2 : Option Nat) (u a b c num : Int) (nm : ByteArray) (w : World) (h : SM ty w B0 B lim L v M1 M2) (ha : isT L a = true) :
    Calls Tryz.prog 61 #[.pointer (some ⟨B,0,none⟩),.agg #[.int .i64 33,.int .i64 u,.int .i64 a,.int .i64 b,.int .i64 c,.int .u64 num,.string nm]] w fun e w' => e = .returned (.bool (wf 33 u num (wd L a) (wd L b))) /\ Below w.heap.size w w' := by
  have HQ : Hid (∀ o m t,isT L t = true -> Calls Tryz.prog 57 #[.pointer (some ⟨B,0,none⟩),.int .i64 t] ((w.alloc o).drewN m) fun e w' => e = .returned (.int .i64 (wd L t)) /\ w' = (w.alloc o).drewN m) := fun o m t ht => w_any ty B0 B lim L v M1 M2 t _ (h.below (drw (bel1 w o) m)) ht
  have HQ0 : Hid (∀ o t,isT L t = true -> Calls Tryz.prog 57 #[.pointer (some ⟨B,0,none⟩),.int .i64 t] (w.alloc o) fun e w' => e = .returned (.int .i64 (wd L t)) /\ w' = w.alloc o) := fun o t ht => w_any ty B0 B lim L v M1 M2 t _ (h.below (bel1 w o)) ht
  clear h
  go_enter Tryz.func61,Tryz.ntmps61
  go_wp2_with (go_at_call 57; refine (HQ0.out _ _ (by assumption)).mono ?_; rintro e w' ⟨rfl,rfl⟩)
  all_goals go_ret
  all_goals refine ⟨ret_bool ?_,by first | exact bel1 _ _ | exact (bel1 _ _).drew | exact drw (bel1 _ _) _⟩
  all_goals rw [Bool.eq_iff_iff]
  all_goals simp [wf]
set_option maxHeartbeats 8000000 in
theorem rwd_14 (ty : TypeId) (B0 B : Nat) (lim : Int) (L : List Nd) (v : Value) (M1 M2 : Option Nat) (u a b c num : Int) (nm : ByteArray) (w : World) (h : SM ty w B0 B lim L v M1 M2) (ha : isT L a = true) (hb : isT L b = true) :
    Calls Tryz.prog 61 #[.pointer (some ⟨B,0,none⟩),.agg #[.int .i64 14,.int .i64 u,.int .i64 a,.int .i64 b,.int .i64 c,.int .u64 num,.string nm]] w fun e w' => e = .returned (.bool (wf 14 u num (wd L a) (wd L b))) /\ Below w.heap.size w w' := by
  have HQ : Hid (∀ o m t,isT L t = true -> Calls Tryz.prog 57 #[.pointer (some ⟨B,0,none⟩),.int .i64 t] ((w.alloc o).drewN m) fun e w' => e = .returned (.int .i64 (wd L t)) /\ w' = (w.alloc o).drewN m) := fun o m t ht => w_any ty B0 B lim L v M1 M2 t _ (h.below (drw (bel1 w o) m)) ht
  have HQ0 : Hid (∀ o t,isT L t = true -> Calls Tryz.prog 57 #[.pointer (some ⟨B,0,none⟩),.int .i64 t] (w.alloc o) fun e w' => e = .returned (.int .i64 (wd L t)) /\ w' = w.alloc o) := fun o t ht => w_any ty B0 B lim L v M1 M2 t _ (h.below (bel1 w o)) ht
  clear h; have huse := ha; clear huse
  go_enter Tryz.func61,Tryz.ntmps61
  go_wp2_with (go_at_call 57; refine (HQ0.out _ _ (by assumption)).mono ?_; rintro e w' ⟨rfl,rfl⟩)
  all_goals go_ret
  all_goals refine ⟨ret_bool ?_,by first | exact bel1 _ _ | exact (bel1 _ _).drew | exact drw (bel1 _ _) _⟩
  all_goals rw [Bool.eq_iff_iff]
  all_goals simp [wf,mw]
set_option maxHeartbeats 8000000 in
theorem rwd_30 (ty : TypeId) (B0 B : Nat) (lim : Int) (L : List Nd) (v : Value) (M1 M2 : Option Nat) (u a b c num : Int) (nm : ByteArray) (w : World) (h : SM ty w B0 B lim L v M1 M2) (ha : isT L a = true) (hb : isT L b = true) (hw : Wds L) :
    Calls Tryz.prog 61 #[.pointer (some ⟨B,0,none⟩),.agg #[.int .i64 30,.int .i64 u,.int .i64 a,.int .i64 b,.int .i64 c,.int .u64 num,.string nm]] w fun e w' => e = .returned (.bool (wf 30 u num (wd L a) (wd L b))) /\ Below w.heap.size w w' := by
  have HQ : Hid (∀ o m t,isT L t = true -> Calls Tryz.prog 57 #[.pointer (some ⟨B,0,none⟩),.int .i64 t] ((w.alloc o).drewN m) fun e w' => e = .returned (.int .i64 (wd L t)) /\ w' = (w.alloc o).drewN m) := fun o m t ht => w_any ty B0 B lim L v M1 M2 t _ (h.below (drw (bel1 w o) m)) ht
  have HQ0 : Hid (∀ o t,isT L t = true -> Calls Tryz.prog 57 #[.pointer (some ⟨B,0,none⟩),.int .i64 t] (w.alloc o) fun e w' => e = .returned (.int .i64 (wd L t)) /\ w' = w.alloc o) := fun o t ht => w_any ty B0 B lim L v M1 M2 t _ (h.below (bel1 w o)) ht
  clear h; have hx := wd_lo hw a; have hy := wd_lo hw b
  go_enter Tryz.func61,Tryz.ntmps61
  go_wp2_with fail
  go_big_quiet ((go_at_call 57; exact Calls.quiet_of_same (HQ.out _ _ _ (by assumption))))
  all_goals go_wp2
  all_goals go_ret
  all_goals refine ⟨ret_bool ?_,by first | exact bel1 _ _ | exact (bel1 _ _).drew | exact drw (bel1 _ _) _⟩
  all_goals rw [Bool.eq_iff_iff]
  all_goals simp [wf]
set_option maxHeartbeats 8000000 in
theorem rwd_25 (ty : TypeId) (B0 B : Nat) (lim : Int) (L : List Nd) (v : Value) (M1 M2 : Option Nat) (u a b c num : Int) (nm : ByteArray) (w : World) (h : SM ty w B0 B lim L v M1 M2) (ha : isT L a = true) :
    Calls Tryz.prog 61 #[.pointer (some ⟨B,0,none⟩),.agg #[.int .i64 25,.int .i64 u,.int .i64 a,.int .i64 b,.int .i64 c,.int .u64 num,.string nm]] w fun e w' => e = .returned (.bool (wf 25 u num (wd L a) (wd L b))) /\ Below w.heap.size w w' := by
  have HQ : Hid (∀ o m t,isT L t = true -> Calls Tryz.prog 57 #[.pointer (some ⟨B,0,none⟩),.int .i64 t] ((w.alloc o).drewN m) fun e w' => e = .returned (.int .i64 (wd L t)) /\ w' = (w.alloc o).drewN m) := fun o m t ht => w_any ty B0 B lim L v M1 M2 t _ (h.below (drw (bel1 w o) m)) ht
  have HQ0 : Hid (∀ o t,isT L t = true -> Calls Tryz.prog 57 #[.pointer (some ⟨B,0,none⟩),.int .i64 t] (w.alloc o) fun e w' => e = .returned (.int .i64 (wd L t)) /\ w' = w.alloc o) := fun o t ht => w_any ty B0 B lim L v M1 M2 t _ (h.below (bel1 w o)) ht
  clear h
  by_cases h0 : u = wd L a
  · have q0 : (u == wd L a) = true := by simpa using h0
    have hr : Hid (shB u = wf 25 u num (wd L a) (wd L b)) := by
      show _ = _
      simp [wf,h0]
    generalize wf 25 u num (wd L a) (wd L b) = R at *
    clear h0
    go_enter Tryz.func61,Tryz.ntmps61
    go_wp2_with (first | (go_at_call 57; refine (HQ0.out _ _ (by assumption)).mono ?_; rintro e w' ⟨rfl,rfl⟩) | (go_at_call 87; refine (shifts_any _ _).mono ?_; rintro e w' ⟨rfl,rfl⟩))
    all_goals go_ret
    all_goals exact ⟨ret_bool hr.out,by first | exact bel1 _ _ | exact (bel1 _ _).drew | exact drw (bel1 _ _) _⟩
  have q0 : (u == wd L a) = false := by simpa using h0
  have hr : Hid (false = wf 25 u num (wd L a) (wd L b)) := by
    show _ = _
    simp [wf,h0]
  generalize wf 25 u num (wd L a) (wd L b) = R at *
  clear h0
  go_enter Tryz.func61,Tryz.ntmps61
  go_wp2_with (first | (go_at_call 57; refine (HQ0.out _ _ (by assumption)).mono ?_; rintro e w' ⟨rfl,rfl⟩) | (go_at_call 87; refine (shifts_any _ _).mono ?_; rintro e w' ⟨rfl,rfl⟩))
  all_goals go_ret
  all_goals exact ⟨ret_bool hr.out,by first | exact bel1 _ _ | exact (bel1 _ _).drew | exact drw (bel1 _ _) _⟩
set_option maxHeartbeats 8000000 in
theorem rwd_26 (ty : TypeId) (B0 B : Nat) (lim : Int) (L : List Nd) (v : Value) (M1 M2 : Option Nat) (u a b c num : Int) (nm : ByteArray) (w : World) (h : SM ty w B0 B lim L v M1 M2) (ha : isT L a = true) :
    Calls Tryz.prog 61 #[.pointer (some ⟨B,0,none⟩),.agg #[.int .i64 26,.int .i64 u,.int .i64 a,.int .i64 b,.int .i64 c,.int .u64 num,.string nm]] w fun e w' => e = .returned (.bool (wf 26 u num (wd L a) (wd L b))) /\ Below w.heap.size w w' := by
  have HQ : Hid (∀ o m t,isT L t = true -> Calls Tryz.prog 57 #[.pointer (some ⟨B,0,none⟩),.int .i64 t] ((w.alloc o).drewN m) fun e w' => e = .returned (.int .i64 (wd L t)) /\ w' = (w.alloc o).drewN m) := fun o m t ht => w_any ty B0 B lim L v M1 M2 t _ (h.below (drw (bel1 w o) m)) ht
  have HQ0 : Hid (∀ o t,isT L t = true -> Calls Tryz.prog 57 #[.pointer (some ⟨B,0,none⟩),.int .i64 t] (w.alloc o) fun e w' => e = .returned (.int .i64 (wd L t)) /\ w' = w.alloc o) := fun o t ht => w_any ty B0 B lim L v M1 M2 t _ (h.below (bel1 w o)) ht
  clear h
  by_cases h0 : u = wd L a
  · have q0 : (u == wd L a) = true := by simpa using h0
    have hr : Hid (shB u = wf 26 u num (wd L a) (wd L b)) := by
      show _ = _
      simp [wf,h0]
    generalize wf 26 u num (wd L a) (wd L b) = R at *
    clear h0
    go_enter Tryz.func61,Tryz.ntmps61
    go_wp2_with (first | (go_at_call 57; refine (HQ0.out _ _ (by assumption)).mono ?_; rintro e w' ⟨rfl,rfl⟩) | (go_at_call 87; refine (shifts_any _ _).mono ?_; rintro e w' ⟨rfl,rfl⟩))
    all_goals go_ret
    all_goals exact ⟨ret_bool hr.out,by first | exact bel1 _ _ | exact (bel1 _ _).drew | exact drw (bel1 _ _) _⟩
  have q0 : (u == wd L a) = false := by simpa using h0
  have hr : Hid (false = wf 26 u num (wd L a) (wd L b)) := by
    show _ = _
    simp [wf,h0]
  generalize wf 26 u num (wd L a) (wd L b) = R at *
  clear h0
  go_enter Tryz.func61,Tryz.ntmps61
  go_wp2_with (first | (go_at_call 57; refine (HQ0.out _ _ (by assumption)).mono ?_; rintro e w' ⟨rfl,rfl⟩) | (go_at_call 87; refine (shifts_any _ _).mono ?_; rintro e w' ⟨rfl,rfl⟩))
  all_goals go_ret
  all_goals exact ⟨ret_bool hr.out,by first | exact bel1 _ _ | exact (bel1 _ _).drew | exact drw (bel1 _ _) _⟩
set_option maxHeartbeats 8000000 in
theorem rwd_27 (ty : TypeId) (B0 B : Nat) (lim : Int) (L : List Nd) (v : Value) (M1 M2 : Option Nat) (u a b c num : Int) (nm : ByteArray) (w : World) (h : SM ty w B0 B lim L v M1 M2) (ha : isT L a = true) :
    Calls Tryz.prog 61 #[.pointer (some ⟨B,0,none⟩),.agg #[.int .i64 27,.int .i64 u,.int .i64 a,.int .i64 b,.int .i64 c,.int .u64 num,.string nm]] w fun e w' => e = .returned (.bool (wf 27 u num (wd L a) (wd L b))) /\ Below w.heap.size w w' := by
  have HQ : Hid (∀ o m t,isT L t = true -> Calls Tryz.prog 57 #[.pointer (some ⟨B,0,none⟩),.int .i64 t] ((w.alloc o).drewN m) fun e w' => e = .returned (.int .i64 (wd L t)) /\ w' = (w.alloc o).drewN m) := fun o m t ht => w_any ty B0 B lim L v M1 M2 t _ (h.below (drw (bel1 w o) m)) ht
  have HQ0 : Hid (∀ o t,isT L t = true -> Calls Tryz.prog 57 #[.pointer (some ⟨B,0,none⟩),.int .i64 t] (w.alloc o) fun e w' => e = .returned (.int .i64 (wd L t)) /\ w' = w.alloc o) := fun o t ht => w_any ty B0 B lim L v M1 M2 t _ (h.below (bel1 w o)) ht
  clear h
  by_cases h0 : u = wd L a
  · have q0 : (u == wd L a) = true := by simpa using h0
    have hr : Hid (shB u = wf 27 u num (wd L a) (wd L b)) := by
      show _ = _
      simp [wf,h0]
    generalize wf 27 u num (wd L a) (wd L b) = R at *
    clear h0
    go_enter Tryz.func61,Tryz.ntmps61
    go_wp2_with (first | (go_at_call 57; refine (HQ0.out _ _ (by assumption)).mono ?_; rintro e w' ⟨rfl,rfl⟩) | (go_at_call 87; refine (shifts_any _ _).mono ?_; rintro e w' ⟨rfl,rfl⟩))
    all_goals go_ret
    all_goals exact ⟨ret_bool hr.out,by first | exact bel1 _ _ | exact (bel1 _ _).drew | exact drw (bel1 _ _) _⟩
  have q0 : (u == wd L a) = false := by simpa using h0
  have hr : Hid (false = wf 27 u num (wd L a) (wd L b)) := by
    show _ = _
    simp [wf,h0]
  generalize wf 27 u num (wd L a) (wd L b) = R at *
  clear h0
  go_enter Tryz.func61,Tryz.ntmps61
  go_wp2_with (first | (go_at_call 57; refine (HQ0.out _ _ (by assumption)).mono ?_; rintro e w' ⟨rfl,rfl⟩) | (go_at_call 87; refine (shifts_any _ _).mono ?_; rintro e w' ⟨rfl,rfl⟩))
  all_goals go_ret
  all_goals exact ⟨ret_bool hr.out,by first | exact bel1 _ _ | exact (bel1 _ _).drew | exact drw (bel1 _ _) _⟩
set_option maxHeartbeats 8000000 in
theorem rwd_28 (ty : TypeId) (B0 B : Nat) (lim : Int) (L : List Nd) (v : Value) (M1 M2 : Option Nat) (u a b c num : Int) (nm : ByteArray) (w : World) (h : SM ty w B0 B lim L v M1 M2) (ha : isT L a = true) :
    Calls Tryz.prog 61 #[.pointer (some ⟨B,0,none⟩),.agg #[.int .i64 28,.int .i64 u,.int .i64 a,.int .i64 b,.int .i64 c,.int .u64 num,.string nm]] w fun e w' => e = .returned (.bool (wf 28 u num (wd L a) (wd L b))) /\ Below w.heap.size w w' := by
  have HQ : Hid (∀ o m t,isT L t = true -> Calls Tryz.prog 57 #[.pointer (some ⟨B,0,none⟩),.int .i64 t] ((w.alloc o).drewN m) fun e w' => e = .returned (.int .i64 (wd L t)) /\ w' = (w.alloc o).drewN m) := fun o m t ht => w_any ty B0 B lim L v M1 M2 t _ (h.below (drw (bel1 w o) m)) ht
  have HQ0 : Hid (∀ o t,isT L t = true -> Calls Tryz.prog 57 #[.pointer (some ⟨B,0,none⟩),.int .i64 t] (w.alloc o) fun e w' => e = .returned (.int .i64 (wd L t)) /\ w' = w.alloc o) := fun o t ht => w_any ty B0 B lim L v M1 M2 t _ (h.below (bel1 w o)) ht
  clear h
  by_cases h0 : u = wd L a
  · have q0 : (u == wd L a) = true := by simpa using h0
    have hr : Hid (shB u = wf 28 u num (wd L a) (wd L b)) := by
      show _ = _
      simp [wf,h0]
    generalize wf 28 u num (wd L a) (wd L b) = R at *
    clear h0
    go_enter Tryz.func61,Tryz.ntmps61
    go_wp2_with (first | (go_at_call 57; refine (HQ0.out _ _ (by assumption)).mono ?_; rintro e w' ⟨rfl,rfl⟩) | (go_at_call 87; refine (shifts_any _ _).mono ?_; rintro e w' ⟨rfl,rfl⟩))
    all_goals go_ret
    all_goals exact ⟨ret_bool hr.out,by first | exact bel1 _ _ | exact (bel1 _ _).drew | exact drw (bel1 _ _) _⟩
  have q0 : (u == wd L a) = false := by simpa using h0
  have hr : Hid (false = wf 28 u num (wd L a) (wd L b)) := by
    show _ = _
    simp [wf,h0]
  generalize wf 28 u num (wd L a) (wd L b) = R at *
  clear h0
  go_enter Tryz.func61,Tryz.ntmps61
  go_wp2_with (first | (go_at_call 57; refine (HQ0.out _ _ (by assumption)).mono ?_; rintro e w' ⟨rfl,rfl⟩) | (go_at_call 87; refine (shifts_any _ _).mono ?_; rintro e w' ⟨rfl,rfl⟩))
  all_goals go_ret
  all_goals exact ⟨ret_bool hr.out,by first | exact bel1 _ _ | exact (bel1 _ _).drew | exact drw (bel1 _ _) _⟩
set_option maxHeartbeats 8000000 in
theorem rwd_29 (ty : TypeId) (B0 B : Nat) (lim : Int) (L : List Nd) (v : Value) (M1 M2 : Option Nat) (u a b c num : Int) (nm : ByteArray) (w : World) (h : SM ty w B0 B lim L v M1 M2) (ha : isT L a = true) :
    Calls Tryz.prog 61 #[.pointer (some ⟨B,0,none⟩),.agg #[.int .i64 29,.int .i64 u,.int .i64 a,.int .i64 b,.int .i64 c,.int .u64 num,.string nm]] w fun e w' => e = .returned (.bool (wf 29 u num (wd L a) (wd L b))) /\ Below w.heap.size w w' := by
  have HQ : Hid (∀ o m t,isT L t = true -> Calls Tryz.prog 57 #[.pointer (some ⟨B,0,none⟩),.int .i64 t] ((w.alloc o).drewN m) fun e w' => e = .returned (.int .i64 (wd L t)) /\ w' = (w.alloc o).drewN m) := fun o m t ht => w_any ty B0 B lim L v M1 M2 t _ (h.below (drw (bel1 w o) m)) ht
  have HQ0 : Hid (∀ o t,isT L t = true -> Calls Tryz.prog 57 #[.pointer (some ⟨B,0,none⟩),.int .i64 t] (w.alloc o) fun e w' => e = .returned (.int .i64 (wd L t)) /\ w' = w.alloc o) := fun o t ht => w_any ty B0 B lim L v M1 M2 t _ (h.below (bel1 w o)) ht
  clear h
  by_cases h0 : u = wd L a
  · have q0 : (u == wd L a) = true := by simpa using h0
    have hr : Hid (shB u = wf 29 u num (wd L a) (wd L b)) := by
      show _ = _
      simp [wf,h0]
    generalize wf 29 u num (wd L a) (wd L b) = R at *
    clear h0
    go_enter Tryz.func61,Tryz.ntmps61
    go_wp2_with (first | (go_at_call 57; refine (HQ0.out _ _ (by assumption)).mono ?_; rintro e w' ⟨rfl,rfl⟩) | (go_at_call 87; refine (shifts_any _ _).mono ?_; rintro e w' ⟨rfl,rfl⟩))
    all_goals go_ret
    all_goals exact ⟨ret_bool hr.out,by first | exact bel1 _ _ | exact (bel1 _ _).drew | exact drw (bel1 _ _) _⟩
  have q0 : (u == wd L a) = false := by simpa using h0
  have hr : Hid (false = wf 29 u num (wd L a) (wd L b)) := by
    show _ = _
    simp [wf,h0]
  generalize wf 29 u num (wd L a) (wd L b) = R at *
  clear h0
  go_enter Tryz.func61,Tryz.ntmps61
  go_wp2_with (first | (go_at_call 57; refine (HQ0.out _ _ (by assumption)).mono ?_; rintro e w' ⟨rfl,rfl⟩) | (go_at_call 87; refine (shifts_any _ _).mono ?_; rintro e w' ⟨rfl,rfl⟩))
  all_goals go_ret
  all_goals exact ⟨ret_bool hr.out,by first | exact bel1 _ _ | exact (bel1 _ _).drew | exact drw (bel1 _ _) _⟩
set_option maxHeartbeats 8000000 in
theorem rwd_3 (ty : TypeId) (B0 B : Nat) (lim : Int) (L : List Nd) (v : Value) (M1 M2 : Option Nat) (u a b c num : Int) (nm : ByteArray) (w : World) (h : SM ty w B0 B lim L v M1 M2) (hn : U num) :
    Calls Tryz.prog 61 #[.pointer (some ⟨B,0,none⟩),.agg #[.int .i64 3,.int .i64 u,.int .i64 a,.int .i64 b,.int .i64 c,.int .u64 num,.string nm]] w fun e w' => e = .returned (.bool (wf 3 u num (wd L a) (wd L b))) /\ Below w.heap.size w w' := by
  have huse := h.len; clear huse h
  by_cases h0 : 1 <= u
  · have q0 : decide (1 <= u) = true := decide_eq_true h0
    have hr : Hid (decide (trimI u num = num) = wf 3 u num (wd L a) (wd L b)) := by
      show _ = _
      have h5 : 0 < u := by omega
      simp [wf,h5]
    generalize wf 3 u num (wd L a) (wd L b) = R at *
    go_enter Tryz.func61,Tryz.ntmps61
    go_wp2_with fail
    go_big_quiet ((go_at_call 86; exact Calls.quiet_of_same (rtrim_any _ _ _ hn)))
    all_goals go_wp2
    all_goals go_ret
    all_goals refine ⟨ret_bool ?_,by first | exact bel1 _ _ | exact (bel1 _ _).drew | exact drw (bel1 _ _) _⟩
    all_goals rw [<- hr.out]
    all_goals first | rfl | (rw [Bool.eq_iff_iff]; simp)
  have q0 : decide (1 <= u) = false := decide_eq_false h0; have hr : Hid (false = wf 3 u num (wd L a) (wd L b)) := by
    show _ = _
    have h5 : ¬ 0 < u := by omega
    unfold wf; rw [if_pos rfl]; exact (decide_eq_false (fun h7 => h5 h7.1)).symm
  generalize wf 3 u num (wd L a) (wd L b) = R at *
  clear h0
  go_enter Tryz.func61,Tryz.ntmps61
  go_wp2_with fail
  go_big_quiet ((go_at_call 86; exact Calls.quiet_of_same (rtrim_any _ _ _ hn)))
  all_goals go_wp2
  all_goals go_ret
  all_goals exact ⟨ret_bool hr.out,by first | exact bel1 _ _ | exact (bel1 _ _).drew | exact drw (bel1 _ _) _⟩
set_option maxHeartbeats 8000000 in
theorem rwd_31 (ty : TypeId) (B0 B : Nat) (lim : Int) (L : List Nd) (v : Value) (M1 M2 : Option Nat) (u a b c num : Int) (nm : ByteArray) (w : World) (h : SM ty w B0 B lim L v M1 M2) (ha : isT L a = true) (hn : U num) (hw : Wds L) (hu : 0 <= u /\ u <= 64) :
    Calls Tryz.prog 61 #[.pointer (some ⟨B,0,none⟩),.agg #[.int .i64 31,.int .i64 u,.int .i64 a,.int .i64 b,.int .i64 c,.int .u64 num,.string nm]] w fun e w' => e = .returned (.bool (wf 31 u num (wd L a) (wd L b))) /\ Below w.heap.size w w' := by
  have HQ : Hid (∀ o m t,isT L t = true -> Calls Tryz.prog 57 #[.pointer (some ⟨B,0,none⟩),.int .i64 t] ((w.alloc o).drewN m) fun e w' => e = .returned (.int .i64 (wd L t)) /\ w' = (w.alloc o).drewN m) := fun o m t ht => w_any ty B0 B lim L v M1 M2 t _ (h.below (drw (bel1 w o) m)) ht
  have HQ0 : Hid (∀ o t,isT L t = true -> Calls Tryz.prog 57 #[.pointer (some ⟨B,0,none⟩),.int .i64 t] (w.alloc o) fun e w' => e = .returned (.int .i64 (wd L t)) /\ w' = w.alloc o) := fun o t ht => w_any ty B0 B lim L v M1 M2 t _ (h.below (bel1 w o)) ht
  have hx := wd_lo hw a; unfold U at hn; clear h hw
  by_cases h1 : 1 <= u
  · have q1 : decide (1 <= u) = true := decide_eq_true h1
    by_cases h2 : num <= 64
    · have q2 : decide (num <= 64) = true := decide_eq_true h2
      have q3 : IntKind.i64.wrap num = num := by unfold IntKind.wrap; simp [IntKind.bits,IntKind.signed]; omega
      have q4 : wrap64 (num + u) = num + u := by unfold wrap64; omega
      have hr : Hid (decide (num + u <= wd L a) = wf 31 u num (wd L a) (wd L b)) := by
        show _ = _
        unfold wf; rw [if_neg (by decide),if_neg (by decide),if_neg (by decide),if_neg (by decide),if_pos rfl]; rw [Bool.eq_iff_iff]
        simp
        omega
      generalize wf 31 u num (wd L a) (wd L b) = R at *
      go_enter Tryz.func61,Tryz.ntmps61
      go_wp2_with (go_at_call 57; refine (HQ0.out _ _ (by assumption)).mono ?_; rintro e w' ⟨rfl,rfl⟩)
      all_goals (try go_big_quiet ((go_at_call 57; exact Calls.quiet_of_same (HQ.out _ _ _ (by assumption)))))
      all_goals (try go_wp2)
      all_goals go_ret
      all_goals refine ⟨ret_bool ?_,by first | exact bel1 _ _ | exact (bel1 _ _).drew | exact drw (bel1 _ _) _⟩
      all_goals rw [<- hr.out]
      all_goals first | rfl | (rw [Bool.eq_iff_iff]; simp)
    have q2 : decide (num <= 64) = false := decide_eq_false h2; have hr : Hid (false = wf 31 u num (wd L a) (wd L b)) := by
      show _ = _
      unfold wf; rw [if_neg (by decide),if_neg (by decide),if_neg (by decide),if_neg (by decide),if_pos rfl]; rw [Bool.eq_iff_iff]
      simp
      omega
    generalize wf 31 u num (wd L a) (wd L b) = R at *
    go_enter Tryz.func61,Tryz.ntmps61
    go_wp2_with (go_at_call 57; refine (HQ0.out _ _ (by assumption)).mono ?_; rintro e w' ⟨rfl,rfl⟩)
    all_goals (try go_big_quiet ((go_at_call 57; exact Calls.quiet_of_same (HQ.out _ _ _ (by assumption)))))
    all_goals (try go_wp2)
    all_goals go_ret
    all_goals refine ⟨ret_bool ?_,by first | exact bel1 _ _ | exact (bel1 _ _).drew | exact drw (bel1 _ _) _⟩
    all_goals rw [<- hr.out]
    all_goals first | rfl | (rw [Bool.eq_iff_iff]; simp)
  have q1 : decide (1 <= u) = false := decide_eq_false h1; have hr : Hid (false = wf 31 u num (wd L a) (wd L b)) := by
    show _ = _
    unfold wf; rw [if_neg (by decide),if_neg (by decide),if_neg (by decide),if_neg (by decide),if_pos rfl]; rw [Bool.eq_iff_iff]
    simp
    omega
  generalize wf 31 u num (wd L a) (wd L b) = R at *
  go_enter Tryz.func61,Tryz.ntmps61
  go_wp2_with (go_at_call 57; refine (HQ0.out _ _ (by assumption)).mono ?_; rintro e w' ⟨rfl,rfl⟩)
  all_goals (try go_big_quiet ((go_at_call 57; exact Calls.quiet_of_same (HQ.out _ _ _ (by assumption)))))
  all_goals (try go_wp2)
  all_goals go_ret
  all_goals refine ⟨ret_bool ?_,by first | exact bel1 _ _ | exact (bel1 _ _).drew | exact drw (bel1 _ _) _⟩
  all_goals rw [<- hr.out]
  all_goals first | rfl | (rw [Bool.eq_iff_iff]; simp)
theorem hp_a {L : List Nd} {n : Nd} (h : hp L n = true) (h1 : 1 <= pt n.op) : isT L n.a = true := by
  unfold hp at h; have e : decide (pt n.op < 1) = false := decide_eq_false (by omega); rw [e] at h
  simp at h
  exact h.1
theorem hp_b {L : List Nd} {n : Nd} (h : hp L n = true) (h1 : 2 <= pt n.op) : isT L n.b = true := by
  unfold hp at h; have e : decide (pt n.op < 2) = false := decide_eq_false (by omega); rw [e] at h
  simp at h
  exact h.2.1
theorem hp_c {L : List Nd} {n : Nd} (h : hp L n = true) (h1 : 3 <= pt n.op) : isT L n.c = true := by
  unfold hp at h; have e : decide (pt n.op < 3) = false := decide_eq_false (by omega); rw [e] at h
  simp at h
  exact h.2.2
theorem br_b {n : Nd} (h : br n = true) (h1 : pt n.op < 2) : n.b = 0 := by
  unfold br at h; have e : decide (2 <= pt n.op) = false := decide_eq_false (by omega); rw [e] at h
  simp at h
  exact h.2.1
theorem rwidth_any (ty : TypeId) (B0 B : Nat) (lim : Int) (L : List Nd) (v : Value) (M1 M2 : Option Nat) (n : Nd) (w : World) (h : SM ty w B0 B lim L v M1 M2) (h1 : 1 <= n.op) (h2 : n.op <= 33) (hn : U n.num) (hu : 0 <= n.w /\ n.w <= 64) (hP : hp L n = true) :
    Calls Tryz.prog 61 #[.pointer (some ⟨B,0,none⟩),nodeV n] w fun e w' => e = .returned (.bool (wf n.op n.w n.num (wd L n.a) (wd L n.b))) /\ Below w.heap.size w w' := by
  have ga := fun h1 => hp_a hP h1
  have gb := fun h1 => hp_b hP h1
  obtain ⟨op,u,a,b,c,num,nm⟩ := n
  dsimp only at h1 h2 hn hu ga gb
  rcases op_cases h1 h2 with rfl | rfl | rfl | rfl | rfl | rfl | rfl | rfl | rfl | rfl | rfl | rfl | rfl | rfl | rfl | rfl | rfl | rfl | rfl | rfl | rfl | rfl | rfl | rfl | rfl | rfl | rfl | rfl | rfl | rfl | rfl | rfl | rfl
  · exact rwd_1 ty B0 B lim L v M1 M2 u a b c num nm w h
  · exact rwd_2 ty B0 B lim L v M1 M2 u a b c num nm w h
  · exact rwd_3 ty B0 B lim L v M1 M2 u a b c num nm w h hn
  · exact rwd_4 ty B0 B lim L v M1 M2 u a b c num nm w h
  · exact rwd_5 ty B0 B lim L v M1 M2 u a b c num nm w h
  · exact rwd_6 ty B0 B lim L v M1 M2 u a b c num nm w h
  · exact rwd_7 ty B0 B lim L v M1 M2 u a b c num nm w h
  · exact rwd_8 ty B0 B lim L v M1 M2 u a b c num nm w h
  · exact rwd_9 ty B0 B lim L v M1 M2 u a b c num nm w h
  · exact rwd_10 ty B0 B lim L v M1 M2 u a b c num nm w h
  · exact rwd_11 ty B0 B lim L v M1 M2 u a b c num nm w h
  · exact rwd_12 ty B0 B lim L v M1 M2 u a b c num nm w h
  · exact rwd_13 ty B0 B lim L v M1 M2 u a b c num nm w h
  · exact rwd_14 ty B0 B lim L v M1 M2 u a b c num nm w h (ga (by decide)) (gb (by decide))
  · exact rwd_15 ty B0 B lim L v M1 M2 u a b c num nm w h (ga (by decide))
  · exact rwd_16 ty B0 B lim L v M1 M2 u a b c num nm w h (ga (by decide))
  · exact rwd_17 ty B0 B lim L v M1 M2 u a b c num nm w h (ga (by decide))
  · exact rwd_18 ty B0 B lim L v M1 M2 u a b c num nm w h (ga (by decide))
  · exact rwd_19 ty B0 B lim L v M1 M2 u a b c num nm w h (ga (by decide))
  · exact rwd_20 ty B0 B lim L v M1 M2 u a b c num nm w h (ga (by decide))
  · exact rwd_21 ty B0 B lim L v M1 M2 u a b c num nm w h (ga (by decide))
  · exact rwd_22 ty B0 B lim L v M1 M2 u a b c num nm w h (ga (by decide))
  · exact rwd_23 ty B0 B lim L v M1 M2 u a b c num nm w h (ga (by decide))
  · exact rwd_24 ty B0 B lim L v M1 M2 u a b c num nm w h (ga (by decide))
  · exact rwd_25 ty B0 B lim L v M1 M2 u a b c num nm w h (ga (by decide))
  · exact rwd_26 ty B0 B lim L v M1 M2 u a b c num nm w h (ga (by decide))
  · exact rwd_27 ty B0 B lim L v M1 M2 u a b c num nm w h (ga (by decide))
  · exact rwd_28 ty B0 B lim L v M1 M2 u a b c num nm w h (ga (by decide))
  · exact rwd_29 ty B0 B lim L v M1 M2 u a b c num nm w h (ga (by decide))
  · exact rwd_30 ty B0 B lim L v M1 M2 u a b c num nm w h (ga (by decide)) (gb (by decide)) h.wds
  · exact rwd_31 ty B0 B lim L v M1 M2 u a b c num nm w h (ga (by decide)) hn h.wds hu
  · exact rwd_32 ty B0 B lim L v M1 M2 u a b c num nm w h (ga (by decide))
  exact rwd_33 ty B0 B lim L v M1 M2 u a b c num nm w h (ga (by decide))
end Go.Proofs.YtldpkkbdhohcmaaGreatDoor
namespace Go.Proofs.YtldpkkbdhohcmaaGreatDoor
open Go.ChangeShapes Go.WideShapes Go.ChangeAt Go.RowKit Go.Lib Go.Tm Go.Bw Go.Bn Go.WideMaps Go.Maps Go.ChangeMaps

set_option maxHeartbeats 8000000 in
theorem rsorts_1 (ty : TypeId) (B0 B : Nat) (lim : Int) (L : List Nd) (v : Value) (M1 M2 : Option Nat) (u a b c num : Int) (nm : ByteArray) (w : World) (h : SM ty w B0 B lim L v M1 M2) :
    Calls Tryz.prog 60 #[.pointer (some ⟨B,0,none⟩),.agg #[.int .i64 1,.int .i64 u,.int .i64 a,.int .i64 b,.int .i64 c,.int .u64 num,.string nm]] w fun e w' => e = .returned (.bool (sf 1 (wd L a) (wd L b) (wd L c))) /\ Below w.heap.size w w' := by
  have huse := h.len; clear huse; clear h
  go_enter Tryz.func60,Tryz.ntmps60
  go_wp2_with fail
  all_goals go_ret
  all_goals refine ⟨ret_bool ?_,by first | exact bel1 _ _ | exact (bel1 _ _).drew | exact drw (bel1 _ _) _⟩
  all_goals simp [sf]
  all_goals (try simp_all)
  all_goals (try rfl)
  all_goals (try omega)
set_option maxHeartbeats 8000000 in
theorem rsorts_2 (ty : TypeId) (B0 B : Nat) (lim : Int) (L : List Nd) (v : Value) (M1 M2 : Option Nat) (u a b c num : Int) (nm : ByteArray) (w : World) (h : SM ty w B0 B lim L v M1 M2) :
    Calls Tryz.prog 60 #[.pointer (some ⟨B,0,none⟩),.agg #[.int .i64 2,.int .i64 u,.int .i64 a,.int .i64 b,.int .i64 c,.int .u64 num,.string nm]] w fun e w' => e = .returned (.bool (sf 2 (wd L a) (wd L b) (wd L c))) /\ Below w.heap.size w w' := by
  have huse := h.len; clear huse; clear h
  go_enter Tryz.func60,Tryz.ntmps60
  go_wp2_with fail
  all_goals go_ret
  all_goals refine ⟨ret_bool ?_,by first | exact bel1 _ _ | exact (bel1 _ _).drew | exact drw (bel1 _ _) _⟩
  all_goals simp [sf]
  all_goals (try simp_all)
  all_goals (try rfl)
  all_goals (try omega)
set_option maxHeartbeats 8000000 in
theorem rsorts_3 (ty : TypeId) (B0 B : Nat) (lim : Int) (L : List Nd) (v : Value) (M1 M2 : Option Nat) (u a b c num : Int) (nm : ByteArray) (w : World) (h : SM ty w B0 B lim L v M1 M2) :
    Calls Tryz.prog 60 #[.pointer (some ⟨B,0,none⟩),.agg #[.int .i64 3,.int .i64 u,.int .i64 a,.int .i64 b,.int .i64 c,.int .u64 num,.string nm]] w fun e w' => e = .returned (.bool (sf 3 (wd L a) (wd L b) (wd L c))) /\ Below w.heap.size w w' := by
  have huse := h.len; clear huse; clear h
  go_enter Tryz.func60,Tryz.ntmps60
  go_wp2_with fail
  all_goals go_ret
  all_goals refine ⟨ret_bool ?_,by first | exact bel1 _ _ | exact (bel1 _ _).drew | exact drw (bel1 _ _) _⟩
  all_goals simp [sf]
  all_goals (try simp_all)
  all_goals (try rfl)
  all_goals (try omega)
set_option maxHeartbeats 8000000 in
theorem rsorts_4 (ty : TypeId) (B0 B : Nat) (lim : Int) (L : List Nd) (v : Value) (M1 M2 : Option Nat) (u a b c num : Int) (nm : ByteArray) (w : World) (h : SM ty w B0 B lim L v M1 M2) :
    Calls Tryz.prog 60 #[.pointer (some ⟨B,0,none⟩),.agg #[.int .i64 4,.int .i64 u,.int .i64 a,.int .i64 b,.int .i64 c,.int .u64 num,.string nm]] w fun e w' => e = .returned (.bool (sf 4 (wd L a) (wd L b) (wd L c))) /\ Below w.heap.size w w' := by
  have huse := h.len; clear huse; clear h
  go_enter Tryz.func60,Tryz.ntmps60
  go_wp2_with fail
  all_goals go_ret
  all_goals refine ⟨ret_bool ?_,by first | exact bel1 _ _ | exact (bel1 _ _).drew | exact drw (bel1 _ _) _⟩
  all_goals simp [sf]
  all_goals (try simp_all)
  all_goals (try rfl)
  all_goals (try omega)
set_option maxHeartbeats 8000000 in
theorem rsorts_5 (ty : TypeId) (B0 B : Nat) (lim : Int) (L : List Nd) (v : Value) (M1 M2 : Option Nat) (u a b c num : Int) (nm : ByteArray) (w : World) (h : SM ty w B0 B lim L v M1 M2) (ha : isT L a = true) :
    Calls Tryz.prog 60 #[.pointer (some ⟨B,0,none⟩),.agg #[.int .i64 5,.int .i64 u,.int .i64 a,.int .i64 b,.int .i64 c,.int .u64 num,.string nm]] w fun e w' => e = .returned (.bool (sf 5 (wd L a) 0 (wd L c))) /\ Below w.heap.size w w' := by
  have HW : Hid (∀ o t,isT L t = true -> Calls Tryz.prog 57 #[.pointer (some ⟨B,0,none⟩),.int .i64 t] (w.alloc o) fun e w' => e = .returned (.int .i64 (wd L t)) /\ w' = w.alloc o) := fun o t ht => w_any ty B0 B lim L v M1 M2 t _ (h.below (bel1 w o)) ht
  clear h
  go_enter Tryz.func60,Tryz.ntmps60
  go_wp2_with (go_at_call 57; refine (HW.out _ _ (by assumption)).mono ?_; rintro e w' ⟨rfl,rfl⟩)
  all_goals go_ret
  all_goals refine ⟨ret_bool ?_,by first | exact bel1 _ _ | exact (bel1 _ _).drew | exact drw (bel1 _ _) _⟩
  all_goals simp [sf]
  all_goals (try simp_all)
  all_goals (try rfl)
  all_goals (try omega)
set_option maxHeartbeats 8000000 in
theorem rsorts_6 (ty : TypeId) (B0 B : Nat) (lim : Int) (L : List Nd) (v : Value) (M1 M2 : Option Nat) (u a b c num : Int) (nm : ByteArray) (w : World) (h : SM ty w B0 B lim L v M1 M2) (ha : isT L a = true) (hb : isT L b = true) :
    Calls Tryz.prog 60 #[.pointer (some ⟨B,0,none⟩),.agg #[.int .i64 6,.int .i64 u,.int .i64 a,.int .i64 b,.int .i64 c,.int .u64 num,.string nm]] w fun e w' => e = .returned (.bool (sf 6 (wd L a) (wd L b) (wd L c))) /\ Below w.heap.size w w' := by
  have HW : Hid (∀ o t,isT L t = true -> Calls Tryz.prog 57 #[.pointer (some ⟨B,0,none⟩),.int .i64 t] (w.alloc o) fun e w' => e = .returned (.int .i64 (wd L t)) /\ w' = w.alloc o) := fun o t ht => w_any ty B0 B lim L v M1 M2 t _ (h.below (bel1 w o)) ht
  clear h
  go_enter Tryz.func60,Tryz.ntmps60
  go_wp2_with (go_at_call 57; refine (HW.out _ _ (by assumption)).mono ?_; rintro e w' ⟨rfl,rfl⟩)
  all_goals go_ret
  all_goals refine ⟨ret_bool ?_,by first | exact bel1 _ _ | exact (bel1 _ _).drew | exact drw (bel1 _ _) _⟩
  all_goals simp [sf]
  all_goals (try simp_all)
  all_goals (try rfl)
  all_goals (try omega)
set_option maxHeartbeats 8000000 in
theorem rsorts_7 (ty : TypeId) (B0 B : Nat) (lim : Int) (L : List Nd) (v : Value) (M1 M2 : Option Nat) (u a b c num : Int) (nm : ByteArray) (w : World) (h : SM ty w B0 B lim L v M1 M2) (ha : isT L a = true) (hb : isT L b = true) :
    Calls Tryz.prog 60 #[.pointer (some ⟨B,0,none⟩),.agg #[.int .i64 7,.int .i64 u,.int .i64 a,.int .i64 b,.int .i64 c,.int .u64 num,.string nm]] w fun e w' => e = .returned (.bool (sf 7 (wd L a) (wd L b) (wd L c))) /\ Below w.heap.size w w' := by
  have HW : Hid (∀ o t,isT L t = true -> Calls Tryz.prog 57 #[.pointer (some ⟨B,0,none⟩),.int .i64 t] (w.alloc o) fun e w' => e = .returned (.int .i64 (wd L t)) /\ w' = w.alloc o) := fun o t ht => w_any ty B0 B lim L v M1 M2 t _ (h.below (bel1 w o)) ht
  clear h
  go_enter Tryz.func60,Tryz.ntmps60
  go_wp2_with (go_at_call 57; refine (HW.out _ _ (by assumption)).mono ?_; rintro e w' ⟨rfl,rfl⟩)
  all_goals go_ret
  all_goals refine ⟨ret_bool ?_,by first | exact bel1 _ _ | exact (bel1 _ _).drew | exact drw (bel1 _ _) _⟩
  all_goals simp [sf]
  all_goals (try simp_all)
  all_goals (try rfl)
  all_goals (try omega)
set_option maxHeartbeats 8000000 in
theorem rsorts_8 (ty : TypeId) (B0 B : Nat) (lim : Int) (L : List Nd) (v : Value) (M1 M2 : Option Nat) (u a b c num : Int) (nm : ByteArray) (w : World) (h : SM ty w B0 B lim L v M1 M2) (ha : isT L a = true) (hb : isT L b = true) :
    Calls Tryz.prog 60 #[.pointer (some ⟨B,0,none⟩),.agg #[.int .i64 8,.int .i64 u,.int .i64 a,.int .i64 b,.int .i64 c,.int .u64 num,.string nm]] w fun e w' => e = .returned (.bool (sf 8 (wd L a) (wd L b) (wd L c))) /\ Below w.heap.size w w' := by
  have HW : Hid (∀ o t,isT L t = true -> Calls Tryz.prog 57 #[.pointer (some ⟨B,0,none⟩),.int .i64 t] (w.alloc o) fun e w' => e = .returned (.int .i64 (wd L t)) /\ w' = w.alloc o) := fun o t ht => w_any ty B0 B lim L v M1 M2 t _ (h.below (bel1 w o)) ht
  clear h
  go_enter Tryz.func60,Tryz.ntmps60
  go_wp2_with (go_at_call 57; refine (HW.out _ _ (by assumption)).mono ?_; rintro e w' ⟨rfl,rfl⟩)
  all_goals go_ret
  all_goals refine ⟨ret_bool ?_,by first | exact bel1 _ _ | exact (bel1 _ _).drew | exact drw (bel1 _ _) _⟩
  all_goals simp [sf]
  all_goals (try simp_all)
  all_goals (try rfl)
  all_goals (try omega)
set_option maxHeartbeats 8000000 in
theorem rsorts_15 (ty : TypeId) (B0 B : Nat) (lim : Int) (L : List Nd) (v : Value) (M1 M2 : Option Nat) (u a b c num : Int) (nm : ByteArray) (w : World) (h : SM ty w B0 B lim L v M1 M2) (ha : isT L a = true) :
    Calls Tryz.prog 60 #[.pointer (some ⟨B,0,none⟩),.agg #[.int .i64 15,.int .i64 u,.int .i64 a,.int .i64 b,.int .i64 c,.int .u64 num,.string nm]] w fun e w' => e = .returned (.bool (sf 15 (wd L a) 0 (wd L c))) /\ Below w.heap.size w w' := by
  have HW : Hid (∀ o t,isT L t = true -> Calls Tryz.prog 57 #[.pointer (some ⟨B,0,none⟩),.int .i64 t] (w.alloc o) fun e w' => e = .returned (.int .i64 (wd L t)) /\ w' = w.alloc o) := fun o t ht => w_any ty B0 B lim L v M1 M2 t _ (h.below (bel1 w o)) ht
  clear h
  go_enter Tryz.func60,Tryz.ntmps60
  go_wp2_with (go_at_call 57; refine (HW.out _ _ (by assumption)).mono ?_; rintro e w' ⟨rfl,rfl⟩)
  all_goals go_ret
  all_goals refine ⟨ret_bool ?_,by first | exact bel1 _ _ | exact (bel1 _ _).drew | exact drw (bel1 _ _) _⟩
  all_goals simp [sf]
  all_goals (try simp_all)
  all_goals (try rfl)
  all_goals (try omega)
set_option maxHeartbeats 8000000 in
theorem rsorts_16 (ty : TypeId) (B0 B : Nat) (lim : Int) (L : List Nd) (v : Value) (M1 M2 : Option Nat) (u a b c num : Int) (nm : ByteArray) (w : World) (h : SM ty w B0 B lim L v M1 M2) (ha : isT L a = true) :
    Calls Tryz.prog 60 #[.pointer (some ⟨B,0,none⟩),.agg #[.int .i64 16,.int .i64 u,.int .i64 a,.int .i64 b,.int .i64 c,.int .u64 num,.string nm]] w fun e w' => e = .returned (.bool (sf 16 (wd L a) 0 (wd L c))) /\ Below w.heap.size w w' := by
  have HW : Hid (∀ o t,isT L t = true -> Calls Tryz.prog 57 #[.pointer (some ⟨B,0,none⟩),.int .i64 t] (w.alloc o) fun e w' => e = .returned (.int .i64 (wd L t)) /\ w' = w.alloc o) := fun o t ht => w_any ty B0 B lim L v M1 M2 t _ (h.below (bel1 w o)) ht
  clear h
  go_enter Tryz.func60,Tryz.ntmps60
  go_wp2_with (go_at_call 57; refine (HW.out _ _ (by assumption)).mono ?_; rintro e w' ⟨rfl,rfl⟩)
  all_goals go_ret
  all_goals refine ⟨ret_bool ?_,by first | exact bel1 _ _ | exact (bel1 _ _).drew | exact drw (bel1 _ _) _⟩
  all_goals simp [sf]
  all_goals (try simp_all)
  all_goals (try rfl)
  all_goals (try omega)
set_option maxHeartbeats 8000000 in
theorem rsorts_30 (ty : TypeId) (B0 B : Nat) (lim : Int) (L : List Nd) (v : Value) (M1 M2 : Option Nat) (u a b c num : Int) (nm : ByteArray) (w : World) (h : SM ty w B0 B lim L v M1 M2) (ha : isT L a = true) (hb : isT L b = true) :
    Calls Tryz.prog 60 #[.pointer (some ⟨B,0,none⟩),.agg #[.int .i64 30,.int .i64 u,.int .i64 a,.int .i64 b,.int .i64 c,.int .u64 num,.string nm]] w fun e w' => e = .returned (.bool (sf 30 (wd L a) (wd L b) (wd L c))) /\ Below w.heap.size w w' := by
  have HW : Hid (∀ o t,isT L t = true -> Calls Tryz.prog 57 #[.pointer (some ⟨B,0,none⟩),.int .i64 t] (w.alloc o) fun e w' => e = .returned (.int .i64 (wd L t)) /\ w' = w.alloc o) := fun o t ht => w_any ty B0 B lim L v M1 M2 t _ (h.below (bel1 w o)) ht
  clear h
  go_enter Tryz.func60,Tryz.ntmps60
  go_wp2_with (go_at_call 57; refine (HW.out _ _ (by assumption)).mono ?_; rintro e w' ⟨rfl,rfl⟩)
  all_goals go_ret
  all_goals refine ⟨ret_bool ?_,by first | exact bel1 _ _ | exact (bel1 _ _).drew | exact drw (bel1 _ _) _⟩
  all_goals simp [sf]
  all_goals (try simp_all)
  all_goals (try rfl)
  all_goals (try omega)
set_option maxHeartbeats 8000000 in
theorem rsorts_31 (ty : TypeId) (B0 B : Nat) (lim : Int) (L : List Nd) (v : Value) (M1 M2 : Option Nat) (u a b c num : Int) (nm : ByteArray) (w : World) (h : SM ty w B0 B lim L v M1 M2) (ha : isT L a = true) :
    Calls Tryz.prog 60 #[.pointer (some ⟨B,0,none⟩),.agg #[.int .i64 31,.int .i64 u,.int .i64 a,.int .i64 b,.int .i64 c,.int .u64 num,.string nm]] w fun e w' => e = .returned (.bool (sf 31 (wd L a) 0 (wd L c))) /\ Below w.heap.size w w' := by
  have HW : Hid (∀ o t,isT L t = true -> Calls Tryz.prog 57 #[.pointer (some ⟨B,0,none⟩),.int .i64 t] (w.alloc o) fun e w' => e = .returned (.int .i64 (wd L t)) /\ w' = w.alloc o) := fun o t ht => w_any ty B0 B lim L v M1 M2 t _ (h.below (bel1 w o)) ht
  clear h
  go_enter Tryz.func60,Tryz.ntmps60
  go_wp2_with (go_at_call 57; refine (HW.out _ _ (by assumption)).mono ?_; rintro e w' ⟨rfl,rfl⟩)
  all_goals go_ret
  all_goals refine ⟨ret_bool ?_,by first | exact bel1 _ _ | exact (bel1 _ _).drew | exact drw (bel1 _ _) _⟩
  all_goals simp [sf]
  all_goals (try simp_all)
  all_goals (try rfl)
  all_goals (try omega)
set_option maxHeartbeats 8000000 in
theorem rsorts_32 (ty : TypeId) (B0 B : Nat) (lim : Int) (L : List Nd) (v : Value) (M1 M2 : Option Nat) (u a b c num : Int) (nm : ByteArray) (w : World) (h : SM ty w B0 B lim L v M1 M2) (ha : isT L a = true) :
    Calls Tryz.prog 60 #[.pointer (some ⟨B,0,none⟩),.agg #[.int .i64 32,.int .i64 u,.int .i64 a,.int .i64 b,.int .i64 c,.int .u64 num,.string nm]] w fun e w' => e = .returned (.bool (sf 32 (wd L a) 0 (wd L c))) /\ Below w.heap.size w w' := by
  have HW : Hid (∀ o t,isT L t = true -> Calls Tryz.prog 57 #[.pointer (some ⟨B,0,none⟩),.int .i64 t] (w.alloc o) fun e w' => e = .returned (.int .i64 (wd L t)) /\ w' = w.alloc o) := fun o t ht => w_any ty B0 B lim L v M1 M2 t _ (h.below (bel1 w o)) ht
  clear h
  go_enter Tryz.func60,Tryz.ntmps60
  go_wp2_with (go_at_call 57; refine (HW.out _ _ (by assumption)).mono ?_; rintro e w' ⟨rfl,rfl⟩)
  all_goals go_ret
  all_goals refine ⟨ret_bool ?_,by first | exact bel1 _ _ | exact (bel1 _ _).drew | exact drw (bel1 _ _) _⟩
  all_goals simp [sf]
  all_goals (try simp_all)
  all_goals (try rfl)
  all_goals (try omega)
set_option maxHeartbeats 8000000 in
theorem rsorts_33 (ty : TypeId) (B0 B : Nat) (lim : Int) (L : List Nd) (v : Value) (M1 M2 : Option Nat) (u a b c num : Int) (nm : ByteArray) (w : World) (h : SM ty w B0 B lim L v M1 M2) (ha : isT L a = true) :
    Calls Tryz.prog 60 #[.pointer (some ⟨B,0,none⟩),.agg #[.int .i64 33,.int .i64 u,.int .i64 a,.int .i64 b,.int .i64 c,.int .u64 num,.string nm]] w fun e w' => e = .returned (.bool (sf 33 (wd L a) 0 (wd L c))) /\ Below w.heap.size w w' := by
  have HW : Hid (∀ o t,isT L t = true -> Calls Tryz.prog 57 #[.pointer (some ⟨B,0,none⟩),.int .i64 t] (w.alloc o) fun e w' => e = .returned (.int .i64 (wd L t)) /\ w' = w.alloc o) := fun o t ht => w_any ty B0 B lim L v M1 M2 t _ (h.below (bel1 w o)) ht
  clear h
  go_enter Tryz.func60,Tryz.ntmps60
  go_wp2_with (go_at_call 57; refine (HW.out _ _ (by assumption)).mono ?_; rintro e w' ⟨rfl,rfl⟩)
  all_goals go_ret
  all_goals refine ⟨ret_bool ?_,by first | exact bel1 _ _ | exact (bel1 _ _).drew | exact drw (bel1 _ _) _⟩
  all_goals simp [sf]
  all_goals (try simp_all)
  all_goals (try rfl)
  all_goals (try omega)
set_option maxHeartbeats 8000000 in
theorem rsorts_9 (ty : TypeId) (B0 B : Nat) (lim : Int) (L : List Nd) (v : Value) (M1 M2 : Option Nat) (u a b c num : Int) (nm : ByteArray) (w : World) (h : SM ty w B0 B lim L v M1 M2) (ha : isT L a = true) (hb : isT L b = true) :
    Calls Tryz.prog 60 #[.pointer (some ⟨B,0,none⟩),.agg #[.int .i64 9,.int .i64 u,.int .i64 a,.int .i64 b,.int .i64 c,.int .u64 num,.string nm]] w fun e w' => e = .returned (.bool (sf 9 (wd L a) (wd L b) (wd L c))) /\ Below w.heap.size w w' := by
  have HQ : Hid (∀ o m t,isT L t = true -> Calls Tryz.prog 57 #[.pointer (some ⟨B,0,none⟩),.int .i64 t] ((w.alloc o).drewN m) fun e w' => e = .returned (.int .i64 (wd L t)) /\ w' = (w.alloc o).drewN m) := fun o m t ht => w_any ty B0 B lim L v M1 M2 t _ (h.below (drw (bel1 w o) m)) ht
  clear h
  go_enter Tryz.func60,Tryz.ntmps60
  go_wp2_with fail
  go_big_quiet ((go_at_call 57; exact Calls.quiet_of_same (HQ.out _ _ _ (by assumption))))
  all_goals go_wp2
  all_goals go_ret
  all_goals refine ⟨ret_bool ?_,by first | exact bel1 _ _ | exact (bel1 _ _).drew | exact drw (bel1 _ _) _⟩
  all_goals rw [Bool.eq_iff_iff]
  all_goals simp [sf]
set_option maxHeartbeats 8000000 in
theorem rsorts_14 (ty : TypeId) (B0 B : Nat) (lim : Int) (L : List Nd) (v : Value) (M1 M2 : Option Nat) (u a b c num : Int) (nm : ByteArray) (w : World) (h : SM ty w B0 B lim L v M1 M2) (ha : isT L a = true) (hb : isT L b = true) (hc : isT L c = true) :
    Calls Tryz.prog 60 #[.pointer (some ⟨B,0,none⟩),.agg #[.int .i64 14,.int .i64 u,.int .i64 a,.int .i64 b,.int .i64 c,.int .u64 num,.string nm]] w fun e w' => e = .returned (.bool (sf 14 (wd L a) (wd L b) (wd L c))) /\ Below w.heap.size w w' := by
  have HQ : Hid (∀ o m t,isT L t = true -> Calls Tryz.prog 57 #[.pointer (some ⟨B,0,none⟩),.int .i64 t] ((w.alloc o).drewN m) fun e w' => e = .returned (.int .i64 (wd L t)) /\ w' = (w.alloc o).drewN m) := fun o m t ht => w_any ty B0 B lim L v M1 M2 t _ (h.below (drw (bel1 w o) m)) ht
  clear h
  by_cases h0 : wd L a = 0
  · have q0 : (wd L a == 0) = true := by simpa using h0
    have hr : Hid (sf 14 (wd L a) (wd L b) (wd L c) = decide (wd L b = wd L c)) := by
      show _ = _
      simp [sf,h0]
    generalize sf 14 (wd L a) (wd L b) (wd L c) = R at *
    go_enter Tryz.func60,Tryz.ntmps60
    go_wp2_with fail
    go_big_quiet ((go_at_call 57; exact Calls.quiet_of_same (HQ.out _ _ _ (by assumption))))
    all_goals go_wp2
    all_goals go_ret
    all_goals refine ⟨ret_bool ?_,by first | exact bel1 _ _ | exact (bel1 _ _).drew | exact drw (bel1 _ _) _⟩
    all_goals rw [hr.out]
    all_goals first | rfl | (rw [Bool.eq_iff_iff]; simp)
  have q0 : (wd L a == 0) = false := by simpa using h0
  have hr : Hid (sf 14 (wd L a) (wd L b) (wd L c) = false) := by
    show _ = _
    simp [sf,h0]
  generalize sf 14 (wd L a) (wd L b) (wd L c) = R at *
  go_enter Tryz.func60,Tryz.ntmps60
  go_wp2_with fail
  go_big_quiet ((go_at_call 57; exact Calls.quiet_of_same (HQ.out _ _ _ (by assumption))))
  all_goals go_wp2
  all_goals go_ret
  all_goals exact ⟨ret_bool hr.out.symm,by first | exact bel1 _ _ | exact (bel1 _ _).drew | exact drw (bel1 _ _) _⟩
set_option maxHeartbeats 8000000 in
theorem rsorts_d (ty : TypeId) (B0 B : Nat) (lim : Int) (L : List Nd) (v : Value) (M1 M2 : Option Nat) (op u a b c num : Int) (nm : ByteArray) (w : World) (h : SM ty w B0 B lim L v M1 M2) (ha : isT L a = true) (hb : isT L b = true) (h10 : 10 <= op) (h29 : op <= 29) (h14 : op ≠ 14) (h15 : op ≠ 15) (h16 : op ≠ 16) :
    Calls Tryz.prog 60 #[.pointer (some ⟨B,0,none⟩),.agg #[.int .i64 op,.int .i64 u,.int .i64 a,.int .i64 b,.int .i64 c,.int .u64 num,.string nm]] w fun e w' => e = .returned (.bool (sf op (wd L a) (wd L b) (wd L c))) /\ Below w.heap.size w w' := by
  have HQ : Hid (∀ o m t,isT L t = true -> Calls Tryz.prog 57 #[.pointer (some ⟨B,0,none⟩),.int .i64 t] ((w.alloc o).drewN m) fun e w' => e = .returned (.int .i64 (wd L t)) /\ w' = (w.alloc o).drewN m) := fun o m t ht => w_any ty B0 B lim L v M1 M2 t _ (h.below (drw (bel1 w o) m)) ht
  have hsf : Hid (sf op (wd L a) (wd L b) (wd L c) = decide (0 < wd L a /\ wd L a = wd L b)) := by
    show _ = _
    unfold sf; rw [if_neg (by omega),if_neg (by omega),if_neg (by omega),if_neg h14,if_neg (by omega),if_neg (by omega)]
  have p4 : decide (op <= 4) = false := decide_eq_false (by omega); have p8 : decide (op <= 8) = false := decide_eq_false (by omega); have p31 : decide (31 <= op) = false := decide_eq_false (by omega); have e5 : (op == 5) = false := beq_eq_false_iff_ne.2 (by omega); have e9 : (op == 9) = false := beq_eq_false_iff_ne.2 (by omega); have e14 : (op == 14) = false := beq_eq_false_iff_ne.2 (by omega); have e15 : (op == 15) = false := beq_eq_false_iff_ne.2 (by omega); have e16 : (op == 16) = false := beq_eq_false_iff_ne.2 (by omega); have e30 : (op == 30) = false := beq_eq_false_iff_ne.2 (by omega); clear h10 h29 h14 h15 h16; clear h
  by_cases h0 : 0 < wd L a
  · have q0 : decide (0 < wd L a) = true := by simpa using h0
    have hr : Hid (sf op (wd L a) (wd L b) (wd L c) = decide (wd L a = wd L b)) := by
      show _ = _
      rw [hsf.out]; simp [h0]
    generalize sf op (wd L a) (wd L b) (wd L c) = R at *
    go_enter Tryz.func60,Tryz.ntmps60
    go_wp2_with fail
    go_big_quiet ((go_at_call 57; exact Calls.quiet_of_same (HQ.out _ _ _ (by assumption))))
    all_goals go_wp2
    all_goals go_ret
    all_goals refine ⟨ret_bool ?_,by first | exact bel1 _ _ | exact (bel1 _ _).drew | exact drw (bel1 _ _) _⟩
    all_goals rw [hr.out]
    all_goals first | rfl | (rw [Bool.eq_iff_iff]; simp)
  have q0 : decide (0 < wd L a) = false := by simpa using h0
  have hr : Hid (sf op (wd L a) (wd L b) (wd L c) = false) := by
    show _ = _
    rw [hsf.out]; exact decide_eq_false (fun h7 => h0 h7.1)
  generalize sf op (wd L a) (wd L b) (wd L c) = R at *
  go_enter Tryz.func60,Tryz.ntmps60
  go_wp2_with fail
  go_big_quiet ((go_at_call 57; exact Calls.quiet_of_same (HQ.out _ _ _ (by assumption))))
  all_goals go_wp2
  all_goals go_ret
  all_goals exact ⟨ret_bool hr.out.symm,by first | exact bel1 _ _ | exact (bel1 _ _).drew | exact drw (bel1 _ _) _⟩
theorem rsorts_any (ty : TypeId) (B0 B : Nat) (lim : Int) (L : List Nd) (v : Value) (M1 M2 : Option Nat) (n : Nd) (w : World) (h : SM ty w B0 B lim L v M1 M2) (h1 : 1 <= n.op) (h2 : n.op <= 33) (hP : hp L n = true) (hB : br n = true) :
    Calls Tryz.prog 60 #[.pointer (some ⟨B,0,none⟩),nodeV n] w fun e w' => e = .returned (.bool (sf n.op (wd L n.a) (wd L n.b) (wd L n.c))) /\ Below w.heap.size w w' := by
  have ga := fun h1 => hp_a hP h1
  have gb := fun h1 => hp_b hP h1
  have gc := fun h1 => hp_c hP h1
  have gz : pt n.op < 2 -> wd L n.b = 0 := fun h1 => by rw [br_b hB h1]; exact wd_none (isT_zero L)
  obtain ⟨op,u,a,b,c,num,nm⟩ := n
  dsimp only at h1 h2 ga gb gc gz
  by_cases hd : 10 <= op /\ op <= 29 /\ op ≠ 14 /\ op ≠ 15 /\ op ≠ 16
  · have hp2 : pt op = 2 := by
      unfold pt; rw [if_neg (by omega),if_neg (by omega),if_neg (by omega)]
    exact rsorts_d ty B0 B lim L v M1 M2 op u a b c num nm w h (ga (by omega)) (gb (by omega)) hd.1 hd.2.1 hd.2.2.1 hd.2.2.2.1 hd.2.2.2.2
  have hc : op = 1 ∨ op = 2 ∨ op = 3 ∨ op = 4 ∨ op = 5 ∨ op = 6 ∨ op = 7 ∨ op = 8 ∨ op = 9 ∨ op = 14 ∨ op = 15 ∨ op = 16 ∨ op = 30 ∨ op = 31 ∨ op = 32 ∨ op = 33 := by omega
  rcases hc with rfl | rfl | rfl | rfl | rfl | rfl | rfl | rfl | rfl | rfl | rfl | rfl | rfl | rfl | rfl | rfl
  · exact rsorts_1 ty B0 B lim L v M1 M2 u a b c num nm w h
  · exact rsorts_2 ty B0 B lim L v M1 M2 u a b c num nm w h
  · exact rsorts_3 ty B0 B lim L v M1 M2 u a b c num nm w h
  · exact rsorts_4 ty B0 B lim L v M1 M2 u a b c num nm w h
  · rw [gz (by decide)]
    exact rsorts_5 ty B0 B lim L v M1 M2 u a b c num nm w h (ga (by decide))
  · exact rsorts_6 ty B0 B lim L v M1 M2 u a b c num nm w h (ga (by decide)) (gb (by decide))
  · exact rsorts_7 ty B0 B lim L v M1 M2 u a b c num nm w h (ga (by decide)) (gb (by decide))
  · exact rsorts_8 ty B0 B lim L v M1 M2 u a b c num nm w h (ga (by decide)) (gb (by decide))
  · exact rsorts_9 ty B0 B lim L v M1 M2 u a b c num nm w h (ga (by decide)) (gb (by decide))
  · exact rsorts_14 ty B0 B lim L v M1 M2 u a b c num nm w h (ga (by decide)) (gb (by decide)) (gc (by decide))
  · rw [gz (by decide)]
    exact rsorts_15 ty B0 B lim L v M1 M2 u a b c num nm w h (ga (by decide))
  · rw [gz (by decide)]
    exact rsorts_16 ty B0 B lim L v M1 M2 u a b c num nm w h (ga (by decide))
  · exact rsorts_30 ty B0 B lim L v M1 M2 u a b c num nm w h (ga (by decide)) (gb (by decide))
  · rw [gz (by decide)]
    exact rsorts_31 ty B0 B lim L v M1 M2 u a b c num nm w h (ga (by decide))
  · rw [gz (by decide)]
    exact rsorts_32 ty B0 B lim L v M1 M2 u a b c num nm w h (ga (by decide))
  rw [gz (by decide)]; exact rsorts_33 ty B0 B lim L v M1 M2 u a b c num nm w h (ga (by decide))
end Go.Proofs.YtldpkkbdhohcmaaGreatDoor
