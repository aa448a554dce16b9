import Derived.Test.YtkpapgfbnledpaaGreatDoorEvN
import Derived.Test.YtkpapgfbnledpaaGreatDoorTlO
import Derived.Deep.QuietTactic
import Derived.BigQuiet
import Derived.KernelRfl
set_option maxHeartbeats 8000000
set_option maxRecDepth 100000
namespace Go.Proofs.YtkpapgfbnledpaaGreatDoor
open Go.ChangeShapes Go.WideShapes Go.ChangeAt Go.RowKit Go.Lib Go.Tm Go.Bw Go.Bn Go.WideMaps Go.Maps Go.ChangeMaps Go.Shelf

theorem sameU_eq (w : World) (g1 g2 n c1 c2 : Nat) (f : Nat -> Nat) (h1 : UL w g1 n f) (h2 : UL w g2 n f) (hn : n <= 1000000000000) :
    Calls Tryz.prog 17 #[.slice (some ⟨g1,0,none⟩) n c1,.slice (some ⟨g2,0,none⟩) n c2] w fun e w' => e = .returned (.bool true) /\ ∃ d,w' = w.drewN d := by
  have H1 : Hid (UL w g1 n f) := h1; have H2 : Hid (UL w g2 n f) := h2; clear h1 h2
  go_enter Tryz.func17,Tryz.ntmps17
  go_wp2_with fail
  go_loopg [5] n (fun gk v5 wr => ∃ k d : Nat,v5 = .int .i64 (k : Int) /\ k + gk = n /\ wr = w.drewN d)
  case atStart => exact ⟨0,0,rfl,by omega,rfl⟩
  case round =>
    obtain ⟨k,d,rfl,hk,rfl⟩ := hrel
    by_cases hlt : k < n
    · have y1 : (w.drewN d).cell? ⟨g1,k,none⟩ = some (.int .u64 ((f k : Nat) : Int)) := (H1.out.at_ hlt).1
      have y2 : (w.drewN d).cell? ⟨g2,k,none⟩ = some (.int .u64 ((f k : Nat) : Int)) := (H2.out.at_ hlt).1; have q1 : (k : Int) < (n : Int) := by omega
      have HDN : Hid (∀ q,∃ z,(w.drewN d).drewN q = w.drewN z) := fun q => ⟨d + q,by rw [World.drewN_drewN]⟩
      generalize f k = x at *
      generalize w.drewN d = WQ at *
      go_wp2_with fail
      go_quiet (fail)
      go_wp2_with fail
      go_roundg (n - (k + 1))
      case measure => omega
      case rel =>
        obtain ⟨z,hz⟩ := HDN.out _; exact ⟨k + 1,z,by simp,by omega,hz⟩
    obtain rfl : k = n := by omega
    have q1 : ¬ (k : Int) < (k : Int) := by omega
    go_wp2_with fail
    first | exact ⟨rfl,d,rfl⟩ | (go_ret; exact ⟨rfl,d,rfl⟩)
theorem no_any (e : Int) (w : World) : Calls Tryz.prog 10 #[.int .i64 e] w fun E w' => E = .returned (.int .i64 e) /\ w' = w := by
  go_enter Tryz.func10,Tryz.ntmps10
  go_wp2
  go_ret
  exact ⟨rfl,rfl⟩
/- the chapter's example -/
def exT : List UInt8 := [49,32,118,97,114,32,120,32,56,10,50,32,118,97,114,32,121,32,56,10,51,32,97,100,100,32,49,32,50,10,52,32,101,113,32,51,32,49,10,114,111,111,116,115,32,51,32,52,10]
def exL : List Nd := [⟨4,8,0,0,0,0,⟨#[120]⟩⟩,⟨4,8,0,0,0,0,⟨#[121]⟩⟩,⟨20,8,1,2,0,0,⟨#[]⟩⟩,⟨9,0,3,1,0,0,⟨#[]⟩⟩]
def exX : List Vl := [⟨⟨#[120]⟩,8,200⟩,⟨⟨#[121]⟩,8,100⟩]
def exY : List Vl := [⟨⟨#[120]⟩,4,1⟩]
theorem ex_ld : ldG 0 (lgo [] exT) [] [] = (exL,[3,4],0,0) := by kernel_rfl
theorem ex_o34 : og exL [] [3,4] = [1,2,3,4] := by kernel_rfl
theorem ex_o4 : og exL [] [4] = [1,2,3,4] := by kernel_rfl
theorem ex_o3 : og exL [] [3] = [1,2,3] := by kernel_rfl
theorem ex_sz : szF exL [1,2,3,4] 4 = (5,3) := by kernel_rfl
theorem ex_v4 : varsF exL [1,2,3,4] = [⟨⟨#[120]⟩,8,0⟩,⟨⟨#[121]⟩,8,0⟩] := by kernel_rfl
theorem ex_v3 : varsF exL [1,2,3] = [⟨⟨#[120]⟩,8,0⟩,⟨⟨#[121]⟩,8,0⟩] := by kernel_rfl
theorem ex_tx : tellF exX ⟨#[120]⟩ = some ⟨⟨#[120]⟩,8,200⟩ := by kernel_rfl
theorem ex_ty : tellF exX ⟨#[121]⟩ = some ⟨⟨#[121]⟩,8,100⟩ := by kernel_rfl
theorem ex_yx : tellF exY ⟨#[120]⟩ = some ⟨⟨#[120]⟩,4,1⟩ := by kernel_rfl
def exG : gT := fun t f => if t = 1 then 200 else if t = 2 then 100 else if t = 3 then (trimI 8 (IntKind.u64.wrap (trimI 8 (f 1 : Nat) + trimI 8 (f 2 : Nat)))).toNat else if f 3 = f 1 then 1 else 0
theorem ex_f : folN exG 0 [1,2,3,4] 3 = 44 /\ folN exG 0 [1,2,3,4] 4 = 0 := ⟨by kernel_rfl,by kernel_rfl⟩
theorem nm_x : nmB ⟨#[120]⟩ = true := by kernel_rfl
theorem nm_y : nmB ⟨#[121]⟩ = true := by kernel_rfl
theorem ex_par : PAR exL := fun i hi => by
  have h4 : exL.length = 4 := rfl; rw [h4] at hi
  rcases i with _ | _ | _ | _ | i
  · show (0 <= (0 : Int) /\ (0 : Int) <= ((0 : Nat) : Int)) /\ (0 <= (0 : Int) /\ (0 : Int) <= ((0 : Nat) : Int)) /\ (0 <= (0 : Int) /\ (0 : Int) <= ((0 : Nat) : Int))
    omega
  · show (0 <= (0 : Int) /\ (0 : Int) <= ((1 : Nat) : Int)) /\ (0 <= (0 : Int) /\ (0 : Int) <= ((1 : Nat) : Int)) /\ (0 <= (0 : Int) /\ (0 : Int) <= ((1 : Nat) : Int))
    omega
  · show (0 <= (1 : Int) /\ (1 : Int) <= ((2 : Nat) : Int)) /\ (0 <= (2 : Int) /\ (2 : Int) <= ((2 : Nat) : Int)) /\ (0 <= (0 : Int) /\ (0 : Int) <= ((2 : Nat) : Int))
    omega
  · show (0 <= (3 : Int) /\ (3 : Int) <= ((3 : Nat) : Int)) /\ (0 <= (1 : Int) /\ (1 : Int) <= ((3 : Nat) : Int)) /\ (0 <= (0 : Int) /\ (0 : Int) <= ((3 : Nat) : Int))
    omega
  omega
theorem U_nat {n : Nat} (h : n <= 18446744073709551615) : U (n : Int) := by unfold U; omega
theorem ex_of (B : Nat) : OFW B 5 exL [1,2,3,4] (tellF exX) exG := by
  intro t ht f hf; have hc : t = 1 ∨ t = 2 ∨ t = 3 ∨ t = 4 := by simpa using ht
  rcases hc with rfl | rfl | rfl | rfl
  · refine ⟨show (200 : Nat) <= _ by omega,fun V M k g w h => ?_⟩
    have h9 := of_var V B M k g 5 (tellF exX) f (exL.getD 0 z0) 0 0 0 w h rfl rfl rfl (by omega) (by omega) (by omega) rfl (show 1 <= 140737488355328 by omega); rw [show (exL.getD 0 z0).name = ⟨#[120]⟩ from rfl,ex_tx] at h9; exact h9
  · refine ⟨show (100 : Nat) <= _ by omega,fun V M k g w h => ?_⟩
    have h9 := of_var V B M k g 5 (tellF exX) f (exL.getD 1 z0) 0 0 0 w h rfl rfl rfl (by omega) (by omega) (by omega) rfl (show 1 <= 140737488355328 by omega); rw [show (exL.getD 1 z0).name = ⟨#[121]⟩ from rfl,ex_ty] at h9; exact h9
  · have hU := U_wrap (trimI 8 (f 1 : Nat) + trimI 8 (f 2 : Nat))
    have hlo := trim_lo 8 (IntKind.u64.wrap (trimI 8 (f 1 : Nat) + trimI 8 (f 2 : Nat))) hU.1; have hhi := trim_hi 8 (IntKind.u64.wrap (trimI 8 (f 1 : Nat) + trimI 8 (f 2 : Nat))) (by omega) hU.2; have h256 : (2 : Int) ^ (8 : Int).toNat = 256 := rfl; rw [h256] at hhi; have eg : exG 3 f = (trimI 8 (IntKind.u64.wrap (trimI 8 (f 1 : Nat) + trimI 8 (f 2 : Nat)))).toNat := rfl; rw [eg]; refine ⟨by omega,fun V M k g w h => ?_⟩; have h9 := of_b20 V B M k g 5 (tellF exX) f (exL.getD 2 z0) 1 2 0 w h rfl rfl rfl (by omega) (by omega) (by omega) rfl (trimI 8 (IntKind.u64.wrap (trimI 8 (f 1 : Nat) + trimI 8 (f 2 : Nat)))) (fun W => (bin_20 8 (f 1 : Nat) (f 2 : Nat) (by omega) (by omega) (U_nat (hf 1)) (U_nat (hf 2)) W).mono fun e w' ⟨he,hw⟩ => ⟨he,by rw [hw]; exact Below.refl _ _⟩); rw [Int.toNat_of_nonneg hlo]; exact h9
  have eg : exG 4 f = if f 3 = f 1 then 1 else 0 := rfl; rw [eg]; refine ⟨by split <;> omega,fun V M k g w h => ?_⟩; have h9 := of_eq V B M k g 5 (tellF exX) f (exL.getD 3 z0) 3 1 0 w h rfl rfl rfl (by omega) (by omega) (by omega) rfl; have e : (((if f 3 = f 1 then 1 else 0 : Nat) : Nat) : Int) = if f 3 = f 1 then 1 else 0 := by split <;> rfl
  rw [e]; exact h9
end Go.Proofs.YtkpapgfbnledpaaGreatDoor
namespace Go.Proofs.YtkpapgfbnledpaaGreatDoor
open Go.ChangeShapes Go.WideShapes Go.ChangeAt Go.RowKit Go.Lib Go.Tm Go.Bw Go.Bn Go.WideMaps Go.Maps Go.ChangeMaps Go.Shelf

theorem vr_new (W : World) (cs : List Value) (xs : List Vl) (e : flatV xs = cs) : VR (W.alloc (.cells cs.toArray 38)) (some ⟨W.heap.size,0,none⟩) xs := fun h0 => by
  have k : ∀ i j,i < xs.length -> j < 3 -> (W.alloc (.cells cs.toArray 38)).cell? ⟨W.heap.size,0 + i * 3 + j,none⟩ = (vC (xs.getD i vZ))[j]? := fun i j hi hj => by
    rw [Nat.zero_add]; refine (blk_cell (heap_alloc_new W _) (i * 3 + j)).trans ?_; rw [<- flatV_at xs i j hi hj,e]
    simp
  exact ⟨W.heap.size,0,rfl,by simp,fun j hj => ⟨k j 0 hj (by omega),k j 1 hj (by omega),k j 2 hj (by omega)⟩⟩
theorem ul_lit (W : World) : UL (W.alloc (.cells #[.int .u64 44,.int .u64 0] 36)) W.heap.size 2 (fun j => if j = 0 then 44 else 0) := ⟨_,heap_alloc_new W _,rfl,fun i hi => by
  rcases i with _ | _ | i
  · rfl
  · rfl
  omega⟩
theorem UL.congr {w : World} {g n : Nat} {f f' : Nat -> Nat} (h : UL w g n f) (e : ∀ i,i < n -> f i = f' i) : UL w g n f' := by
  obtain ⟨A,hA,h1,h2⟩ := h.blk; exact ⟨A,hA,h1,fun i hi => by rw [<- e i hi]; exact h2 i hi⟩
theorem UL.drewN {w : World} {g n d : Nat} {f : Nat -> Nat} (h : UL w g n f) : UL (w.drewN d) g n f := h.keep rfl
theorem bel_drewN (B : Nat) (w : World) (d : Nat) : Below B w (w.drewN d) := ⟨rfl,rfl,rfl,Nat.le_refl _,fun _ _ => rfl⟩
theorem ex_uniqX : ∀ i j,i < j -> j < exX.length -> ¬ (exX.getD j vZ).nm = (exX.getD i vZ).nm := by
  intro i j hij hj; have h2 : exX.length = 2 := rfl; rw [h2] at hj; obtain rfl : i = 0 := by omega
  obtain rfl : j = 1 := by omega
  show ¬ (⟨#[121]⟩ : ByteArray) = ⟨#[120]⟩
  decide
theorem ex_goodX : ∀ x ∈ exX,nmB x.nm = true /\ x.nm.size <= 140737488355328 /\ okV x := by
  intro x hx; have hc : x = ⟨⟨#[120]⟩,8,200⟩ ∨ x = ⟨⟨#[121]⟩,8,100⟩ := by
    rcases List.mem_cons.1 hx with h | h
    · exact Or.inl h
    exact Or.inr (List.mem_singleton.1 h)
  rcases hc with rfl | rfl
  · exact ⟨nm_x,show 1 <= 140737488355328 by omega,Or.inr ⟨show (1 : Int) <= 8 by omega,show (8 : Int) <= 64 by omega,by kernel_rfl,show (0 : Int) <= 200 /\ (200 : Int) < 18446744073709551616 by omega⟩⟩
  exact ⟨nm_y,show 1 <= 140737488355328 by omega,Or.inr ⟨show (1 : Int) <= 8 by omega,show (8 : Int) <= 64 by omega,by kernel_rfl,show (0 : Int) <= 100 /\ (100 : Int) < 18446744073709551616 by omega⟩⟩
theorem ex_uniqY : ∀ i j,i < j -> j < exY.length -> ¬ (exY.getD j vZ).nm = (exY.getD i vZ).nm := by
  intro i j hij hj; have h2 : exY.length = 1 := rfl
  omega
theorem ex_goodY : ∀ x ∈ exY,nmB x.nm = true /\ x.nm.size <= 140737488355328 /\ okV x := by
  intro x hx; obtain rfl := List.mem_singleton.1 hx; exact ⟨nm_x,show 1 <= 140737488355328 by omega,Or.inr ⟨show (1 : Int) <= 4 by omega,show (4 : Int) <= 64 by omega,by kernel_rfl,show (0 : Int) <= 1 /\ (1 : Int) < 18446744073709551616 by omega⟩⟩
theorem ex_mx : mxN [1,2,3,4] = 4 := rfl
theorem ex_vals (B0 B : Nat) (v1 : Value) (M1 M2 : Option Nat) {aR aV : Option Addr} {cR cV : Nat} (W : World) (hS : SM 78 W B0 B 0 exL v1 M1 M2) (hI : IR W aR [3,4]) (hV : VR W aV exX) :
    Calls Tryz.prog 16 #[.pointer (some ⟨B,0,none⟩),.slice aR 2 cR,.slice aV 2 cV] W fun e w' => ∃ g2,e = .returned (.tuple #[.slice (some ⟨g2,0,none⟩) 2 2,.int .i64 0]) /\ UL w' g2 2 (fun j => if j = 0 then 44 else 0) /\ Below W.heap.size W w' := by
  have eT : toN [3,4] = [3,4] := rfl; have h9 := values_any (rs := [3,4]) (xs := exX) (aR := aR) (aV := aV) (cR := cR) (cV := cV) B0 B 0 exL v1 M1 M2 exG W hS ex_par hI (fun x hx => by
      rcases List.mem_cons.1 hx with h | h
      · rw [h]; exact decide_eq_true (show (1 : Int) <= 3 /\ (3 : Int) <= ((4 : Nat) : Int) by omega)
      rw [List.mem_singleton.1 h]; exact decide_eq_true (show (1 : Int) <= 4 /\ (4 : Int) <= ((4 : Nat) : Int) by omega)) (show 2 <= 1000000000000 by omega) hV (show 2 <= 1000000000000 by omega) ex_uniqX ex_goodX
    (by
      rw [eT,ex_o34,ex_v4]; intro x hx
      rcases List.mem_cons.1 hx with h | h
      · rw [h]; show 1 <= 140737488355328; omega
      rw [List.mem_singleton.1 h]; show 1 <= 140737488355328; omega)
    (by
      rw [eT,ex_o34,ex_v4]; intro x hx y hy
      rcases List.mem_cons.1 hx with h | h
      · rw [h] at hy ⊢
        rw [show (Vl.nm ⟨⟨#[120]⟩,8,0⟩) = ⟨#[120]⟩ from rfl,ex_tx] at hy; cases hy
        rfl
      rw [List.mem_singleton.1 h] at hy ⊢; rw [show (Vl.nm ⟨⟨#[121]⟩,8,0⟩) = ⟨#[121]⟩ from rfl,ex_ty] at hy; cases hy
      rfl)
    (by rw [eT,ex_o34,ex_mx]; show 4 / 16 <= 4; omega)
    (by rw [eT,ex_o34,ex_mx]; exact ex_of B)
  rw [eT,ex_o34] at h9; refine h9.mono ?_; rintro e w' ⟨g2,he,hu,hb⟩; refine ⟨g2,he,hu.congr ?_,hb⟩; intro i hi
  rcases i with _ | _ | i
  · exact ex_f.1
  · exact ex_f.2
  exact absurd hi (show ¬ i + 1 + 1 < 2 by omega)
theorem ex_size (B0 B : Nat) (v1 : Value) (M1 M2 : Option Nat) (W : World) (hS : SM 78 W B0 B 0 exL v1 M1 M2) :
    Calls Tryz.prog 24 #[.pointer (some ⟨B,0,none⟩),.int .i64 4] W fun e w' => e = .returned (.tuple #[.int .i64 4,.int .u64 5,.int .i64 3,.int .i64 0]) /\ Below W.heap.size W w' := by
  have h9 := size_any B0 B 0 exL v1 M1 M2 4 W hS ex_par (by omega) (show 4 <= 4 by omega) (by rw [ex_o4,ex_mx]; show 4 / 16 <= 4; omega); rw [ex_o4,ex_sz] at h9; exact h9
theorem ex_bad (B0 B : Nat) (v1 : Value) (M1 M2 : Option Nat) {aV : Option Addr} {cV : Nat} (W : World) (hS : SM 78 W B0 B 0 exL v1 M1 M2) (hV : VR W aV exY) :
    Calls Tryz.prog 25 #[.pointer (some ⟨B,0,none⟩),.int .i64 3,.slice aV 1 cV] W fun e w' => e = .returned (.tuple #[.int .u64 0,.int .i64 71]) /\ Below W.heap.size W w' :=
  value_bad (t := 3) (xs := exY) B0 B 0 exL v1 M1 M2 W hS ex_par (by omega) (show 3 <= 4 by omega) hV (show 1 <= 1000000000000 by omega) ex_uniqY ex_goodY
    (by
      rw [ex_o3,ex_v3]; intro x hx
      rcases List.mem_cons.1 hx with h | h
      · rw [h]; show 1 <= 140737488355328; omega
      rw [List.mem_singleton.1 h]; show 1 <= 140737488355328; omega)
    (by
      rw [ex_o3,ex_v3]; exact ⟨_,List.mem_cons_self ..,⟨⟨#[120]⟩,4,1⟩,ex_yx,show ¬ (4 : Int) = 8 by omega⟩)
end Go.Proofs.YtkpapgfbnledpaaGreatDoor
namespace Go.Proofs.YtkpapgfbnledpaaGreatDoor
open Go.ChangeShapes Go.WideShapes Go.ChangeAt Go.RowKit Go.Lib Go.Tm Go.Bw Go.Bn Go.WideMaps Go.Maps Go.ChangeMaps Go.Shelf

theorem ir_ints {w : World} {B : Nat} {v : Value} {xs : List Int} (h : w.ownsRow B 3 1 v xs.length (xs.map (Value.int .i64))) : ∃ ad c,v = .slice ad xs.length c /\ IR w ad xs := by
  obtain ⟨ad,c,rfl,hg⟩ := row_form h; refine ⟨ad,c,rfl,fun h0 => ?_⟩; obtain ⟨g,rfl⟩ := hg h0; refine ⟨g,0,rfl,(h.lt g rfl).2,fun j hj => ?_⟩; rw [Nat.zero_add,h.cellAt j (by omega),List.getElem?_map,List.getElem?_eq_getElem hj,List.getD_eq_getElem?_getD,List.getElem?_eq_getElem hj]
  rfl
theorem live_ok (w : World) (hE : ENV w) (h9 : 10 <= w.heap.size) : Calls Tryz.prog 7 #[] w fun e w' => e = .returned (.bool true) /\ Below w.heap.size w w' := by
  have HLd : Hid (Calls Tryz.prog 23 #[.string ⟨exT.toArray⟩,.int .i64 0] w fun e w' => Below w.heap.size w w' /\ ∃ B aR cR,e = .returned (.tuple #[.pointer (some ⟨B,0,none⟩),.slice aR 2 cR,.int .i64 0,.int .i64 0]) /\ IR w' aR [3,4] /\ ∃ v1 M1 M2,SM 78 w' w.heap.size B 0 exL v1 M1 M2) := (load_any exT 0 w (by omega) (by unfold I64; omega) hE h9 (show 49 <= 1048575 by omega) _ ex_ld).mono fun e w' ⟨hb,h⟩ => ⟨hb,by
    rcases h with ⟨h0,_⟩ | ⟨_,_,B,v,he,hrow,hsm⟩
    · exact absurd rfl h0
    obtain ⟨ad,c,rfl,hi⟩ := ir_ints (xs := [3,4]) hrow; exact ⟨B,ad,c,he,hi,hsm⟩⟩
  have HNo : Hid (∀ (e : Int) (W : World),Calls Tryz.prog 10 #[.int .i64 e] W fun E w' => E = .returned (.int .i64 e) /\ w' = W) := no_any; clear hE h9; unfold exT at HLd
  go_enter Tryz.func7,Tryz.ntmps7
  go_wp2_with fail
  refine HLd.out.mono ?_; rintro e w1 ⟨hb1,B,aR,cR,rfl,hI1,v1,M1,M2,hS1⟩; have H1 : Hid (Below w.heap.size w w1 /\ IR w1 aR [3,4] /\ SM 78 w1 w.heap.size B 0 exL v1 M1 M2) := ⟨hb1,hI1,hS1⟩; clear hb1 hI1 hS1 HLd
  go_wp2_with fail
  refine (HNo.out 0 w1).mono ?_; rintro e w' ⟨rfl,rfl⟩
  go_wp2_with fail
  refine (ex_vals w.heap.size B v1 M1 M2 _ (H1.out.2.2.below (bel1 _ _)) (H1.out.2.1.below (bel1 _ _)) (vr_new _ _ exX rfl)).mono ?_; rintro e w2 ⟨g2,rfl,hu2,hb2⟩; have H2 : Hid (Below w.heap.size w w2 /\ IR w2 aR [3,4] /\ SM 78 w2 w.heap.size B 0 exL v1 M1 M2 /\ UL w2 g2 2 (fun j => if j = 0 then 44 else 0)) := by
    have hb : Below w'.heap.size w' w2 := (bel1 w' _).trans (below_le' hb2 (by simp)); exact ⟨H1.out.1.trans (below_le' hb H1.out.1.size),H1.out.2.1.below hb,H1.out.2.2.below hb,hu2⟩
  clear hu2 hb2; obtain ⟨b,o,rfl,hbl,hc⟩ := H2.out.2.1 (show 0 < 2 by omega); have c0 : w2.cell? ⟨b,o,none⟩ = some (.int .i64 3) := hc 0 (show 0 < 2 by omega); have c1 : w2.cell? ⟨b,o + 1,none⟩ = some (.int .i64 4) := hc 1 (show 1 < 2 by omega); clear hc
  go_wp2_with fail
  refine (ex_size w.heap.size B v1 M1 M2 w2 H2.out.2.2.1).mono ?_; rintro e w3 ⟨rfl,hb3⟩; have H3 : Hid (Below w.heap.size w w3 /\ SM 78 w3 w.heap.size B 0 exL v1 M1 M2 /\ UL w3 g2 2 (fun j => if j = 0 then 44 else 0)) := ⟨H2.out.1.trans (below_le' hb3 H2.out.1.size),H2.out.2.2.1.below hb3,H2.out.2.2.2.below hb3⟩; have c2 : w3.cell? ⟨b,o,none⟩ = some (.int .i64 3) := (World.cell?_of_block (a := ⟨b,o,none⟩) (hb3.block b hbl)).trans c0; clear hb3 hbl c0 c1 H2 H1
  go_wp2_with fail
  refine (ex_bad w.heap.size B v1 M1 M2 _ (H3.out.2.1.below (bel1 _ _)) (vr_new _ _ exY rfl)).mono ?_; rintro e w4 ⟨rfl,hb4⟩; have H4 : Hid (Below w.heap.size w w4 /\ UL w4 g2 2 (fun j => if j = 0 then 44 else 0)) := by
    have hb : Below w3.heap.size w3 w4 := (bel1 w3 _).trans (below_le' hb4 (by simp)); exact ⟨H3.out.1.trans (below_le' hb H3.out.1.size),H3.out.2.2.below hb⟩
  clear hb4 c2 H3
  go_wp2_with fail
  refine (HNo.out 0 w4).mono ?_; rintro e w5 ⟨rfl,rfl⟩
  go_wp2_with fail
  refine (HNo.out 0 w5).mono ?_; rintro e w6 ⟨rfl,rfl⟩
  go_wp2_with fail
  refine (sameU_eq _ g2 w6.heap.size 2 2 2 _ (H4.out.2.below (bel1 _ _)) (ul_lit w6) (by omega)).mono ?_; rintro e w7 ⟨rfl,d,rfl⟩; have H7 : Hid (Below w.heap.size w ((w6.alloc (Obj.cells #[.int .u64 44,.int .u64 0] 36)).drewN d)) := (H4.out.1.trans (below_le' (bel1 w6 _) H4.out.1.size)).trans (bel_drewN _ _ _)
  go_wp2_with fail
  refine (HNo.out 71 _).mono ?_; rintro e w8 ⟨rfl,rfl⟩
  go_wp2_with fail
  first
    | (go_ret; exact ⟨rfl,H7.out⟩)
    | exact ⟨rfl,H7.out⟩
end Go.Proofs.YtkpapgfbnledpaaGreatDoor
