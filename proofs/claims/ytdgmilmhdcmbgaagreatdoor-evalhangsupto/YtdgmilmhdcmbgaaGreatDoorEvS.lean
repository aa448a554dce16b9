import Derived.Test.YtdgmilmhdcmbgaaGreatDoorEvN
import Derived.Test.YtdgmilmhdcmbgaaGreatDoorTlO
import Derived.Deep.QuietTactic
import Derived.BigQuiet
import Derived.KernelRfl
import Derived.Test.YtdgmilmhdcmbgaaGreatDoorTbD
import Derived.Test.YtdgmilmhdcmbgaaGreatDoorTmOb
namespace Go.Proofs.YtdgmilmhdcmbgaaGreatDoor
open Go.ChangeShapes Go.WideShapes Go.ChangeAt Go.RowKit Go.Lib Go.Tm Go.Bw Go.Bn Go.WideMaps Go.Maps Go.ChangeMaps Go.Shelf

set_option maxHeartbeats 2000000 in
theorem sameU_eq (w : World) (g1 g2 n c1 c2 : Nat) (f : Nat → Nat) (h1 : UL w g1 n f) (h2 : UL w g2 n f) (hn : n ≤ 1000000000000) :
    Calls Tryz.prog 18 #[.slice (some ⟨g1, 0, none⟩) n c1, .slice (some ⟨g2, 0, none⟩) n c2] w fun e w' => e = .returned (.bool true) ∧ ∃ d, w' = w.drewN d := by
  have H1 : Hid (UL w g1 n f) := h1
  have H2 : Hid (UL w g2 n f) := h2
  clear h1 h2
  go_enter Tryz.func18, Tryz.ntmps18
  go_wp2_with fail
  go_loopg [5] n (fun gk v5 wr => ∃ k d : Nat, v5 = .int .i64 (k : Int) ∧ k + gk = n ∧ wr = w.drewN d)
  case atStart => exact ⟨0, 0, rfl, by omega, rfl⟩
  case round =>
    obtain ⟨k, d, rfl, hk, rfl⟩ := hrel
    by_cases hlt : k < n
    · have y1 : (w.drewN d).cell? ⟨g1, k, none⟩ = some (.int .u64 ((f k : Nat) : Int)) := (H1.out.at_ hlt).1
      have y2 : (w.drewN d).cell? ⟨g2, k, none⟩ = some (.int .u64 ((f k : Nat) : Int)) := (H2.out.at_ hlt).1
      have q1 : (k : Int) < (n : Int) := by omega
      have HDN : Hid (∀ q, ∃ z, (w.drewN d).drewN q = w.drewN z) := fun q => ⟨d + q, by rw [World.drewN_drewN]⟩
      generalize f k = x at *
      generalize w.drewN d = WQ at *
      go_wp2_with fail
      go_quiet (fail)
      go_wp2_with fail
      go_roundg (n - (k + 1))
      case measure => omega
      case rel =>
        obtain ⟨z, hz⟩ := HDN.out _
        exact ⟨k + 1, z, by simp, by omega, hz⟩
    · obtain rfl : k = n := by omega
      have q1 : ¬ (k : Int) < (k : Int) := by omega
      go_wp2_with fail
      first | exact ⟨rfl, d, rfl⟩ | (go_ret; exact ⟨rfl, d, rfl⟩)
theorem no_any (e : Int) (w : World) : Calls Tryz.prog 8 #[.int .i64 e] w fun E w' => E = .returned (.int .i64 e) ∧ w' = w := by
  go_enter Tryz.func8, Tryz.ntmps8
  go_wp2
  go_ret
  exact ⟨rfl, rfl⟩
/- the chapter's example -/
def exT : List UInt8 := [49, 32, 118, 97, 114, 32, 120, 32, 56, 10, 50, 32, 118, 97, 114, 32, 121, 32, 56, 10, 51, 32, 97, 100, 100, 32, 49, 32, 50, 10, 52, 32, 101, 113, 32, 51, 32, 49, 10, 114, 111, 111, 116, 115, 32, 51, 32, 52, 10]
def exL : List Nd := [⟨4, 8, 0, 0, 0, 0, ⟨#[120]⟩⟩, ⟨4, 8, 0, 0, 0, 0, ⟨#[121]⟩⟩, ⟨20, 8, 1, 2, 0, 0, ⟨#[]⟩⟩, ⟨9, 0, 3, 1, 0, 0, ⟨#[]⟩⟩]
def exX : List Vl := [⟨⟨#[120]⟩, 8, 200⟩, ⟨⟨#[121]⟩, 8, 100⟩]
def exY : List Vl := [⟨⟨#[120]⟩, 4, 1⟩]
theorem ex_ld : ldG 0 (lgo [] exT) [] [] = (exL, [3, 4], 0, 0) := by kernel_rfl
theorem ex_o34 : og exL [] [3, 4] = [1, 2, 3, 4] := by kernel_rfl
theorem ex_o4 : og exL [] [4] = [1, 2, 3, 4] := by kernel_rfl
theorem ex_o3 : og exL [] [3] = [1, 2, 3] := by kernel_rfl
theorem ex_sz : szF exL [1, 2, 3, 4] 4 = (5, 3) := by kernel_rfl
theorem ex_v4 : varsF exL [1, 2, 3, 4] = [⟨⟨#[120]⟩, 8, 0⟩, ⟨⟨#[121]⟩, 8, 0⟩] := by kernel_rfl
theorem ex_v3 : varsF exL [1, 2, 3] = [⟨⟨#[120]⟩, 8, 0⟩, ⟨⟨#[121]⟩, 8, 0⟩] := by kernel_rfl
theorem ex_tx : tellF exX ⟨#[120]⟩ = some ⟨⟨#[120]⟩, 8, 200⟩ := by kernel_rfl
theorem ex_ty : tellF exX ⟨#[121]⟩ = some ⟨⟨#[121]⟩, 8, 100⟩ := by kernel_rfl
theorem ex_yx : tellF exY ⟨#[120]⟩ = some ⟨⟨#[120]⟩, 4, 1⟩ := by kernel_rfl
def exG : gT := fun t f => if t = 1 then 200 else if t = 2 then 100 else if t = 3 then (trimI 8 (IntKind.u64.wrap (trimI 8 (f 1 : Nat) + trimI 8 (f 2 : Nat)))).toNat else if f 3 = f 1 then 1 else 0
theorem ex_f : folN exG 0 [1, 2, 3, 4] 3 = 44 ∧ folN exG 0 [1, 2, 3, 4] 4 = 0 := ⟨by kernel_rfl, by kernel_rfl⟩
theorem nm_x : nmB ⟨#[120]⟩ = true := by kernel_rfl
theorem nm_y : nmB ⟨#[121]⟩ = true := by kernel_rfl
theorem ex_par : PAR exL := fun i hi => by
  have h4 : exL.length = 4 := rfl
  rw [h4] at hi
  rcases i with _ | _ | _ | _ | i
  · show (0 ≤ (0 : Int) ∧ (0 : Int) ≤ ((0 : Nat) : Int)) ∧ (0 ≤ (0 : Int) ∧ (0 : Int) ≤ ((0 : Nat) : Int)) ∧ (0 ≤ (0 : Int) ∧ (0 : Int) ≤ ((0 : Nat) : Int))
    omega
  · show (0 ≤ (0 : Int) ∧ (0 : Int) ≤ ((1 : Nat) : Int)) ∧ (0 ≤ (0 : Int) ∧ (0 : Int) ≤ ((1 : Nat) : Int)) ∧ (0 ≤ (0 : Int) ∧ (0 : Int) ≤ ((1 : Nat) : Int))
    omega
  · show (0 ≤ (1 : Int) ∧ (1 : Int) ≤ ((2 : Nat) : Int)) ∧ (0 ≤ (2 : Int) ∧ (2 : Int) ≤ ((2 : Nat) : Int)) ∧ (0 ≤ (0 : Int) ∧ (0 : Int) ≤ ((2 : Nat) : Int))
    omega
  · show (0 ≤ (3 : Int) ∧ (3 : Int) ≤ ((3 : Nat) : Int)) ∧ (0 ≤ (1 : Int) ∧ (1 : Int) ≤ ((3 : Nat) : Int)) ∧ (0 ≤ (0 : Int) ∧ (0 : Int) ≤ ((3 : Nat) : Int))
    omega
  · omega
theorem U_nat {n : Nat} (h : n ≤ 18446744073709551615) : U (n : Int) := by unfold U; omega
theorem ex_of (B : Nat) : OFW B 5 exL [1, 2, 3, 4] (tellF exX) exG := by
  intro t ht f hf
  have hc : t = 1 ∨ t = 2 ∨ t = 3 ∨ t = 4 := by simpa using ht
  rcases hc with rfl | rfl | rfl | rfl
  · refine ⟨show (200 : Nat) ≤ _ by omega, fun V M k g w h => ?_⟩
    have h9 := of_var V B M k g 5 (tellF exX) f (exL.getD 0 z0) 0 0 0 w h rfl rfl rfl (by omega) (by omega) (by omega) rfl (show 1 ≤ 140737488355328 by omega)
    rw [show (exL.getD 0 z0).name = ⟨#[120]⟩ from rfl, ex_tx] at h9
    exact h9
  · refine ⟨show (100 : Nat) ≤ _ by omega, fun V M k g w h => ?_⟩
    have h9 := of_var V B M k g 5 (tellF exX) f (exL.getD 1 z0) 0 0 0 w h rfl rfl rfl (by omega) (by omega) (by omega) rfl (show 1 ≤ 140737488355328 by omega)
    rw [show (exL.getD 1 z0).name = ⟨#[121]⟩ from rfl, ex_ty] at h9
    exact h9
  · have hU := U_wrap (trimI 8 (f 1 : Nat) + trimI 8 (f 2 : Nat))
    have hlo := trim_lo 8 (IntKind.u64.wrap (trimI 8 (f 1 : Nat) + trimI 8 (f 2 : Nat))) hU.1
    have hhi := trim_hi 8 (IntKind.u64.wrap (trimI 8 (f 1 : Nat) + trimI 8 (f 2 : Nat))) (by omega) hU.2
    have h256 : (2 : Int) ^ (8 : Int).toNat = 256 := rfl
    rw [h256] at hhi
    have eg : exG 3 f = (trimI 8 (IntKind.u64.wrap (trimI 8 (f 1 : Nat) + trimI 8 (f 2 : Nat)))).toNat := rfl
    rw [eg]
    refine ⟨by omega, fun V M k g w h => ?_⟩
    have h9 := of_b20 V B M k g 5 (tellF exX) f (exL.getD 2 z0) 1 2 0 w h rfl rfl rfl (by omega) (by omega) (by omega) rfl (trimI 8 (IntKind.u64.wrap (trimI 8 (f 1 : Nat) + trimI 8 (f 2 : Nat)))) (fun W => (bin_20 8 (f 1 : Nat) (f 2 : Nat) (by omega) (by omega) (U_nat (hf 1)) (U_nat (hf 2)) W).mono fun e w' ⟨he, hw⟩ => ⟨he, by rw [hw]; exact Below.refl _ _⟩)
    rw [Int.toNat_of_nonneg hlo]
    exact h9
  · have eg : exG 4 f = if f 3 = f 1 then 1 else 0 := rfl
    rw [eg]
    refine ⟨by split <;> omega, fun V M k g w h => ?_⟩
    have h9 := of_eq V B M k g 5 (tellF exX) f (exL.getD 3 z0) 3 1 0 w h rfl rfl rfl (by omega) (by omega) (by omega) rfl
    have e : (((if f 3 = f 1 then 1 else 0 : Nat) : Nat) : Int) = if f 3 = f 1 then 1 else 0 := by split <;> rfl
    rw [e]
    exact h9
end Go.Proofs.YtdgmilmhdcmbgaaGreatDoor
namespace Go.Proofs.YtdgmilmhdcmbgaaGreatDoor
open Go.ChangeShapes Go.WideShapes Go.ChangeAt Go.RowKit Go.Lib Go.Tm Go.Bw Go.Bn Go.WideMaps Go.Maps Go.ChangeMaps Go.Shelf

theorem vr_new (W : World) (cs : List Value) (xs : List Vl) (e : flatV xs = cs) : VR (W.alloc (.cells cs.toArray 47)) (some ⟨W.heap.size, 0, none⟩) xs := fun h0 => by
  have k : ∀ i j, i < xs.length → j < 3 → (W.alloc (.cells cs.toArray 47)).cell? ⟨W.heap.size, 0 + i * 3 + j, none⟩ = (vC (xs.getD i vZ))[j]? := fun i j hi hj => by
    rw [Nat.zero_add]
    refine (blk_cell (heap_alloc_new W _) (i * 3 + j)).trans ?_
    rw [← flatV_at xs i j hi hj, e]
    simp
  exact ⟨W.heap.size, 0, rfl, by simp, fun j hj => ⟨k j 0 hj (by omega), k j 1 hj (by omega), k j 2 hj (by omega)⟩⟩
theorem ul_lit (W : World) : UL (W.alloc (.cells #[.int .u64 44, .int .u64 0] 31)) W.heap.size 2 (fun j => if j = 0 then 44 else 0) := ⟨_, heap_alloc_new W _, rfl, fun i hi => by
  rcases i with _ | _ | i
  · rfl
  · rfl
  · omega⟩
theorem UL.congr {w : World} {g n : Nat} {f f' : Nat → Nat} (h : UL w g n f) (e : ∀ i, i < n → f i = f' i) : UL w g n f' := by
  obtain ⟨A, hA, h1, h2⟩ := h.blk
  exact ⟨A, hA, h1, fun i hi => by rw [← e i hi]; exact h2 i hi⟩
theorem UL.drewN {w : World} {g n d : Nat} {f : Nat → Nat} (h : UL w g n f) : UL (w.drewN d) g n f := h.keep rfl
theorem bel_drewN (B : Nat) (w : World) (d : Nat) : Below B w (w.drewN d) := ⟨rfl, rfl, rfl, Nat.le_refl _, fun _ _ => rfl⟩
theorem ex_uniqX : ∀ i j, i < j → j < exX.length → ¬ (exX.getD j vZ).nm = (exX.getD i vZ).nm := by
  intro i j hij hj
  have h2 : exX.length = 2 := rfl
  rw [h2] at hj
  obtain rfl : i = 0 := by omega
  obtain rfl : j = 1 := by omega
  show ¬ (⟨#[121]⟩ : ByteArray) = ⟨#[120]⟩
  decide
theorem ex_goodX : ∀ x ∈ exX, nmB x.nm = true ∧ x.nm.size ≤ 140737488355328 ∧ okV x := by
  intro x hx
  have hc : x = ⟨⟨#[120]⟩, 8, 200⟩ ∨ x = ⟨⟨#[121]⟩, 8, 100⟩ := by
    rcases List.mem_cons.1 hx with h | h
    · exact Or.inl h
    · exact Or.inr (List.mem_singleton.1 h)
  rcases hc with rfl | rfl
  · exact ⟨nm_x, show 1 ≤ 140737488355328 by omega, Or.inr ⟨show (1 : Int) ≤ 8 by omega, show (8 : Int) ≤ 64 by omega, by kernel_rfl, show (0 : Int) ≤ 200 ∧ (200 : Int) < 18446744073709551616 by omega⟩⟩
  · exact ⟨nm_y, show 1 ≤ 140737488355328 by omega, Or.inr ⟨show (1 : Int) ≤ 8 by omega, show (8 : Int) ≤ 64 by omega, by kernel_rfl, show (0 : Int) ≤ 100 ∧ (100 : Int) < 18446744073709551616 by omega⟩⟩
theorem ex_uniqY : ∀ i j, i < j → j < exY.length → ¬ (exY.getD j vZ).nm = (exY.getD i vZ).nm := by
  intro i j hij hj
  have h2 : exY.length = 1 := rfl
  omega
theorem ex_goodY : ∀ x ∈ exY, nmB x.nm = true ∧ x.nm.size ≤ 140737488355328 ∧ okV x := by
  intro x hx
  obtain rfl := List.mem_singleton.1 hx
  exact ⟨nm_x, show 1 ≤ 140737488355328 by omega, Or.inr ⟨show (1 : Int) ≤ 4 by omega, show (4 : Int) ≤ 64 by omega, by kernel_rfl, show (0 : Int) ≤ 1 ∧ (1 : Int) < 18446744073709551616 by omega⟩⟩
theorem ex_mx : mxN [1, 2, 3, 4] = 4 := rfl
theorem ex_vals (B0 B : Nat) (v1 : Value) (M1 M2 : Option Nat) {aR aV : Option Addr} {cR cV : Nat} (W : World) (hS : SM 59 W B0 B 0 exL v1 M1 M2) (hI : IR W aR [3, 4]) (hV : VR W aV exX) :
    Calls Tryz.prog 14 #[.pointer (some ⟨B, 0, none⟩), .slice aR 2 cR, .slice aV 2 cV] W fun e w' => ∃ g2, e = .returned (.tuple #[.slice (some ⟨g2, 0, none⟩) 2 2, .int .i64 0]) ∧ UL w' g2 2 (fun j => if j = 0 then 44 else 0) ∧ Below W.heap.size W w' := by
  have eT : toN [3, 4] = [3, 4] := rfl
  have h9 := values_any (rs := [3, 4]) (xs := exX) (aR := aR) (aV := aV) (cR := cR) (cV := cV) B0 B 0 exL v1 M1 M2 exG W hS ex_par hI (fun x hx => by
      rcases List.mem_cons.1 hx with h | h
      · rw [h]; exact decide_eq_true (show (1 : Int) ≤ 3 ∧ (3 : Int) ≤ ((4 : Nat) : Int) by omega)
      · rw [List.mem_singleton.1 h]; exact decide_eq_true (show (1 : Int) ≤ 4 ∧ (4 : Int) ≤ ((4 : Nat) : Int) by omega)) (show 2 ≤ 1000000000000 by omega) hV (show 2 ≤ 1000000000000 by omega) ex_uniqX ex_goodX
    (by
      rw [eT, ex_o34, ex_v4]
      intro x hx
      rcases List.mem_cons.1 hx with h | h
      · rw [h]; show 1 ≤ 140737488355328; omega
      · rw [List.mem_singleton.1 h]; show 1 ≤ 140737488355328; omega)
    (by
      rw [eT, ex_o34, ex_v4]
      intro x hx y hy
      rcases List.mem_cons.1 hx with h | h
      · rw [h] at hy ⊢
        rw [show (Vl.nm ⟨⟨#[120]⟩, 8, 0⟩) = ⟨#[120]⟩ from rfl, ex_tx] at hy
        cases hy
        rfl
      · rw [List.mem_singleton.1 h] at hy ⊢
        rw [show (Vl.nm ⟨⟨#[121]⟩, 8, 0⟩) = ⟨#[121]⟩ from rfl, ex_ty] at hy
        cases hy
        rfl)
    (by rw [eT, ex_o34, ex_mx]; show 4 / 16 ≤ 4; omega)
    (by rw [eT, ex_o34, ex_mx]; exact ex_of B)
  rw [eT, ex_o34] at h9
  refine h9.mono ?_
  rintro e w' ⟨g2, he, hu, hb⟩
  refine ⟨g2, he, hu.congr ?_, hb⟩
  intro i hi
  rcases i with _ | _ | i
  · exact ex_f.1
  · exact ex_f.2
  · exact absurd hi (show ¬ i + 1 + 1 < 2 by omega)
theorem ex_size (B0 B : Nat) (v1 : Value) (M1 M2 : Option Nat) (W : World) (hS : SM 59 W B0 B 0 exL v1 M1 M2) :
    Calls Tryz.prog 10 #[.pointer (some ⟨B, 0, none⟩), .int .i64 4] W fun e w' => e = .returned (.tuple #[.int .i64 4, .int .u64 5, .int .i64 3, .int .i64 0]) ∧ Below W.heap.size W w' := by
  have h9 := size_any B0 B 0 exL v1 M1 M2 4 W hS ex_par (by omega) (show 4 ≤ 4 by omega) (by rw [ex_o4, ex_mx]; show 4 / 16 ≤ 4; omega)
  rw [ex_o4, ex_sz] at h9
  exact h9
theorem ex_bad (B0 B : Nat) (v1 : Value) (M1 M2 : Option Nat) {aV : Option Addr} {cV : Nat} (W : World) (hS : SM 59 W B0 B 0 exL v1 M1 M2) (hV : VR W aV exY) :
    Calls Tryz.prog 16 #[.pointer (some ⟨B, 0, none⟩), .int .i64 3, .slice aV 1 cV] W fun e w' => e = .returned (.tuple #[.int .u64 0, .int .i64 71]) ∧ Below W.heap.size W w' :=
  value_bad (t := 3) (xs := exY) B0 B 0 exL v1 M1 M2 W hS ex_par (by omega) (show 3 ≤ 4 by omega) hV (show 1 ≤ 1000000000000 by omega) ex_uniqY ex_goodY
    (by
      rw [ex_o3, ex_v3]
      intro x hx
      rcases List.mem_cons.1 hx with h | h
      · rw [h]; show 1 ≤ 140737488355328; omega
      · rw [List.mem_singleton.1 h]; show 1 ≤ 140737488355328; omega)
    (by
      rw [ex_o3, ex_v3]
      exact ⟨_, List.mem_cons_self .., ⟨⟨#[120]⟩, 4, 1⟩, ex_yx, show ¬ (4 : Int) = 8 by omega⟩)
end Go.Proofs.YtdgmilmhdcmbgaaGreatDoor
namespace Go.Proofs.YtdgmilmhdcmbgaaGreatDoor
open Go.ChangeShapes Go.WideShapes Go.ChangeAt Go.RowKit Go.Lib Go.Tm Go.Bw Go.Bn Go.WideMaps Go.Maps Go.ChangeMaps Go.Shelf

theorem ir_ints {w : World} {B : Nat} {v : Value} {xs : List Int} (h : w.ownsRow B 3 1 v xs.length (xs.map (Value.int .i64))) : ∃ ad c, v = .slice ad xs.length c ∧ IR w ad xs := by
  obtain ⟨ad, c, rfl, hg⟩ := row_form h
  refine ⟨ad, c, rfl, fun h0 => ?_⟩
  obtain ⟨g, rfl⟩ := hg h0
  refine ⟨g, 0, rfl, (h.lt g rfl).2, fun j hj => ?_⟩
  rw [Nat.zero_add, h.cellAt j (by omega), List.getElem?_map, List.getElem?_eq_getElem hj, List.getD_eq_getElem?_getD, List.getElem?_eq_getElem hj]
  rfl
set_option maxHeartbeats 8000000 in
set_option maxRecDepth 100000 in
theorem live_ok (w : World) (hE : ENV w) (h9 : 9 ≤ w.heap.size) : Calls Tryz.prog 5 #[] w fun e w' => e = .returned (.bool true) ∧ Below w.heap.size w w' := by
  have HLd : Hid (Calls Tryz.prog 17 #[.string ⟨exT.toArray⟩, .int .i64 0] w fun e w' => Below w.heap.size w w' ∧ ∃ B aR cR, e = .returned (.tuple #[.pointer (some ⟨B, 0, none⟩), .slice aR 2 cR, .int .i64 0, .int .i64 0]) ∧ IR w' aR [3, 4] ∧ ∃ v1 M1 M2, SM 59 w' w.heap.size B 0 exL v1 M1 M2) := (load_any exT 0 w (by omega) (by unfold I64; omega) hE h9 (show 49 ≤ 1999999999 by omega) _ ex_ld).mono fun e w' ⟨hb, h⟩ => ⟨hb, by
    rcases h with ⟨h0, _⟩ | ⟨_, _, B, v, he, hrow, hsm⟩
    · exact absurd rfl h0
    · obtain ⟨ad, c, rfl, hi⟩ := ir_ints (xs := [3, 4]) hrow
      exact ⟨B, ad, c, he, hi, hsm⟩⟩
  have HNo : Hid (∀ (e : Int) (W : World), Calls Tryz.prog 8 #[.int .i64 e] W fun E w' => E = .returned (.int .i64 e) ∧ w' = W) := no_any
  clear hE h9
  unfold exT at HLd
  go_enter Tryz.func5, Tryz.ntmps5
  go_wp2_with fail
  refine HLd.out.mono ?_
  rintro e w1 ⟨hb1, B, aR, cR, rfl, hI1, v1, M1, M2, hS1⟩
  have H1 : Hid (Below w.heap.size w w1 ∧ IR w1 aR [3, 4] ∧ SM 59 w1 w.heap.size B 0 exL v1 M1 M2) := ⟨hb1, hI1, hS1⟩
  clear hb1 hI1 hS1 HLd
  go_wp2_with fail
  refine (HNo.out 0 w1).mono ?_
  rintro e w' ⟨rfl, rfl⟩
  go_wp2_with fail
  refine (ex_vals w.heap.size B v1 M1 M2 _ (H1.out.2.2.below (bel1 _ _)) (H1.out.2.1.below (bel1 _ _)) (vr_new _ _ exX rfl)).mono ?_
  rintro e w2 ⟨g2, rfl, hu2, hb2⟩
  have H2 : Hid (Below w.heap.size w w2 ∧ IR w2 aR [3, 4] ∧ SM 59 w2 w.heap.size B 0 exL v1 M1 M2 ∧ UL w2 g2 2 (fun j => if j = 0 then 44 else 0)) := by
    have hb : Below w'.heap.size w' w2 := (bel1 w' _).trans (below_le' hb2 (by simp))
    exact ⟨H1.out.1.trans (below_le' hb H1.out.1.size), H1.out.2.1.below hb, H1.out.2.2.below hb, hu2⟩
  clear hu2 hb2
  obtain ⟨b, o, rfl, hbl, hc⟩ := H2.out.2.1 (show 0 < 2 by omega)
  have c0 : w2.cell? ⟨b, o, none⟩ = some (.int .i64 3) := hc 0 (show 0 < 2 by omega)
  have c1 : w2.cell? ⟨b, o + 1, none⟩ = some (.int .i64 4) := hc 1 (show 1 < 2 by omega)
  clear hc
  go_wp2_with fail
  refine (ex_size w.heap.size B v1 M1 M2 w2 H2.out.2.2.1).mono ?_
  rintro e w3 ⟨rfl, hb3⟩
  have H3 : Hid (Below w.heap.size w w3 ∧ SM 59 w3 w.heap.size B 0 exL v1 M1 M2 ∧ UL w3 g2 2 (fun j => if j = 0 then 44 else 0)) := ⟨H2.out.1.trans (below_le' hb3 H2.out.1.size), H2.out.2.2.1.below hb3, H2.out.2.2.2.below hb3⟩
  have c2 : w3.cell? ⟨b, o, none⟩ = some (.int .i64 3) := (World.cell?_of_block (a := ⟨b, o, none⟩) (hb3.block b hbl)).trans c0
  clear hb3 hbl c0 c1 H2 H1
  go_wp2_with fail
  refine (ex_bad w.heap.size B v1 M1 M2 _ (H3.out.2.1.below (bel1 _ _)) (vr_new _ _ exY rfl)).mono ?_
  rintro e w4 ⟨rfl, hb4⟩
  have H4 : Hid (Below w.heap.size w w4 ∧ UL w4 g2 2 (fun j => if j = 0 then 44 else 0)) := by
    have hb : Below w3.heap.size w3 w4 := (bel1 w3 _).trans (below_le' hb4 (by simp))
    exact ⟨H3.out.1.trans (below_le' hb H3.out.1.size), H3.out.2.2.below hb⟩
  clear hb4 c2 H3
  go_wp2_with fail
  refine (HNo.out 0 w4).mono ?_
  rintro e w5 ⟨rfl, rfl⟩
  go_wp2_with fail
  refine (HNo.out 0 w5).mono ?_
  rintro e w6 ⟨rfl, rfl⟩
  go_wp2_with fail
  refine (sameU_eq _ g2 w6.heap.size 2 2 2 _ (H4.out.2.below (bel1 _ _)) (ul_lit w6) (by omega)).mono ?_
  rintro e w7 ⟨rfl, d, rfl⟩
  have H7 : Hid (Below w.heap.size w ((w6.alloc (Obj.cells #[.int .u64 44, .int .u64 0] 31)).drewN d)) := (H4.out.1.trans (below_le' (bel1 w6 _) H4.out.1.size)).trans (bel_drewN _ _ _)
  go_wp2_with fail
  refine (HNo.out 71 _).mono ?_
  rintro e w8 ⟨rfl, rfl⟩
  go_wp2_with fail
  first
    | (go_ret; exact ⟨rfl, H7.out⟩)
    | exact ⟨rfl, H7.out⟩
end Go.Proofs.YtdgmilmhdcmbgaaGreatDoor
namespace Go.Proofs.YtdgmilmhdcmbgaaGreatDoor
open Go.ChangeShapes Go.WideShapes Go.ChangeAt Go.RowKit Go.Lib Go.Tm Go.Bw Go.Bn Go.WideMaps Go.Maps Go.ChangeMaps

/-- a term of the chain -/
def cNd : Nat → Nd
  | 0 => ⟨4, 8, 0, 0, 0, 0, ⟨#[120]⟩⟩
  | k + 1 => ⟨22, 8, ((k + 1 : Nat) : Int), ((k + 1 : Nat) : Int), 0, 0, ByteArray.empty⟩
/-- the chain -/
def chL : Nat → List Nd
  | 0 => [cNd 0]
  | k + 1 => chL k ++ [cNd (k + 1)]
theorem chL_len : ∀ k, (chL k).length = k + 1
  | 0 => rfl
  | k + 1 => by
    show (chL k ++ [cNd (k + 1)]).length = _
    rw [List.length_append, chL_len k]
    rfl
theorem chL_at : ∀ (k i : Nat), i ≤ k → (chL k).getD i z0 = cNd i
  | 0, i, h => by
    obtain rfl : i = 0 := by omega
    rfl
  | k + 1, i, h => by
    show (chL k ++ [cNd (k + 1)]).getD i z0 = _
    have hl := chL_len k
    by_cases e : i ≤ k
    · rw [List.getD_eq_getElem?_getD, List.getElem?_append_left (by omega), ← List.getD_eq_getElem?_getD]
      exact chL_at k i e
    · obtain rfl : i = k + 1 := by omega
      rw [List.getD_eq_getElem?_getD, List.getElem?_append_right (by omega), hl, Nat.sub_self]
      rfl
theorem cNd_w (i : Nat) : (cNd i).w = 8 := by cases i <;> rfl
theorem chL_wd (k t : Nat) (h1 : 1 ≤ t) (h2 : t ≤ k + 1) : wd (chL k) (t : Int) = 8 := by
  have hl := chL_len k
  unfold wd isT
  rw [if_pos (decide_eq_true (by omega)), chL_at k _ (by omega), cNd_w]
theorem chL_isT (k t : Nat) (h1 : 1 ≤ t) (h2 : t ≤ k + 1) : isT (chL k) (t : Int) = true := by
  have hl := chL_len k
  exact decide_eq_true (by omega)
theorem chL_wd0 (k : Nat) : wd (chL k) 0 = 0 := by
  have h : isT (chL k) 0 = false := decide_eq_false (by omega)
  unfold wd
  rw [h]
  rfl
theorem mw22 : mw 22 8 8 = 8 := by kernel_rfl
theorem pt22 : pt 22 = 2 := by kernel_rfl
theorem rfE_ch (k : Nat) : rfE (chL k) (cNd (k + 1)) = 0 := by
  have h1 := chL_wd k (k + 1) (by omega) (by omega)
  have h2 := chL_wd0 k
  have h3 := chL_isT k (k + 1) (by omega) (by omega)
  have hb : br (cNd (k + 1)) = true := by
    unfold br
    rw [show (cNd (k + 1)).op = 22 from rfl, pt22]
    rfl
  have hh : hp (chL k) (cNd (k + 1)) = true := by
    unfold hp
    rw [show (cNd (k + 1)).op = 22 from rfl, pt22, show (cNd (k + 1)).a = ((k + 1 : Nat) : Int) from rfl, show (cNd (k + 1)).b = ((k + 1 : Nat) : Int) from rfl, h3]
    rfl
  unfold rfE
  rw [hh, hb, show (cNd (k + 1)).op = 22 from rfl, show (cNd (k + 1)).w = 8 from rfl, show (cNd (k + 1)).a = ((k + 1 : Nat) : Int) from rfl, show (cNd (k + 1)).b = ((k + 1 : Nat) : Int) from rfl, show (cNd (k + 1)).c = 0 from rfl, h1, h2]
  rfl
theorem mk_ch (k : Nat) : mk 0 (chL k) ⟨22, mw 22 (wd (chL k) ((k + 1 : Nat) : Int)) (wd (chL k) ((k + 1 : Nat) : Int)), ((k + 1 : Nat) : Int), ((k + 1 : Nat) : Int), 0, 0, ByteArray.empty⟩ = (chL (k + 1), ((k + 1 + 1 : Nat) : Int), 0) := by
  rw [chL_wd k (k + 1) (by omega) (by omega), mw22]
  have hn : (⟨22, 8, ((k + 1 : Nat) : Int), ((k + 1 : Nat) : Int), 0, 0, ByteArray.empty⟩ : Nd) = cNd (k + 1) := rfl
  rw [hn]
  have hl := chL_len k
  have hp : pos (cNd (k + 1)) (chL k) = none := pos_none (fun j hj e => by
    rw [chL_at k j (by omega)] at e
    cases j with
    | zero =>
      have := congrArg Nd.op e
      exact absurd this (show ¬ (4 : Int) = 22 by omega)
    | succ j =>
      have := congrArg Nd.a e
      have h7 : ((j + 1 : Nat) : Int) = ((k + 1 : Nat) : Int) := this
      omega)
  unfold mk
  rw [rfE_ch, hp]
  rw [if_neg (by simp), if_neg (by omega), hl]
  refine Prod.ext rfl (Prod.ext ?_ rfl)
  show ((k + 1 : Nat) : Int) + 1 = ((k + 1 + 1 : Nat) : Int)
  omega
theorem mk_c0 : mk 0 [] ⟨4, 8, 0, 0, 0, 0, ⟨#[120]⟩⟩ = (chL 0, 1, 0) := by kernel_rfl
theorem chL_par (k : Nat) : PAR (chL k) := fun i hi => by
  rw [chL_len] at hi
  rw [chL_at k i (by omega)]
  cases i with
  | zero =>
    show (0 ≤ (0 : Int) ∧ (0 : Int) ≤ ((0 : Nat) : Int)) ∧ (0 ≤ (0 : Int) ∧ (0 : Int) ≤ ((0 : Nat) : Int)) ∧ (0 ≤ (0 : Int) ∧ (0 : Int) ≤ ((0 : Nat) : Int))
    omega
  | succ i =>
    show (0 ≤ ((i + 1 : Nat) : Int) ∧ ((i + 1 : Nat) : Int) ≤ ((i + 1 : Nat) : Int)) ∧ (0 ≤ ((i + 1 : Nat) : Int) ∧ ((i + 1 : Nat) : Int) ≤ ((i + 1 : Nat) : Int)) ∧ (0 ≤ (0 : Int) ∧ (0 : Int) ≤ ((i + 1 : Nat) : Int))
    omega
theorem chL_chn (k : Nat) : CHN (chL k) := by
  refine ⟨fun t ht => ?_, fun t h1 h2 => ?_⟩
  · subst ht
    unfold pA pB pC
    rw [chL_at k _ (by omega)]
    exact ⟨rfl, rfl, rfl⟩
  · rw [chL_len] at h2
    unfold pA pB pC
    rw [chL_at k _ (by omega)]
    obtain ⟨j, rfl⟩ : ∃ j, t = j + 1 + 1 := ⟨t - 2, by omega⟩
    exact ⟨rfl, rfl, rfl⟩
theorem ch_facts (k : Nat) : (og (chL k) [] [k + 1]).length = k + 1 ∧ szF (chL k) (og (chL k) [] [k + 1]) (k + 1) = (chN (k + 1), k + 1) ∧ mxN (og (chL k) [] [k + 1]) / 16 ≤ (og (chL k) [] [k + 1]).length := by
  have hl := chL_len k
  have hb : ∀ r ∈ [k + 1], 1 ≤ r ∧ r ≤ (chL k).length ∧ True := fun r hr => by rw [List.mem_singleton.1 hr]; exact ⟨by omega, by omega, trivial⟩
  obtain ⟨hPW, _, hroot, _⟩ := og_ok (R := fun _ => True) (chL_par k) [k + 1] [] (PW.nil (chL k)) ⟨fun _ _ _ _ => Or.inl trivial, fun _ _ _ _ => Or.inl trivial⟩ hb
  have hm := hroot (k + 1) (List.mem_singleton.2 rfl)
  have h1 := chain_len (chL_chn k) hPW hl.symm (by omega) hm
  refine ⟨h1, chain_size (chL_chn k) hPW hl.symm (by omega) hm k (by omega), ?_⟩
  have h2 : mxN (og (chL k) [] [k + 1]) ≤ k + 1 := mxN_le (fun x hx => by have := (hPW.ob x hx).2; omega)
  rw [h1]
  omega
theorem ch_want (k : Nat) (h : k < 63) : chN (k + 1) = 2 ^ (k + 1) - 1 := by
  unfold chN
  rw [if_pos (by omega)]
theorem ch_want2 (k : Nat) (h : ¬ k < 63) : chN (k + 1) = 18446744073709551615 := by
  unfold chN
  rw [if_neg (by omega)]
end Go.Proofs.YtdgmilmhdcmbgaaGreatDoor
namespace Go.Proofs.YtdgmilmhdcmbgaaGreatDoor
open Go.ChangeShapes Go.WideShapes Go.ChangeAt Go.RowKit Go.Lib Go.Tm Go.Bw Go.Bn Go.WideMaps Go.Maps Go.ChangeMaps

theorem want_eq (i : Nat) (h : i < 63) : IntKind.u64.wrap (IntKind.u64.wrap (2 ^ (i + 1)) - 1) = ((chN (i + 1) : Nat) : Int) := by
  rw [ch_want i h]
  have h1 := pow_le64 (show i + 1 < 64 by omega)
  have h2 : 0 < 2 ^ (i + 1) := Nat.pow_pos (by omega)
  have h3 : ((2 : Int) ^ (i + 1)) = ((2 ^ (i + 1) : Nat) : Int) := by simp
  rw [h3]
  generalize 2 ^ (i + 1) = p at *
  simp [IntKind.wrap, IntKind.bits, IntKind.signed]
  omega
set_option maxHeartbeats 8000000 in
set_option maxRecDepth 100000 in
theorem sizes_ok (times : Int) (w : World) (hE : ENV w) (h9 : 9 ≤ w.heap.size) : Calls Tryz.prog 3 #[.int .i64 times] w fun e w' => e = .returned (.bool true) ∧ Below w.heap.size w w' := by
  have HLv : Hid (Calls Tryz.prog 5 #[] w fun e w' => e = .returned (.bool true) ∧ Below w.heap.size w w') := live_ok w hE h9
  clear hE h9
  by_cases hlo : times < 0
  · have q0 : decide (times < 0) = true := decide_eq_true hlo
    go_enter Tryz.func3, Tryz.ntmps3
    go_wp2_with fail
    refine HLv.out.mono ?_
    rintro e w1 ⟨rfl, hb1⟩
    have H1 : Hid (Below w.heap.size w w1) := hb1
    clear hb1
    go_wp2_with fail
    first | exact ⟨rfl, H1.out⟩ | (go_ret; exact ⟨rfl, H1.out⟩)
  · by_cases hhi : 200 < times
    · go_enter Tryz.func3, Tryz.ntmps3
      go_wp2_with fail
      refine HLv.out.mono ?_
      rintro e w1 ⟨rfl, hb1⟩
      have H1 : Hid (Below w.heap.size w w1) := hb1
      clear hb1
      go_wp2_with fail
      first | exact ⟨rfl, H1.out⟩ | (go_ret; exact ⟨rfl, H1.out⟩)
    · obtain ⟨k, rfl⟩ : ∃ k : Nat, times = (k : Int) := ⟨times.toNat, by omega⟩
      have hk : k ≤ 200 := by omega
      have q0 : ¬ (k : Int) < 0 := by omega
      have q1 : ¬ (200 : Int) < (k : Int) := by omega
      clear hlo hhi
      have HNo : Hid (∀ (e : Int) (W : World), Calls Tryz.prog 8 #[.int .i64 e] W fun E w' => E = .returned (.int .i64 e) ∧ w' = W) := no_any
      have HN0 : Hid (∀ W, Calls Tryz.prog 6 #[.int .i64 0] W fun e w' => ∃ B, e = .returned (.tuple #[.pointer (some ⟨B, 0, none⟩), .int .i64 0]) ∧ Below W.heap.size W w' ∧ SM 59 w' W.heap.size B 0 [] (.slice none 0 0) none none) := fun W => new_ok 0 W (by omega) (by unfold I64; omega)
      go_enter Tryz.func3, Tryz.ntmps3
      go_wp2_with fail
      refine HLv.out.mono ?_
      rintro e w1 ⟨rfl, hb1⟩
      have H1 : Hid (Below w.heap.size w w1) := hb1
      clear hb1 HLv
      go_wp2_with fail
      refine (HN0.out w1).mono ?_
      rintro e w2 ⟨B, rfl, hb2, hs2⟩
      have X2 : Hid (OS w1 w2 B 0 []) := OS.new hb2 hs2
      have HV : Hid (Calls Tryz.prog 7 #[.pointer (some ⟨B, 0, none⟩), .string ⟨#[120]⟩, .int .i64 8] w2 fun e w' => e = .returned (.tuple #[.int .i64 1, .int .i64 0]) ∧ OS w1 w' B 0 (chL 0)) := by
        have h1 := X2.out.var ⟨#[120]⟩ 8 (by decide) (i64_small (by decide) (by decide)) (by decide)
        rw [mk_c0] at h1
        exact h1
      clear hb2 hs2 HN0
      go_wp2_with fail
      refine HV.out.mono ?_
      rintro e w3 ⟨rfl, h3⟩
      have X3 : Hid (OS w1 w3 B 0 (chL 0)) := h3
      clear h3 HV X2
      have HBn : Hid (∀ i W, i ≤ 200 → OS w1 W B 0 (chL i) → Calls Tryz.prog 9 #[.pointer (some ⟨B, 0, none⟩), .int .i64 22, .int .i64 ((i + 1 : Nat) : Int), .int .i64 ((i + 1 : Nat) : Int)] W fun e w' => e = .returned (.tuple #[.int .i64 ((i + 1 + 1 : Nat) : Int), .int .i64 0]) ∧ OS w1 w' B 0 (chL (i + 1))) := fun i W hi hW => by
        have hl := chL_len i
        have h1 := hW.bin 22 ((i + 1 : Nat) : Int) ((i + 1 : Nat) : Int) (i64_small (by decide) (by decide)) (i64_small (by omega) (by omega)) (i64_small (by omega) (by omega)) pt22 (by omega)
        rw [mk_ch] at h1
        exact h1
      go_wp2_with fail
      go_loopg [5, 6, 7] k (fun gk s5 s6 s7 wr => ∃ i : Nat, s5 = .int .i64 ((i + 1 : Nat) : Int) ∧ s6 = .int .i64 0 ∧ s7 = .int .i64 (i : Int) ∧ i + gk = k ∧ OS w1 wr B 0 (chL i))
      case atStart => exact ⟨0, rfl, rfl, rfl, by omega, X3.out⟩
      case round =>
        obtain ⟨i, rfl, rfl, rfl, hi, hW⟩ := hrel
        have X4 : Hid (OS w1 wr B 0 (chL i)) := hW
        clear hW
        by_cases hlt : i < k
        · have q2 : (i : Int) < (k : Int) := by omega
          go_wp2_with fail
          refine (HNo.out 0 wr).mono ?_
          rintro e w5 ⟨rfl, rfl⟩
          go_wp2_with fail
          refine (HBn.out i _ (by omega) X4.out).mono ?_
          rintro e w6 ⟨rfl, h6⟩
          have X6 : Hid (OS w1 w6 B 0 (chL (i + 1))) := h6
          clear h6
          go_wp2_with fail
          go_roundg (gk - 1)
          case measure => omega
          case rel => exact ⟨i + 1, rfl, rfl, by simp, by omega, X6.out⟩
        · obtain rfl : i = k := by omega
          have q2 : ¬ (i : Int) < (i : Int) := by omega
          have HSz : Hid (∀ W, OS w1 W B 0 (chL i) → Calls Tryz.prog 10 #[.pointer (some ⟨B, 0, none⟩), .int .i64 ((i + 1 : Nat) : Int)] W fun e w' => e = .returned (.tuple #[.int .i64 ((i + 1 : Nat) : Int), .int .u64 ((chN (i + 1) : Nat) : Int), .int .i64 ((i + 1 : Nat) : Int), .int .i64 0]) ∧ Below W.heap.size W w') := fun W hW => by
            obtain ⟨f1, f2, f3⟩ := ch_facts i
            obtain ⟨B0, v, M1, M2, hs, -, -, -⟩ := hW
            have h7 := size_any B0 B 0 (chL i) v M1 M2 (i + 1) W hs (chL_par i) (by omega) (by rw [chL_len]; omega) f3
            rw [f1, f2] at h7
            exact h7
          go_wp2_with fail
          refine (HNo.out 0 wr).mono ?_
          rintro e w5 ⟨rfl, rfl⟩
          go_wp2_with fail
          refine (HNo.out 0 w5).mono ?_
          rintro e w6 ⟨rfl, rfl⟩
          by_cases h63 : i < 63
          · have q3 : (i : Int) < 63 := by omega
            go_wp2_with fail
            have HQ : Hid (IntKind.u64.wrap (IntKind.u64.wrap (2 ^ (i + 1)) - 1) = ((chN (i + 1) : Nat) : Int)) := want_eq i h63
            rw [HQ.out]
            generalize ((chN (i + 1) : Nat) : Int) = cn at *
            refine (HSz.out _ X4.out).mono ?_
            rintro e w7 ⟨rfl, hb7⟩
            have H7 : Hid (Below w.heap.size w w7) := (H1.out.trans (below_le' X4.out.below H1.out.size)).trans (below_le' hb7 (Nat.le_trans H1.out.size X4.out.below.size))
            clear hb7
            go_wp2_with fail
            refine (HNo.out 0 w7).mono ?_
            rintro e w8 ⟨rfl, rfl⟩
            go_wp2_with fail
            first
              | exact ⟨rfl, H7.out⟩
              | (go_ret; exact ⟨rfl, H7.out⟩)
          · have q3 : ¬ (i : Int) < 63 := by omega
            rw [ch_want2 i h63] at HSz
            go_wp2_with fail
            refine (HSz.out _ X4.out).mono ?_
            rintro e w7 ⟨rfl, hb7⟩
            have H7 : Hid (Below w.heap.size w w7) := (H1.out.trans (below_le' X4.out.below H1.out.size)).trans (below_le' hb7 (Nat.le_trans H1.out.size X4.out.below.size))
            clear hb7
            go_wp2_with fail
            refine (HNo.out 0 w7).mono ?_
            rintro e w8 ⟨rfl, rfl⟩
            go_wp2_with fail
            first
              | exact ⟨rfl, H7.out⟩
              | (go_ret; exact ⟨rfl, H7.out⟩)
end Go.Proofs.YtdgmilmhdcmbgaaGreatDoor
