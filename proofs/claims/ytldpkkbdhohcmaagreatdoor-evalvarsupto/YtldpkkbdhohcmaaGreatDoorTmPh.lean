import Derived.Test.YtldpkkbdhohcmaaGreatDoorTmPg
namespace Go.Proofs.YtldpkkbdhohcmaaGreatDoor
open Go.ChangeShapes Go.WideShapes Go.ChangeAt Go.RowKit Go.Lib Go.Tm Go.Bw Go.Bn Go.WideMaps Go.Maps Go.ChangeMaps

set_option maxHeartbeats 4000000 in
set_option maxRecDepth 100000 in
theorem rorder_no (B0 B : Nat) (lim : Int) (L : List Nd) (v : Value) (M1 M2 : Option Nat) {ad : Option Addr} {cp : Nat} {xs : List Int} (w : World) (hS : SM 69 w B0 B lim L v M1 M2) (h : IR w ad xs) (hl : xs.length < 1000000000000000) (hr : ∃ x ∈ xs,isT L x = false) :
    Calls Tryz.prog 21 #[.pointer (some ⟨B,0,none⟩),.slice ad xs.length cp] w fun e w' => e = .returned (.tuple #[.slice none 0 0,.int .i64 70]) /\ w' = w := by
  generalize hPP : (fun (e : Ending) (w' : World) => e = .returned (.tuple #[.slice none 0 0,.int .i64 70]) /\ w' = w) = PP
  have HPP : Hid (PP (.returned (.tuple #[.slice none 0 0,.int .i64 70])) w) := by rw [<- hPP]; exact ⟨rfl,rfl⟩
  clear hPP; obtain ⟨k,hk⟩ : ∃ k,xs.length = k := ⟨_,rfl⟩; have HK : Hid (xs.length = k) := hk; have HI : Hid (IR w ad xs) := h; have HR : Hid (∃ j,j < k /\ isT L (xs.getD j 0) = false) := by
    obtain ⟨x,hx,hx2⟩ := hr; obtain ⟨j,hj,e⟩ := List.getElem_of_mem hx; exact ⟨j,by omega,by rw [getD_of _ _ _ hj,e]; exact hx2⟩
  have HH : Hid (∀ W t,W = w -> Calls Tryz.prog 45 #[.pointer (some ⟨B,0,none⟩),.int .i64 t] W fun e w' => e = .returned (.bool (isT L t)) /\ w' = W) := fun W t hW => by
    subst hW; exact is_any 69 B0 B lim L v M1 M2 t _ hS
  rw [hk] at hl ⊢; clear hk h hr
  go_enter Tryz.func21,Tryz.ntmps21
  go_wp2_with fail
  go_loopg [6] k (fun gk s6 wr => ∃ i : Nat,s6 = .int .i64 (i : Int) /\ i + gk = k /\ Aside (wr = w /\ ∃ j,i <= j /\ j < k /\ isT L (xs.getD j 0) = false))
  case atStart => exact ⟨0,rfl,by omega,rfl,by obtain ⟨j,h1,h2⟩ := HR.out; exact ⟨j,by omega,h1,h2⟩⟩
  case round =>
    obtain ⟨i,rfl,hi,HJ⟩ := hrel; have hlt : i < k := by obtain ⟨j,h1,h2,h3⟩ := HJ.out.2; omega
    obtain ⟨b,o,rfl,hbl,hc⟩ := HI.out (by rw [HK.out]; omega); have c1 : wr.cell? ⟨b,o + i,none⟩ = some (.int .i64 (xs.getD i 0)) := by rw [HJ.out.1]; exact hc i (by rw [HK.out]; exact hlt)
    have q1 : (i : Int) < (k : Int) := by omega
    cases hT : isT L (xs.getD i 0) with
    | true =>
      have HN : Aside (wr = w /\ ∃ j,i + 1 <= j /\ j < k /\ isT L (xs.getD j 0) = false) := ⟨HJ.out.1,by
        obtain ⟨j,h1,h2,h3⟩ := HJ.out.2; refine ⟨j,?_,h2,h3⟩
        by_cases e : j = i
        · subst e; rw [hT] at h3; cases h3
        omega⟩
      have HH1 : Hid (Calls Tryz.prog 45 #[.pointer (some ⟨B,0,none⟩),.int .i64 (xs.getD i 0)] wr fun e w' => e = .returned (.bool true) /\ w' = wr) := by
        have h7 := HH.out wr (xs.getD i 0) HJ.out.1; rw [hT] at h7; exact h7
      clear HJ
      generalize xs.getD i 0 = x at c1 HH1 hT
      clear hc
      go_wp2_with (go_at_call 45; refine HH1.out.mono ?_; rintro e w' ⟨rfl,hw⟩; obtain rfl := hw.symm)
      go_roundg (gk - 1)
      case measure => omega
      case rel => exact ⟨i + 1,by simp,by omega,HN⟩
    | false =>
      have HH1 : Hid (Calls Tryz.prog 45 #[.pointer (some ⟨B,0,none⟩),.int .i64 (xs.getD i 0)] wr fun e w' => e = .returned (.bool false) /\ w' = wr) := by
        have h7 := HH.out wr (xs.getD i 0) HJ.out.1; rw [hT] at h7; exact h7
      have HE : Hid (PP (.returned (.tuple #[.slice none 0 0,.int .i64 70])) wr) := by
        show PP _ _
        rw [HJ.out.1]; exact HPP.out
      clear HJ
      generalize xs.getD i 0 = x at c1 HH1 hT
      clear hc
      go_wp2_with (go_at_call 45; refine HH1.out.mono ?_; rintro e w' ⟨rfl,hw⟩; obtain rfl := hw.symm)
      first | exact HE.out | (go_ret2; exact HE.out)
end Go.Proofs.YtldpkkbdhohcmaaGreatDoor
