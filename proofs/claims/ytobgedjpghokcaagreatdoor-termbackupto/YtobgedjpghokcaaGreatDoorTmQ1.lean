import Derived.Test.YtobgedjpghokcaaGreatDoorTmQ0
import Derived.Test.YtobgedjpghokcaaGreatDoorTmP
import Derived.Test.YtobgedjpghokcaaGreatDoorTmX
import Derived.Test.YtobgedjpghokcaaGreatDoorTmJ
namespace Go.Proofs.YtobgedjpghokcaaGreatDoor
open Go.ChangeShapes Go.WideShapes Go.ChangeAt Go.RowKit Go.Lib Go.Tm Go.Bw Go.Bn Go.WideMaps Go.Maps Go.ChangeMaps

theorem ask_mkc (B0 B : Nat) (lim : Int) (L : List Nd) (v : Value) (M1 M2 : Option Nat) (w : World) (h : SM 60 w B0 B lim L v M1 M2) (hB0 : B0 ≤ w.heap.size) (hl : L.length < 1000000000000) : MkC 13 B w (RR 60 w B0 B lim L v M1 M2) := fun n W hn hb =>
  (make_any B0 B lim L v M1 M2 n W (h.below hb) (Nat.le_trans hB0 hb.size) hl hn).mono fun _ _ ⟨h1, h2⟩ => ⟨_, _, h1, rfl, rfl, h2.back hb⟩
set_option maxRecDepth 100000 in
theorem ask_any (B0 B : Nat) (lim : Int) (L : List Nd) (v : Value) (M1 M2 : Option Nat) (o : OPR) (w : World) (h : SM 60 w B0 B lim L v M1 M2) (hB0 : B0 ≤ w.heap.size) (hl : L.length < 1000000000000) (ho : o.ok) :
    Calls Tryz.prog 5 #[.pointer (some ⟨B, 0, none⟩), .agg (opC o).toArray] w (CallP 60 w B0 B lim L v M1 M2 o) := by
  have HM : ∀ W, Below w.heap.size w W → MkC 13 B W (RR 60 W B0 B lim L v M1 M2) := fun W hb => ask_mkc B0 B lim L v M1 M2 W (h.below hb) (Nat.le_trans hB0 hb.size) hl
  obtain ⟨hk, hoo, ha, hbb, hc, hu, hx, hnm, hnn⟩ := ho
  obtain ⟨k, oo, a, b, c, u, t, x, nm, nn⟩ := o
  dsimp only at hk hoo ha hbb hc hu hx hnm hnn
  by_cases hk0 : k < 1 ∨ 9 < k
  · exact (ask_no B k oo a b c u t x nm nn.op nn.w nn.a nn.b nn.c nn.num nn.name w hk0).mono fun _ _ h1 => CallP.of_else h hk0 h1
  have hkk : k = 1 ∨ k = 2 ∨ k = 3 ∨ k = 4 ∨ k = 5 ∨ k = 6 ∨ k = 7 ∨ k = 8 ∨ k = 9 := by omega
  clear hk0 hk
  rcases hkk with rfl | rfl | rfl | rfl | rfl | rfl | rfl | rfl | rfl
  · exact ask_1 B oo a b c u t x nm nn.op nn.w nn.a nn.b nn.c nn.num nn.name w _ (fun W hb => (HM W hb nn W hnn (Below.refl _ _)).mono fun _ _ h1 => CallP.of_some (rfl) hb h1) CallP.tuple
  · cases t with
    | true => exact ask_2 B oo a b c u true x nm nn.op nn.w nn.a nn.b nn.c nn.num nn.name w _ (fun W hb => (truth_t B W _ (HM W hb)).mono fun _ _ h1 => CallP.of_some (rfl) hb h1) CallP.tuple
    | false => exact ask_2 B oo a b c u false x nm nn.op nn.w nn.a nn.b nn.c nn.num nn.name w _ (fun W hb => (truth_f B W _ (HM W hb)).mono fun _ _ h1 => CallP.of_some (rfl) hb h1) CallP.tuple
  · exact ask_3 B oo a b c u t x nm nn.op nn.w nn.a nn.b nn.c nn.num nn.name w _ (fun W hb => (const_any B W _ u x hu (U_of hx) (trim_u u hx) (HM W hb)).mono fun _ _ h1 => CallP.of_some (rfl) hb h1) CallP.tuple
  · exact ask_4 B oo a b c u t x nm nn.op nn.w nn.a nn.b nn.c nn.num nn.name w _ (fun W hb => (var_any B W _ nm u hu hnm (HM W hb)).mono fun _ _ h1 => CallP.of_some (rfl) hb h1) CallP.tuple
  · by_cases h5 : oo = 5
    · subst h5
      exact ask_5 B 5 a b c u t x nm nn.op nn.w nn.a nn.b nn.c nn.num nn.name w _ (fun W hb => (un_5 B W _ a ha 60 B0 lim L v M1 M2 (h.below hb) (HM W hb)).mono fun _ _ h1 => CallP.of_some (by unfold nodeOf; rfl) hb h1) CallP.tuple
    by_cases h15 : oo = 15
    · subst h15
      exact ask_5 B 15 a b c u t x nm nn.op nn.w nn.a nn.b nn.c nn.num nn.name w _ (fun W hb => (un_15 B W _ a ha 60 B0 lim L v M1 M2 (h.below hb) (HM W hb)).mono fun _ _ h1 => CallP.of_some (by unfold nodeOf; rfl) hb h1) CallP.tuple
    by_cases h16 : oo = 16
    · subst h16
      exact ask_5 B 16 a b c u t x nm nn.op nn.w nn.a nn.b nn.c nn.num nn.name w _ (fun W hb => (un_16 B W _ a ha 60 B0 lim L v M1 M2 (h.below hb) (HM W hb)).mono fun _ _ h1 => CallP.of_some (by unfold nodeOf; rfl) hb h1) CallP.tuple
    have hno : nodeOf L ⟨5, oo, a, b, c, u, t, x, nm, nn⟩ = none := by
      unfold nodeOf
      rw [if_neg (by dsimp only; omega), if_neg (by dsimp only; omega), if_neg (by dsimp only; omega), if_neg (by dsimp only; omega), if_pos rfl]
      exact if_neg (by dsimp only; omega)
    exact ask_5 B oo a b c u t x nm nn.op nn.w nn.a nn.b nn.c nn.num nn.name w _ (fun W hb => (un_no B W _ oo a h5 h15 h16 (HM W hb)).mono fun _ _ h1 => CallP.of_none h (by dsimp only; omega) (hno) hb h1) CallP.tuple
  · have hyes : pt oo = 2 → nodeOf L ⟨6, oo, a, b, c, u, t, x, nm, nn⟩ = some ⟨oo, mw oo (wd L a) (wd L b), a, b, 0, 0, ByteArray.empty⟩ := fun hp => by
      unfold nodeOf
      rw [if_neg (by dsimp only; omega), if_neg (by dsimp only; omega), if_neg (by dsimp only; omega), if_neg (by dsimp only; omega), if_neg (by dsimp only; omega), if_pos rfl]
      exact if_pos hp
    have hno : pt oo ≠ 2 → nodeOf L ⟨6, oo, a, b, c, u, t, x, nm, nn⟩ = none := fun hp => by
      unfold nodeOf
      rw [if_neg (by dsimp only; omega), if_neg (by dsimp only; omega), if_neg (by dsimp only; omega), if_neg (by dsimp only; omega), if_neg (by dsimp only; omega), if_pos rfl]
      exact if_neg hp
    by_cases hp2 : pt oo = 2
    · exact ask_6 B oo a b c u t x nm nn.op nn.w nn.a nn.b nn.c nn.num nn.name w _ (fun W hb => (bin_any B W _ oo a b hoo ha hbb hp2 60 B0 lim L v M1 M2 (h.below hb) (HM W hb)).mono fun _ _ h1 => CallP.of_some (hyes hp2) hb h1) CallP.tuple
    · exact ask_6 B oo a b c u t x nm nn.op nn.w nn.a nn.b nn.c nn.num nn.name w _ (fun W hb => (bin_no B W _ oo a b hp2 (HM W hb)).mono fun _ _ h1 => CallP.of_none h (by dsimp only; omega) (hno hp2) hb h1) CallP.tuple
  · exact ask_7 B oo a b c u t x nm nn.op nn.w nn.a nn.b nn.c nn.num nn.name w _ (fun W hb => (ite_any B W _ a b c ha hbb hc 60 B0 lim L v M1 M2 (h.below hb) (HM W hb)).mono fun _ _ h1 => CallP.of_some (by unfold nodeOf; rfl) hb h1) CallP.tuple
  · exact ask_8 B oo a b c u t x nm nn.op nn.w nn.a nn.b nn.c nn.num nn.name w _ (fun W hb => (slice_any B W _ a b c ha hc (wrap_u b) (HM W hb)).mono fun _ _ h1 => CallP.of_some (by unfold nodeOf; rfl) hb h1) CallP.tuple
  · by_cases h32 : oo = 32
    · subst h32
      exact ask_9 B 32 a b c u t x nm nn.op nn.w nn.a nn.b nn.c nn.num nn.name w _ (fun W hb => (ext_32 B W _ a u ha hu (HM W hb)).mono fun _ _ h1 => CallP.of_some (by unfold nodeOf; rfl) hb h1) CallP.tuple
    by_cases h33 : oo = 33
    · subst h33
      exact ask_9 B 33 a b c u t x nm nn.op nn.w nn.a nn.b nn.c nn.num nn.name w _ (fun W hb => (ext_33 B W _ a u ha hu (HM W hb)).mono fun _ _ h1 => CallP.of_some (by unfold nodeOf; rfl) hb h1) CallP.tuple
    have hno : nodeOf L ⟨9, oo, a, b, c, u, t, x, nm, nn⟩ = none := by
      unfold nodeOf
      rw [if_neg (by dsimp only; omega), if_neg (by dsimp only; omega), if_neg (by dsimp only; omega), if_neg (by dsimp only; omega), if_neg (by dsimp only; omega), if_neg (by dsimp only; omega), if_neg (by dsimp only; omega), if_neg (by dsimp only; omega), if_pos rfl]
      exact if_neg (by dsimp only; omega)
    exact ask_9 B oo a b c u t x nm nn.op nn.w nn.a nn.b nn.c nn.num nn.name w _ (fun W hb => (ext_no B W _ oo a u h32 h33 (HM W hb)).mono fun _ _ h1 => CallP.of_none h (by dsimp only; omega) (hno) hb h1) CallP.tuple
end Go.Proofs.YtobgedjpghokcaaGreatDoor
