import Derived.Test.YtmfdcemfdkdalaaDoorTmQ0
import Derived.Test.YtmfdcemfdkdalaaDoorTmP
import Derived.Test.YtmfdcemfdkdalaaDoorTmX
import Derived.Test.YtmfdcemfdkdalaaDoorTmL
namespace Go.Proofs.YtmfdcemfdkdalaaDoor
open Go.ChangeShapes Go.WideShapes Go.ChangeAt Go.RowKit Go.Lib Go.Tm Go.Bw Go.Bn Go.WideMaps Go.Maps Go.ChangeMaps

theorem pt_two (op : Int) : pt op = 2 ↔ (op < 1 ∨ (6 ≤ op ∧ op ≤ 13) ∨ (17 ≤ op ∧ op ≤ 30) ∨ 33 < op) := by
  unfold pt
  constructor
  · intro h
    repeat' split at h
    all_goals omega
  · intro h
    repeat' split
    all_goals omega
theorem also_mkc (B0 B : Nat) (lim : Int) (L : List Nd) (v : Value) (M1 M2 : Option Nat) (w : World) (h : SM 60 w B0 B lim L v M1 M2) (hM : M1 ≠ none) (hB0 : B0 ≤ w.heap.size) (hl : L.length < 1000000000000) : MkC 28 B w (RR 60 w B0 B lim L v M1 M2) := fun n W hn hb =>
  (rmake_any B0 B lim L v M1 M2 n W (h.below hb) hM (Nat.le_trans hB0 hb.size) hl hn).mono fun _ _ ⟨h1, h2⟩ => ⟨_, _, h1, rfl, rfl, h2.back hb⟩
set_option maxRecDepth 100000 in
theorem also_any (B0 B : Nat) (lim : Int) (L : List Nd) (v : Value) (M1 M2 : Option Nat) (o : OPR) (w : World) (h : SM 60 w B0 B lim L v M1 M2) (hM : M1 ≠ none) (hB0 : B0 ≤ w.heap.size) (hl : L.length < 1000000000000) (ho : o.ok) :
    Calls Tryd.prog 10 #[.pointer (some ⟨B, 0, none⟩), .agg (opC o).toArray] w (CallP 60 w B0 B lim L v M1 M2 o) := by
  have HM : ∀ W, Below w.heap.size w W → MkC 28 B W (RR 60 W B0 B lim L v M1 M2) := fun W hb => also_mkc B0 B lim L v M1 M2 W (h.below hb) hM (Nat.le_trans hB0 hb.size) hl
  obtain ⟨hk, hoo, ha, hbb, hc, hu, hx, hnm, hnn⟩ := ho
  obtain ⟨k, oo, a, b, c, u, t, x, nm, nn⟩ := o
  dsimp only at hk hoo ha hbb hc hu hx hnm hnn
  by_cases hk0 : k < 1 ∨ 9 < k
  · exact (also_no B k oo a b c u t x nm nn.op nn.w nn.a nn.b nn.c nn.num nn.name w hk0).mono fun _ _ h1 => CallP.of_else h hk0 h1
  have hkk : k = 1 ∨ k = 2 ∨ k = 3 ∨ k = 4 ∨ k = 5 ∨ k = 6 ∨ k = 7 ∨ k = 8 ∨ k = 9 := by omega
  clear hk0 hk
  rcases hkk with rfl | rfl | rfl | rfl | rfl | rfl | rfl | rfl | rfl
  · exact also_1 B oo a b c u t x nm nn.op nn.w nn.a nn.b nn.c nn.num nn.name w _ (fun W hb => (HM W hb nn W hnn (Below.refl _ _)).mono fun _ _ h1 => CallP.of_some (rfl) hb h1) CallP.tuple
  · cases t with
    | true => exact also_2 B oo a b c u true x nm nn.op nn.w nn.a nn.b nn.c nn.num nn.name w _ (fun W hb => (rtruth_t B W _ (HM W hb)).mono fun _ _ h1 => CallP.of_some (rfl) hb h1) CallP.tuple
    | false => exact also_2 B oo a b c u false x nm nn.op nn.w nn.a nn.b nn.c nn.num nn.name w _ (fun W hb => (rtruth_f B W _ (HM W hb)).mono fun _ _ h1 => CallP.of_some (rfl) hb h1) CallP.tuple
  · exact also_3 B oo a b c u t x nm nn.op nn.w nn.a nn.b nn.c nn.num nn.name w _ (fun W hb => (rconst_any B W _ u x hu (U_of hx) (trim_u u hx) (HM W hb)).mono fun _ _ h1 => CallP.of_some (rfl) hb h1) CallP.tuple
  · exact also_4 B oo a b c u t x nm nn.op nn.w nn.a nn.b nn.c nn.num nn.name w _ (fun W hb => (rvar_any B W _ nm u hu hnm (HM W hb)).mono fun _ _ h1 => CallP.of_some (rfl) hb h1) CallP.tuple
  · by_cases h5 : oo = 5
    · subst h5
      exact also_5 B 5 a b c u t x nm nn.op nn.w nn.a nn.b nn.c nn.num nn.name w _ (fun W hb => (run_5 B W _ a ha 60 B0 lim L v M1 M2 (h.below hb) (HM W hb)).mono fun _ _ h1 => CallP.of_some (by unfold nodeOf; rfl) hb h1) CallP.tuple
    by_cases h15 : oo = 15
    · subst h15
      exact also_5 B 15 a b c u t x nm nn.op nn.w nn.a nn.b nn.c nn.num nn.name w _ (fun W hb => (run_15 B W _ a ha 60 B0 lim L v M1 M2 (h.below hb) (HM W hb)).mono fun _ _ h1 => CallP.of_some (by unfold nodeOf; rfl) hb h1) CallP.tuple
    by_cases h16 : oo = 16
    · subst h16
      exact also_5 B 16 a b c u t x nm nn.op nn.w nn.a nn.b nn.c nn.num nn.name w _ (fun W hb => (run_16 B W _ a ha 60 B0 lim L v M1 M2 (h.below hb) (HM W hb)).mono fun _ _ h1 => CallP.of_some (by unfold nodeOf; rfl) hb h1) CallP.tuple
    have hno : nodeOf L ⟨5, oo, a, b, c, u, t, x, nm, nn⟩ = none := by
      unfold nodeOf
      rw [if_neg (by dsimp only; omega), if_neg (by dsimp only; omega), if_neg (by dsimp only; omega), if_neg (by dsimp only; omega), if_pos rfl]
      exact if_neg (by dsimp only; omega)
    exact also_5 B oo a b c u t x nm nn.op nn.w nn.a nn.b nn.c nn.num nn.name w _ (fun W hb => (run_no B W _ oo a h5 h15 h16 (HM W hb)).mono fun _ _ h1 => CallP.of_none h (by dsimp only; omega) (hno) hb h1) CallP.tuple
  · have hyes : pt oo = 2 → nodeOf L ⟨6, oo, a, b, c, u, t, x, nm, nn⟩ = some ⟨oo, mw oo (wd L a) (wd L b), a, b, 0, 0, ByteArray.empty⟩ := fun hp => by
      unfold nodeOf
      rw [if_neg (by dsimp only; omega), if_neg (by dsimp only; omega), if_neg (by dsimp only; omega), if_neg (by dsimp only; omega), if_neg (by dsimp only; omega), if_pos rfl]
      exact if_pos hp
    have hno : pt oo ≠ 2 → nodeOf L ⟨6, oo, a, b, c, u, t, x, nm, nn⟩ = none := fun hp => by
      unfold nodeOf
      rw [if_neg (by dsimp only; omega), if_neg (by dsimp only; omega), if_neg (by dsimp only; omega), if_neg (by dsimp only; omega), if_neg (by dsimp only; omega), if_pos rfl]
      exact if_neg hp
    have hpt := pt_two oo
    by_cases h6 : oo < 6
    · by_cases h1 : oo < 1
      · exact also_6 B oo a b c u t x nm nn.op nn.w nn.a nn.b nn.c nn.num nn.name w _ (fun W hb => (rbin_no1 B W _ oo a b h6 (HM W hb)).mono fun _ _ h1 => CallP.of_bad (n := ⟨oo, mw oo (wd L a) (wd L b), a, b, 0, 0, ByteArray.empty⟩) h (hyes (hpt.2 (by omega))) (by dsimp only; omega) hb h1) CallP.tuple
      · exact also_6 B oo a b c u t x nm nn.op nn.w nn.a nn.b nn.c nn.num nn.name w _ (fun W hb => (rbin_no1 B W _ oo a b h6 (HM W hb)).mono fun _ _ h1 => CallP.of_none h (by dsimp only; omega) (hno (fun e => by have := hpt.1 e; omega)) hb h1) CallP.tuple
    by_cases h13 : oo ≤ 13
    · exact also_6 B oo a b c u t x nm nn.op nn.w nn.a nn.b nn.c nn.num nn.name w _ (fun W hb => (rbin_lo B W _ oo a b hoo ha hbb (by omega) h13 60 B0 lim L v M1 M2 (h.below hb) (HM W hb)).mono fun _ _ h1 => CallP.of_some (hyes (hpt.2 (by omega))) hb h1) CallP.tuple
    by_cases h16 : oo ≤ 16
    · exact also_6 B oo a b c u t x nm nn.op nn.w nn.a nn.b nn.c nn.num nn.name w _ (fun W hb => (rbin_no2 B W _ oo a b (by omega) h16 (HM W hb)).mono fun _ _ h1 => CallP.of_none h (by dsimp only; omega) (hno (fun e => by have := hpt.1 e; omega)) hb h1) CallP.tuple
    by_cases h29 : oo ≤ 29
    · exact also_6 B oo a b c u t x nm nn.op nn.w nn.a nn.b nn.c nn.num nn.name w _ (fun W hb => (rbin_hi B W _ oo a b hoo ha hbb (by omega) h29 60 B0 lim L v M1 M2 (h.below hb) (HM W hb)).mono fun _ _ h1 => CallP.of_some (hyes (hpt.2 (by omega))) hb h1) CallP.tuple
    by_cases h30 : oo = 30
    · subst h30
      by_cases hw : wd L a + wd L b ≤ 64
      · exact also_6 B 30 a b c u t x nm nn.op nn.w nn.a nn.b nn.c nn.num nn.name w _ (fun W hb => (rbin_30a B W _ a b ha hbb 60 B0 lim L v M1 M2 (h.below hb) hw (HM W hb)).mono fun _ _ h1 => CallP.of_some (hyes (hpt.2 (by omega))) hb h1) CallP.tuple
      · exact also_6 B 30 a b c u t x nm nn.op nn.w nn.a nn.b nn.c nn.num nn.name w _ (fun W hb => (rbin_30b B W _ a b ha hbb 60 B0 lim L v M1 M2 (h.below hb) hw (HM W hb)).mono fun _ _ h1 => CallP.of_some (hyes (hpt.2 (by omega))) hb h1) CallP.tuple
    by_cases h33 : 33 < oo
    · exact also_6 B oo a b c u t x nm nn.op nn.w nn.a nn.b nn.c nn.num nn.name w _ (fun W hb => (rbin_no3 B W _ oo a b (by omega) (HM W hb)).mono fun _ _ h1 => CallP.of_bad (n := ⟨oo, mw oo (wd L a) (wd L b), a, b, 0, 0, ByteArray.empty⟩) h (hyes (hpt.2 (by omega))) (by dsimp only; omega) hb h1) CallP.tuple
    · exact also_6 B oo a b c u t x nm nn.op nn.w nn.a nn.b nn.c nn.num nn.name w _ (fun W hb => (rbin_no3 B W _ oo a b (by omega) (HM W hb)).mono fun _ _ h1 => CallP.of_none h (by dsimp only; omega) (hno (fun e => by have := hpt.1 e; omega)) hb h1) CallP.tuple
  · exact also_7 B oo a b c u t x nm nn.op nn.w nn.a nn.b nn.c nn.num nn.name w _ (fun W hb => (rite_any B W _ a b c ha hbb hc 60 B0 lim L v M1 M2 (h.below hb) (HM W hb)).mono fun _ _ h1 => CallP.of_some (by unfold nodeOf; rfl) hb h1) CallP.tuple
  · exact also_8 B oo a b c u t x nm nn.op nn.w nn.a nn.b nn.c nn.num nn.name w _ (fun W hb => (rslice_any B W _ a b c ha hc (wrap_u b) (HM W hb)).mono fun _ _ h1 => CallP.of_some (by unfold nodeOf; rfl) hb h1) CallP.tuple
  · by_cases h32 : oo = 32
    · subst h32
      exact also_9 B 32 a b c u t x nm nn.op nn.w nn.a nn.b nn.c nn.num nn.name w _ (fun W hb => (rext_32 B W _ a u ha hu (HM W hb)).mono fun _ _ h1 => CallP.of_some (by unfold nodeOf; rfl) hb h1) CallP.tuple
    by_cases h33 : oo = 33
    · subst h33
      exact also_9 B 33 a b c u t x nm nn.op nn.w nn.a nn.b nn.c nn.num nn.name w _ (fun W hb => (rext_33 B W _ a u ha hu (HM W hb)).mono fun _ _ h1 => CallP.of_some (by unfold nodeOf; rfl) hb h1) CallP.tuple
    have hno : nodeOf L ⟨9, oo, a, b, c, u, t, x, nm, nn⟩ = none := by
      unfold nodeOf
      rw [if_neg (by dsimp only; omega), if_neg (by dsimp only; omega), if_neg (by dsimp only; omega), if_neg (by dsimp only; omega), if_neg (by dsimp only; omega), if_neg (by dsimp only; omega), if_neg (by dsimp only; omega), if_neg (by dsimp only; omega), if_pos rfl]
      exact if_neg (by dsimp only; omega)
    exact also_9 B oo a b c u t x nm nn.op nn.w nn.a nn.b nn.c nn.num nn.name w _ (fun W hb => (rext_no B W _ oo a u h32 h33 (HM W hb)).mono fun _ _ h1 => CallP.of_none h (by dsimp only; omega) (hno) hb h1) CallP.tuple
end Go.Proofs.YtmfdcemfdkdalaaDoor
