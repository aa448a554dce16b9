import Derived.Test.YtfpmacnbfbcjgaaEJW
namespace Go.Proofs.Ytfpmacnbfbcjgaa
open Go.ChangeShapes Go.WideShapes Go.ChangeAt Go.RowKit
open Go.Pr
theorem ownsRow_take {w : World} {base : Nat} {e : TypeId} {size g cap n m : Nat} {xs : List Value} (hm : m ≤ n)
    (h : w.ownsRow base e size (.slice (some ⟨g, 0, none⟩) n cap) n xs) : w.ownsRow base e size (.slice (some ⟨g, 0, none⟩) m cap) m (xs.take (m * size)) := by
  obtain ⟨h1, h2⟩ := h
  rcases h2 with ⟨h0, _⟩ | ⟨g', cap', cur, hv, hg, hh, hn, hcap, hsz, htake⟩
  · cases h0
  · cases hv
    have hle : m * size ≤ n * size := Nat.mul_le_mul_right _ hm
    refine ⟨by rw [List.length_take, h1]; omega, .inr ⟨g, cap, cur, rfl, hg, hh, by omega, hcap, hsz, ?_⟩⟩
    rw [← htake, List.take_take, Nat.min_eq_left hle]
theorem Mem.nilRow {w : World} {g : Nat} {O : Nat → Prop} {S : ES} {p : Nat → Value} (h : Mem w g O S p) {i : Nat} (hi : used S i) {n c : Nat} (hp : p i = .slice none n c) : n = 0 ∧ c = 0 := by
  have h5 := h.row i hi
  rw [hp] at h5
  rcases h5.2 with ⟨e1, e2⟩ | ⟨g', cap, cur, e1, _⟩
  · injection e1 with _ h7 h8; exact ⟨h7, h8⟩
  · cases e1
theorem Mem.someRow {w : World} {g : Nat} {O : Nat → Prop} {S : ES} {p : Nat → Value} (h : Mem w g O S p) {i : Nat} (hi : used S i) {n c : Nat} {a : Addr} (hp : p i = .slice (some a) n c) : ∃ b, a = ⟨b, 0, none⟩ := by
  have h5 := h.row i hi
  rw [hp] at h5
  rcases h5.2 with ⟨e1, e2⟩ | ⟨g', cap, cur, e1, _⟩
  · cases e1
  · injection e1 with h7 _ _; injection h7 with h7; exact ⟨g', h7⟩
theorem watchers_mem {w : World} {g : Nat} {O : Nat → Prop} {S : ES} {p : Nat → Value} (h : Mem w g O S p) (hw : WF S) {l : Nat} (hl : l < 2 * S.n + 2) {al : Option Addr} {cx : Nat} (hpl : p (l + 12) = .slice al (S.watch l).length cx) (hm : (S.watch l).length ≤ 8388608) :
    Calls Try.prog 47 #[.pointer (some ⟨g, 0, none⟩), .int .i32 (l : Int)] w fun r w' => r = .returned (.slice al (S.watch l).length (S.watch l).length) ∧ w' = w := by
  have hnn := hw.n
  obtain ⟨b5, c5, ax, cx', hp5, hpx, hxc, kx, _, _⟩ := h.wats hw.wtl hl
  have e : ax = al ∧ cx' = cx := by rw [hpl] at hpx; injection hpx with h1 _ h3; exact ⟨h1.symm, h3.symm⟩
  obtain ⟨rfl, rfl⟩ := e
  have k5 : w.cell? ⟨g, 5, none⟩ = some (.slice (some ⟨b5, 0, none⟩) (2 * S.n + 2) c5) := (h.gcell 5).trans (congrArg some hp5)
  have hu : used S (l + 12) := by unfold used; have := hw.wtl; omega
  have hnil := fun (e : ax = none) => h.nilRow hu (n := (S.watch l).length) (c := cx') (by rw [hpl, e])
  have hsome := fun a (e : ax = some a) => h.someRow hu (n := (S.watch l).length) (c := cx') (a := a) (by rw [hpl, e])
  have q1 : (l : Int) < 2 * (S.n : Int) + 2 := by omega
  clear h hw hp5 hpx hpl hu
  generalize (S.watch l).length = m at *
  generalize S.n = n at *
  cases ax with
  | none =>
    obtain ⟨rfl, rfl⟩ := hnil rfl
    go_enter Try.func47, Try.ntmps47
    go_wp2
    go_ret
    exact ⟨rfl, rfl⟩
  | some a =>
    obtain ⟨b, rfl⟩ := hsome a rfl
    clear hnil hsome
    have q2 : (m : Int) ≤ (cx' : Int) := by omega
    go_enter Try.func47, Try.ntmps47
    go_wp2
    go_ret
    exact ⟨rfl, rfl⟩
theorem Done.drew {w w' : World} {g : Nat} {O : Nat → Prop} {S : ES} (h : Done w g O S w') : Done w g O S w'.drew := by
  obtain ⟨O2, p2, m2, r2⟩ := h
  exact ⟨O2, p2, m2.drew, r2.drew⟩
theorem visit_def (S : ES) (l : Nat) : S.visit l = (ES.sift l S (S.watch l) []).1.putW l (ES.sift l S (S.watch l) []).2 := rfl
set_option maxHeartbeats 4000000 in
theorem visit_mem {w : World} {g : Nat} {O : Nat → Prop} {S : ES} {p : Nat → Value} (h : Mem w g O S p) (hw : WF S) {l : Nat} (hl1 : 2 ≤ l) (hl : l < 2 * S.n + 2) (hv : S.val l = -1) (hW : ∀ x, (S.watch x).length ≤ 1048576) :
    Calls Try.prog 39 #[.pointer (some ⟨g, 0, none⟩), .int .i32 (l : Int)] w fun r w' => r = .returned (.tuple #[]) ∧ Done w g O (S.visit l) w' := by
  have hnn := hw.n
  have hu : used S (l + 12) := by unfold used; have := hw.wtl; omega
  obtain ⟨al, cx, hpl0, _⟩ := h.slice hu
  have hpl : p (l + 12) = .slice al (S.watch l).length cx := hpl0
  have hml := hW l
  have HWt : Hid (Calls Try.prog 47 #[.pointer (some ⟨g, 0, none⟩), .int .i32 (l : Int)] w fun r w' => r = .returned (.slice al (S.watch l).length (S.watch l).length) ∧ w' = w) := watchers_mem h hw hl hpl (by omega)
  have HSi : Hid (Calls Try.prog 46 #[.pointer (some ⟨g, 0, none⟩), .int .i32 (l : Int), .slice al (S.watch l).length (S.watch l).length] w fun r w' => ∃ junk O' p', r = .returned (.int .i64 ((ES.sift l S (S.watch l) []).2.length : Int)) ∧ ((ES.sift l S (S.watch l) []).2 ++ junk).length = (S.watch l).length ∧ Mem w' g O' ((ES.sift l S (S.watch l) []).1.putW l ((ES.sift l S (S.watch l) []).2 ++ junk)) p' ∧ Fr O w w' O' ∧ p' (l + 12) = p (l + 12)) := sift_mem h hw hl1 hl hv hpl (fun x => by have := hW x; omega)
  have hsw := sift_wf l (by omega) (S.watch l) S [] hw hl (fun e he => hw.watch_ok he) (fun e he => absurd he (by simp))
  have HV : Hid (S.visit l = (ES.sift l S (S.watch l) []).1.putW l (ES.sift l S (S.watch l) []).2) := visit_def S l
  have hn1 : (ES.sift l S (S.watch l) []).1.n = S.n := hsw.2.1.n
  have hwl1 : (ES.sift l S (S.watch l) []).1.wat.length = 2 * S.n + 2 := by rw [hsw.1.wtl, hn1]
  have HPL : Hid (p (l + 12) = .slice al (S.watch l).length cx) := hpl
  generalize hPP : (fun (r : Ending) (w' : World) => r = .returned (.tuple #[]) ∧ Done w g O (S.visit l) w') = PP
  have HPP : Hid (∀ w', Done w g O (S.visit l) w' → PP (.returned (.tuple #[])) w') := fun w' h => by rw [← hPP]; exact ⟨rfl, h⟩
  clear hPP hpl hpl0 hu hW hsw h hw hv
  generalize S.visit l = V at *
  generalize ES.sift l S (S.watch l) [] = P at *
  generalize (S.watch l).length = m at *
  have q1 : (l : Int) < 2 * (S.n : Int) + 2 := by omega
  go_enter Try.func39, Try.ntmps39
  go_wp2_with fail
  refine HWt.out.mono ?_
  rintro e w' ⟨rfl, hw'⟩
  obtain rfl := hw'.symm
  go_wp2_with fail
  refine HSi.out.mono ?_
  rintro e w1 ⟨junk, O', p', rfl, hlen, hM, hF, hp'⟩
  obtain ⟨b5, c5, ax, cx', hp5, hpx, hxc, kx, hrow, hfz⟩ := hM.wats (x := l) (by rw [putW_len, hwl1]; show _ = 2 * P.1.n + 2; rw [hn1]) (by show l < 2 * P.1.n + 2; rw [hn1]; exact hl)
  have hpn : (P.1.putW l (P.2 ++ junk)).n = S.n := hn1
  rw [hpn] at hp5
  have hws : (P.1.putW l (P.2 ++ junk)).watch l = P.2 ++ junk := putW_self (by rw [hwl1]; exact hl)
  rw [hws] at hpx hxc kx hrow
  have hle : P.2.length ≤ m := by rw [← hlen, List.length_append]; omega
  have hnil := fun (e : ax = none) => hM.nilRow (i := l + 12) (by unfold used; rw [putW_len, hwl1]; omega) (n := (P.2 ++ junk).length) (c := cx') (by rw [hpx, e])
  have hsome := fun a (e : ax = some a) => hM.someRow (i := l + 12) (by unfold used; rw [putW_len, hwl1]; omega) (n := (P.2 ++ junk).length) (c := cx') (a := a) (by rw [hpx, e])
  have k5 : w1.cell? ⟨g, 5, none⟩ = some (.slice (some ⟨b5, 0, none⟩) (2 * S.n + 2) c5) := (hM.gcell 5).trans (congrArg some hp5)
  have f5 := hfz l
  rw [hlen] at hnil kx hxc
  -- the row is cut
  have hcut : ∀ v, (v.ownBlock = (p' (l + 12)).ownBlock) → w1.ownsRow 0 87 2 v P.2.length (P.2.flatMap watF) → Done w g O V (w1.setCell ⟨b5, l, none⟩ v) := fun v hv hr => by
    obtain ⟨O2, m2, r2⟩ := hM.rewat (S' := V) (x := l) (by rw [putW_len, hwl1]; exact hl) (b5 := b5) (c5 := c5) (by rw [hp5, putW_len, hwl1]) (w1 := w1) ⟨rfl, rfl, rfl, Nat.le_refl _, fun _ _ _ => rfl⟩ v P.2.length (P.2.flatMap watF) hr (Or.inl hv) (by rw [HV.out]; rfl) (by rw [HV.out, putW_len, putW_len]) (by
      rw [HV.out]
      refine same_wat l rfl rfl rfl rfl (fun y hy => ?_) (by rw [putW_len, putW_len]) rfl rfl rfl
      rw [putW_ne hy, putW_ne hy]) (by
      show (V.watch l).length = _
      rw [HV.out, putW_self (by rw [hwl1]; exact hl)]) (by
      show (V.watch l).flatMap watF = _
      rw [HV.out, putW_self (by rw [hwl1]; exact hl)])
    exact ⟨O2, _, m2, hF.trans r2⟩
  have htk : (P.2 ++ junk).flatMap watF = P.2.flatMap watF ++ junk.flatMap watF := List.flatMap_append
  have hln : (P.2.flatMap watF).length = P.2.length * 2 := fm_len watF 2 (fun _ => rfl) _
  cases ax with
  | none =>
    obtain ⟨h1, rfl⟩ := hnil rfl
    have hz : P.2.length = 0 := by omega
    have HD : Hid (Done w g O V (w1.setCell ⟨b5, l, none⟩ (.slice none 0 0))) := hcut _ (by rw [hpx]; rfl) (by
      have e0 : P.2 = [] := List.eq_nil_of_length_eq_zero hz
      rw [e0]
      exact World.ownsRow_nil _ _ _ _)
    subst h1
    rw [hz]
    clear hcut hsome hnil hrow hM hpx hp5 hws hfz hF hp' htk hln
    go_wp2
    go_region
    all_goals
      go_wp2
      go_end0
      exact HPP.out _ HD.out.drew
  | some a =>
    obtain ⟨b, rfl⟩ := hsome a rfl
    have HD : Hid (Done w g O V (w1.setCell ⟨b5, l, none⟩ (.slice (some ⟨b, 0, none⟩) P.2.length cx'))) := hcut _ (by rw [hpx]; rfl) (by
      have hr2 := ownsRow_take (m := P.2.length) (by rw [List.length_append]; omega) hrow
      rw [htk, ← hln, List.take_left'] at hr2
      · exact hr2
      · rfl)
    clear hcut hsome hnil hrow hM hpx hp5 hws hfz hF hp' htk hln
    have q3 : (P.2.length : Int) ≤ (cx' : Int) := by omega
    generalize P.2.length = pl at *
    go_wp2
    go_region
    all_goals
      go_wp2
      go_end0
      exact HPP.out _ HD.out.drew
end Go.Proofs.Ytfpmacnbfbcjgaa
