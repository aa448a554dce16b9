import Derived.Test.YtfpmacnbfbcjgaaEQ
import Derived.BigQuiet
import Derived.ArgAppend
import Derived.Deep.DeepCutAuto
namespace Go.Proofs.Ytfpmacnbfbcjgaa
open Go.ChangeShapes Go.WideShapes Go.ChangeAt Go.RowKit
open Go.Pr
theorem undone_step {ts : List TK} {m d : Nat} (h : m < (ts.getD d tk0).lv) : ES.undone ts m (d + 1) = ES.undone ts m d := by
  rw [ES.undone, if_pos h]
theorem undone_stop {ts : List TK} {m d : Nat} (h : ¬ m < (ts.getD d tk0).lv) : ES.undone ts m (d + 1) = d + 1 := by
  rw [ES.undone, if_neg h]
theorem drewN_drewN (w : World) (a b : Nat) : (w.drewN a).drewN b = w.drewN (a + b) := by simp
/-- tasks as they stand in memory while they are sifted -/
def laidT (kept orig : List TK) : List TK := kept ++ orig.drop kept.length
theorem Mem.putTask {w : World} {g : Nat} {O : Nat → Prop} {S : ES} {p : Nat → Value} (h : Mem w g O S p) {b c k : Nat} (hp : p 9 = .slice (some ⟨b, 0, none⟩) S.tasks.length c) (hk : k < S.tasks.length) (t : TK) :
    Mem (w.setCells b (k * 4) (tkF t)) g O { S with tasks := S.tasks.set k t } p ∧ Fr O w (w.setCells b (k * 4) (tkF t)) O := by
  have u9 : ∀ T : ES, used T 9 := fun T => by unfold used; omega
  obtain ⟨e, he⟩ : ∃ e, S.tasks[k] = e := ⟨_, rfl⟩
  obtain ⟨m1, r1⟩ := h.store (S' := { S with tasks := S.tasks.set k ⟨t.cl, e.lit, e.since, e.lv⟩ }) (i := 9) (u9 _) hp (k * 4 + 0) (.int .i32 (clI t.cl)) rfl rfl (same_of 9 (Or.inr rfl) (Or.inr rfl) (Or.inr rfl) (Or.inr rfl) rfl (Or.inr rfl) (Or.inr rfl) (Or.inl rfl)) (by show (S.tasks.set _ _).length = S.tasks.length; rw [List.length_set]) (fm_set tkF 4 (fun _ => rfl) 0 _ _ (by omega) S.tasks k hk (by rw [he]; rfl))
  have hp1 : p 9 = .slice (some ⟨b, 0, none⟩) (nR { S with tasks := S.tasks.set k ⟨t.cl, e.lit, e.since, e.lv⟩ } 9) c := by rw [hp]; show _ = Value.slice _ (S.tasks.set _ _).length _; rw [List.length_set]
  obtain ⟨m2, r2⟩ := m1.store (S' := { S with tasks := S.tasks.set k ⟨t.cl, t.lit, e.since, e.lv⟩ }) (i := 9) (u9 _) hp1 (k * 4 + 1) (.int .i32 (t.lit : Int)) rfl rfl (same_of 9 (Or.inr rfl) (Or.inr rfl) (Or.inr rfl) (Or.inr rfl) rfl (Or.inr rfl) (Or.inr rfl) (Or.inl rfl)) (by show (S.tasks.set _ _).length = (S.tasks.set _ _).length; rw [List.length_set, List.length_set]) (by
    have e2 := fm_set tkF 4 (fun _ => rfl) 1 (.int .i32 (t.lit : Int)) ⟨t.cl, t.lit, e.since, e.lv⟩ (by omega) (S.tasks.set k ⟨t.cl, e.lit, e.since, e.lv⟩) k (by rw [List.length_set]; exact hk) (by rw [List.getElem_set_self]; rfl)
    rw [List.set_set] at e2
    exact e2)
  have hp2 : p 9 = .slice (some ⟨b, 0, none⟩) (nR { S with tasks := S.tasks.set k ⟨t.cl, t.lit, e.since, e.lv⟩ } 9) c := by rw [hp]; show _ = Value.slice _ (S.tasks.set _ _).length _; rw [List.length_set]
  obtain ⟨m3, r3⟩ := m2.store (S' := { S with tasks := S.tasks.set k ⟨t.cl, t.lit, t.since, e.lv⟩ }) (i := 9) (u9 _) hp2 (k * 4 + 2) (.int .i32 (t.since : Int)) rfl rfl (same_of 9 (Or.inr rfl) (Or.inr rfl) (Or.inr rfl) (Or.inr rfl) rfl (Or.inr rfl) (Or.inr rfl) (Or.inl rfl)) (by show (S.tasks.set _ _).length = (S.tasks.set _ _).length; rw [List.length_set, List.length_set]) (by
    have e2 := fm_set tkF 4 (fun _ => rfl) 2 (.int .i32 (t.since : Int)) ⟨t.cl, t.lit, t.since, e.lv⟩ (by omega) (S.tasks.set k ⟨t.cl, t.lit, e.since, e.lv⟩) k (by rw [List.length_set]; exact hk) (by rw [List.getElem_set_self]; rfl)
    rw [List.set_set] at e2
    exact e2)
  have hp3 : p 9 = .slice (some ⟨b, 0, none⟩) (nR { S with tasks := S.tasks.set k ⟨t.cl, t.lit, t.since, e.lv⟩ } 9) c := by rw [hp]; show _ = Value.slice _ (S.tasks.set _ _).length _; rw [List.length_set]
  obtain ⟨m4, r4⟩ := m3.store (S' := { S with tasks := S.tasks.set k t }) (i := 9) (u9 _) hp3 (k * 4 + 3) (.int .i32 (t.lv : Int)) rfl rfl (same_of 9 (Or.inr rfl) (Or.inr rfl) (Or.inr rfl) (Or.inr rfl) rfl (Or.inr rfl) (Or.inr rfl) (Or.inl rfl)) (by show (S.tasks.set _ _).length = (S.tasks.set _ _).length; rw [List.length_set, List.length_set]) (by
    have e2 := fm_set tkF 4 (fun _ => rfl) 3 (.int .i32 (t.lv : Int)) t (by omega) (S.tasks.set k ⟨t.cl, t.lit, t.since, e.lv⟩) k (by rw [List.length_set]; exact hk) (by rw [List.getElem_set_self]; rfl)
    rw [List.set_set] at e2
    exact e2)
  exact ⟨m4, ((r1.trans r2).trans r3).trans r4⟩
theorem laidT_set {kept orig : List TK} (e : TK) (h : kept.length < orig.length) : (laidT kept orig).set kept.length e = laidT (kept ++ [e]) orig := by
  unfold laidT
  rw [List.set_append_right _ _ (Nat.le_refl _), Nat.sub_self, List.drop_eq_getElem_cons h, List.set_cons_zero]
  simp
set_option maxHeartbeats 4000000 in
theorem undo_mem {w : World} {g : Nat} {O : Nat → Prop} {S : ES} {p : Nat → Value} (h : Mem w g O S p) (hd : S.done ≤ S.tasks.length) (hT : S.tasks.length ≤ 8388608) {m : Nat} (_hm : m ≤ 1048576) :
    Calls Try.prog 33 #[.pointer (some ⟨g, 0, none⟩), .int .i32 (m : Int)] w fun r w' => r = .returned (.tuple #[]) ∧ Done w g O { S with done := ES.undone S.tasks m S.done, tasks := S.tasks.take (ES.undone S.tasks m S.done) ++ (S.tasks.drop (ES.undone S.tasks m S.done)).filter fun t => decide (t.since ≤ m) } w' := by
  obtain ⟨U, hU⟩ : ∃ U, ES.undone S.tasks m S.done = U := ⟨_, rfl⟩
  rw [hU]
  have HU : Hid (ES.undone S.tasks m S.done = U) := hU
  have HM0 : Hid (Mem w g O S p) := h
  generalize hPP : (fun (r : Ending) (w' : World) => r = .returned (.tuple #[]) ∧ Done w g O { S with done := U, tasks := S.tasks.take U ++ (S.tasks.drop U).filter fun t => decide (t.since ≤ m) } w') = PP
  have HPP : Hid (∀ w', Done w g O { S with done := U, tasks := S.tasks.take U ++ (S.tasks.drop U).filter fun t => decide (t.since ≤ m) } w' → PP (.returned (.tuple #[])) w') := fun w' h => by rw [← hPP]; exact ⟨rfl, h⟩
  clear hPP hU h
  go_enter Try.func33, Try.ntmps33
  go_wp2
  go_loopg [] S.done (fun gk wr => gk ≤ S.done ∧ Aside (ES.undone S.tasks m gk = U ∧ Mem wr g O { S with done := gk } p ∧ Fr O w wr O))
  case atStart => exact ⟨Nat.le_refl _, HU.out, HM0.out, Fr.refl O w⟩
  case round =>
    obtain ⟨hgk, HA⟩ := hrel
    obtain ⟨hu, hM, hF⟩ := HA.out
    have k10 : wr.cell? ⟨g, 10, none⟩ = some (.int .i64 (gk : Int)) := hM.gcell 10
    obtain ⟨a9, c9, hp9, hc9⟩ := hM.slice (i := 9) (by unfold used; omega)
    have hp9' : p 9 = .slice a9 S.tasks.length c9 := hp9
    have k9 : wr.cell? ⟨g, 9, none⟩ = some (.slice a9 S.tasks.length c9) := (hM.gcell 9).trans (congrArg some hp9)
    have HM : Aside (Mem wr g O { S with done := gk } p ∧ Fr O w wr O) := ⟨hM, hF⟩
    by_cases hgo : 0 < gk ∧ m < (S.tasks.getD (gk - 1) tk0).lv
    · obtain ⟨d, rfl⟩ : ∃ d, gk = d + 1 := ⟨gk - 1, by omega⟩
      obtain ⟨b, c, hp9b, _, _, _, c3, _⟩ := hM.taskAt (k := d) (by show d < S.tasks.length; omega)
      have ea : a9 = some ⟨b, 0, none⟩ ∧ c9 = c := by
        have hp9b' : p 9 = .slice (some ⟨b, 0, none⟩) S.tasks.length c := hp9b
        rw [hp9'] at hp9b'
        injection hp9b' with h1 _ h3
        exact ⟨h1, h3⟩
      obtain ⟨rfl, rfl⟩ := ea
      have c3' : wr.cell? ⟨b, d * 4 + 3, none⟩ = some (.int .i32 ((S.tasks.getD d tk0).lv : Int)) := c3
      have q1 : (0 : Int) < (d : Int) + 1 := by omega
      have q2 : (d : Int) < (S.tasks.length : Int) := by omega
      have h1 : m < (S.tasks.getD d tk0).lv := hgo.2
      have HU1 : Aside (ES.undone S.tasks m d = U) := by show _ = _; rw [← undone_step h1]; exact hu
      have f10 := hM.gfrozen 10
      obtain ⟨m2, r2⟩ := hM.setg (S' := { S with done := d }) 10 (.int .i64 (d : Int)) rfl rfl (same_of 2 (Or.inr rfl) (Or.inr rfl) (Or.inr rfl) (Or.inr rfl) rfl (Or.inr rfl) (Or.inr rfl) (Or.inr rfl))
      have HX : Aside (∀ n, Mem ((wr.setCell ⟨g, 10, none⟩ (.int .i64 (d : Int))).drewN n) g O { S with done := d } p ∧ Fr O w ((wr.setCell ⟨g, 10, none⟩ (.int .i64 (d : Int))).drewN n) O) := fun n => ⟨m2.drewN, Fr.drewN (hF.trans r2)⟩
      have q3 : (m : Int) < ((S.tasks.getD d tk0).lv : Int) := by omega
      clear hM hF m2 r2 hp9b hp9 hp9' HA hu c3 HM hgo h1
      generalize (S.tasks.getD d tk0).lv = lv at *
      go_wp2_with fail
      go_quiet (fail)
      go_wp2
      go_roundg d
      case measure => omega
      case rel => exact ⟨by omega, HU1.out, HX.out _⟩
    · have HGU : Aside (gk = U) := by
        show _ = _
        rw [← hu]
        cases gk with
        | zero => rfl
        | succ d =>
          have h5 : ¬ m < (S.tasks.getD d tk0).lv := fun h => hgo ⟨by omega, h⟩
          exact (undone_stop h5).symm
      go_upto_region 1 with fail
      go_cut [27] (fun s27 wx => s27 = .bool false ∧ ∃ n, wx = wr.drewN n)
      case first =>
        by_cases h0 : gk = 0
        · subst h0
          have k10' : wr.cell? ⟨g, 10, none⟩ = some (.int .i64 0) := k10
          clear k10 hM hF hp9 hp9' HA hu HM HGU hgo
          go_quiet (fail)
          go_wp2_with fail
          go_meet
          exact ⟨rfl, _, rfl⟩
        · obtain ⟨d, rfl⟩ : ∃ d, gk = d + 1 := ⟨gk - 1, by omega⟩
          obtain ⟨b, c, hp9b, _, _, _, c3, _⟩ := hM.taskAt (k := d) (by show d < S.tasks.length; omega)
          have ea : a9 = some ⟨b, 0, none⟩ ∧ c9 = c := by
            have hp9b' : p 9 = .slice (some ⟨b, 0, none⟩) S.tasks.length c := hp9b
            rw [hp9'] at hp9b'
            injection hp9b' with h1 _ h3
            exact ⟨h1, h3⟩
          obtain ⟨rfl, rfl⟩ := ea
          have c3' : wr.cell? ⟨b, d * 4 + 3, none⟩ = some (.int .i32 ((S.tasks.getD d tk0).lv : Int)) := c3
          have q1 : (0 : Int) < (d : Int) + 1 := by omega
          have q2 : (d : Int) < (S.tasks.length : Int) := by omega
          have h1 : ¬ m < (S.tasks.getD d tk0).lv := fun h => hgo ⟨by omega, h⟩
          have q3 : decide ((m : Int) < ((S.tasks.getD d tk0).lv : Int)) = false := decide_eq_false (by omega)
          have q3' : ((S.tasks.getD d tk0).lv : Int) ≤ (m : Int) := by omega
          clear hM hF hp9b hp9 hp9' HA hu c3 HM HGU hgo h1
          generalize (S.tasks.getD d tk0).lv = lv at *
          go_quiet (fail)
          go_wp2_with fail
          go_meet
          exact ⟨by rw [decide_eq_false (by omega)], _, rfl⟩
      case rest =>
        obtain ⟨rfl, n0, rfl⟩ := hcut
        have hgU := HGU.out
        subst hgU
        have HM1 : Hid (∀ n, Mem (wr.drewN n) g O { S with done := gk } p ∧ Fr O w (wr.drewN n) O) := fun n => ⟨HM.out.1.drewN, Fr.drewN HM.out.2⟩
        have q4 : (gk : Int) ≤ (c9 : Int) := by have : S.tasks.length ≤ c9 := hc9; omega
        have q5 : (gk : Int) ≤ (S.tasks.length : Int) := by omega
        have hnil := fun (e : a9 = none) => hM.nilRow (i := 9) (by unfold used; omega) (n := S.tasks.length) (c := c9) (by rw [hp9', e])
        have hsome := fun a (e : a9 = some a) => hM.someRow (i := 9) (by unfold used; omega) (n := S.tasks.length) (c := c9) (a := a) (by rw [hp9', e])
        clear hM hF hp9 HA hu HM HGU hgo
        cases a9 with
        | none =>
          obtain ⟨hz, rfl⟩ := hnil rfl
          have hg0 : gk = 0 := by omega
          subst hg0
          have hts : S.tasks = [] := List.eq_nil_of_length_eq_zero hz
          have HD : Hid (∀ n, Done w g O { S with done := 0, tasks := S.tasks.take 0 ++ (S.tasks.drop 0).filter fun t => decide (t.since ≤ m) } ((wr.drewN n).setCell ⟨g, 9, none⟩ (.slice none 0 0))) := fun n => by
            obtain ⟨hM, hF⟩ := HM1.out n
            obtain ⟨O2, m2, r2⟩ := hM.rerow (S' := { S with done := 0, tasks := S.tasks.take 0 ++ (S.tasks.drop 0).filter fun t => decide (t.since ≤ m) }) (i := 9) (by unfold used; omega) (by omega) (w1 := wr.drewN n) ⟨rfl, rfl, rfl, Nat.le_refl _, fun _ _ _ => rfl⟩ (.slice none 0 0) 0 [] (World.ownsRow_nil _ _ _ _) (Or.inl (by rw [hp9', hz])) rfl rfl (same_of 9 (Or.inr rfl) (Or.inr rfl) (Or.inr rfl) (Or.inr rfl) rfl (Or.inr rfl) (Or.inr rfl) (Or.inl rfl)) (by show (S.tasks.take 0 ++ (S.tasks.drop 0).filter _).length = 0; rw [hts]; rfl) (by show (S.tasks.take 0 ++ (S.tasks.drop 0).filter _).flatMap tkF = []; rw [hts]; rfl)
            exact ⟨O2, _, m2, hF.trans r2⟩
          have f9 : wr.frozen? ⟨g, 9, none⟩ = false := (HM1.out 0).1.gfrozen 9
          rw [hz] at k9
          have k10' : wr.cell? ⟨g, 10, none⟩ = some (.int .i64 0) := k10
          clear hnil hsome HM1 hp9' k10 HM0
          go_wp2_with fail
          go_quiet (fail)
          go_wp2_with fail
          go_quiet (fail)
          go_wp2_with fail
          go_loopg [4, 54] 0 (fun gk s4 s54 wq => s4 = .slice none 0 0 ∧ s54 = .int .i64 0 ∧ ∃ n, wr.drewN n = wq)
          case atStart => exact ⟨rfl, rfl, _, by rw [drewN_drewN, drewN_drewN]⟩
          case round =>
            obtain ⟨rfl, rfl, n1, rfl⟩ := hrel
            go_wp2
            go_end0
            exact HPP.out _ (HD.out _)
        | some aa =>
          obtain ⟨b, rfl⟩ := hsome aa rfl
          clear hnil hsome
          go_wp2_with fail
          go_quiet (fail)
          go_upto_region 3 with fail
          obtain ⟨L, hL⟩ : ∃ L, S.tasks.length = L := ⟨_, rfl⟩
          rw [hL] at k9 q5 hp9' hT hd
          have HLL : Hid (S.tasks.length = L) := hL
          have hLc : L ≤ c9 := by rw [← hL]; exact hc9
          clear hc9
          rw [hL]
          clear hL
          go_cut [52, 53, 54] (fun s52 s53 s54 wx => (∃ ad, s52 = .slice ad (L - gk) (c9 - gk) ∧ (gk < L → ad = some ⟨b, gk * 4, none⟩)) ∧ s53 = .int .i64 ((L - gk : Nat) : Int) ∧ s54 = .int .i64 0 ∧ ∃ n, wx = wr.drewN n)
          case first =>
            by_cases hcg : c9 = gk
            · go_quiet (fail)
              go_wp2_with fail
              go_meet
              exact ⟨⟨_, by rw [show c9 - gk = 0 by omega], fun h => absurd h (by omega)⟩, rfl, rfl, ⟨_, by rw [drewN_drewN, drewN_drewN]⟩⟩
            · go_quiet (fail)
              go_wp2_with fail
              go_meet
              exact ⟨⟨_, rfl, fun _ => rfl⟩, rfl, rfl, ⟨_, by rw [drewN_drewN, drewN_drewN]⟩⟩
          case rest =>
            obtain ⟨⟨ad, rfl, had⟩, rfl, rfl, n1, rfl⟩ := hcut
            have HM2 := HM1.out n1
            generalize wr.drewN n1 = W1 at *
            obtain ⟨hM2, hF2⟩ := HM2
            have HM2 : Hid (Mem W1 g O { S with done := gk } p ∧ Fr O w W1 O) := ⟨hM2, hF2⟩
            have HP9 : Hid (p 9 = .slice (some ⟨b, 0, none⟩) L c9) := hp9'
            have HTk : Hid (S.tasks.take gk ++ ((S.tasks.drop gk).take 0).filter (fun t => decide (t.since ≤ m)) = S.tasks.take gk) := by show _ = _; rw [List.take_zero, List.filter_nil, List.append_nil]
            have hgkL : gk ≤ L := by omega
            clear HM1 hM2 hF2 k9 k10 hp9'
            obtain ⟨gk0, rfl⟩ : ∃ x, x = gk := ⟨gk, rfl⟩
            go_wp2_with fail
            go_loopg [4, 54] (L - gk0) (fun gk s4 s54 wr => ∃ (i kl : Nat), s4 = .slice (some ⟨b, 0, none⟩) kl c9 ∧ s54 = .int .i64 (i : Int) ∧ i + gk = L - gk0 ∧ kl ≤ gk0 + i ∧ Aside (∃ kept, kept.length = kl ∧ kept = S.tasks.take gk0 ++ ((S.tasks.drop gk0).take i).filter (fun t => decide (t.since ≤ m)) ∧ Mem wr g O { S with done := gk0, tasks := laidT kept S.tasks } p ∧ Fr O w wr O))
            case atStart =>
              refine ⟨0, gk0, rfl, rfl, by omega, by omega, ⟨S.tasks.take gk0, by rw [List.length_take, HLL.out]; omega, HTk.out.symm, ?_, HM2.out.2⟩⟩
              have e : laidT (S.tasks.take gk0) S.tasks = S.tasks := by
                unfold laidT
                rw [List.length_take, Nat.min_eq_left (by rw [HLL.out]; exact hgkL), List.take_append_drop]
              rw [e]
              exact HM2.out.1
            case round =>
              obtain ⟨i, kl, rfl, rfl, hi, hkl, HA⟩ := hrel
              obtain ⟨kept, hkk, hke, hM, hF⟩ := HA.out
              by_cases hlt : i < L - gk0
              · have hadd := had (by omega)
                subst hadd
                obtain ⟨t, ht⟩ : ∃ t, S.tasks.getD (gk0 + i) tk0 = t := ⟨_, rfl⟩
                have hlT : (laidT kept S.tasks).length = L := by
                  unfold laidT
                  rw [List.length_append, List.length_drop, HLL.out]
                  omega
                have htk : ({ S with done := gk0, tasks := laidT kept S.tasks } : ES).tk (gk0 + i) = t := by
                  show (laidT kept S.tasks).getD (gk0 + i) tk0 = t
                  unfold laidT
                  rw [List.getD_eq_getElem?_getD, List.getElem?_append_right (by omega), List.getElem?_drop, ← List.getD_eq_getElem?_getD, show kept.length + (gk0 + i - kept.length) = gk0 + i by omega]
                  exact ht
                obtain ⟨b', c', hpb, c0, c1, c2, c3, hfz⟩ := hM.taskAt (k := gk0 + i) (by show gk0 + i < (laidT kept S.tasks).length; rw [hlT]; omega)
                have eb : b' = b := by
                  rw [HP9.out] at hpb
                  injection hpb with h1 _ _
                  injection h1 with h1
                  injection h1 with h1 _ _
                  exact h1.symm
                subst eb
                rw [htk] at c0 c1 c2 c3
                have ex : (gk0 + i) * 4 = gk0 * 4 + i * 4 := by omega
                rw [ex] at c0 c1 c2 c3
                have q8 : (i : Int) < ((L - gk0 : Nat) : Int) := by omega
                have htd : (S.tasks.drop gk0).take (i + 1) = (S.tasks.drop gk0).take i ++ [t] := by
                  have h5 : i < (S.tasks.drop gk0).length := by rw [List.length_drop, HLL.out]; exact hlt
                  rw [List.take_succ_eq_append_getElem h5, List.getElem_drop, ← ht, getD_of _ _ _ (by rw [HLL.out]; omega)]
                have HM : Aside (Mem wr g O { S with done := gk0, tasks := laidT kept S.tasks } p ∧ Fr O w wr O) := ⟨hM, hF⟩
                have HKE : Aside (kept = S.tasks.take gk0 ++ ((S.tasks.drop gk0).take i).filter (fun t => decide (t.since ≤ m))) := hke
                have HTD : Aside ((S.tasks.drop gk0).take (i + 1) = (S.tasks.drop gk0).take i ++ [t]) := htd
                have hma := hM.alloc (.cells #[.int .i32 (clI t.cl), .int .i32 (t.lit : Int), .int .i32 (t.since : Int), .int .i32 (t.lv : Int)] 81)
                clear hM hF HA hke htd hpb htk hfz
                by_cases hs : t.since ≤ m
                · have HKN : Aside (kept ++ [t] = S.tasks.take gk0 ++ ((S.tasks.drop gk0).take (i + 1)).filter (fun t => decide (t.since ≤ m))) := by
                    show _ = _
                    rw [HTD.out, List.filter_append, ← List.append_assoc, ← HKE.out]
                    simp [hs]
                  have hs' : (t.since : Int) ≤ (m : Int) := by omega
                  have hmb := hma.alloc (.cells #[.int .i32 (clI t.cl), .int .i32 (t.lit : Int), .int .i32 (t.since : Int), .int .i32 (t.lv : Int)] 81)
                  have hpm : p 9 = .slice (some ⟨b', 0, none⟩) (laidT kept S.tasks).length c9 := by rw [hlT]; exact HP9.out
                  obtain ⟨m5, r5⟩ := hmb.putTask (k := kl) hpm (by show kl < (laidT kept S.tasks).length; rw [hlT]; omega) t
                  have els : (laidT kept S.tasks).set kl t = laidT (kept ++ [t]) S.tasks := by rw [← hkk]; exact laidT_set t (by rw [HLL.out]; omega)
                  have m5' : Mem (((wr.alloc (.cells #[.int .i32 (clI t.cl), .int .i32 (t.lit : Int), .int .i32 (t.since : Int), .int .i32 (t.lv : Int)] 81)).alloc (.cells #[.int .i32 (clI t.cl), .int .i32 (t.lit : Int), .int .i32 (t.since : Int), .int .i32 (t.lv : Int)] 81)).setCells b' (kl * 4) (tkF t)) g O { S with done := gk0, tasks := laidT (kept ++ [t]) S.tasks } p := by rw [← els]; exact m5
                  have HX : Aside (Mem (((wr.alloc (.cells #[.int .i32 (clI t.cl), .int .i32 (t.lit : Int), .int .i32 (t.since : Int), .int .i32 (t.lv : Int)] 81)).alloc (.cells #[.int .i32 (clI t.cl), .int .i32 (t.lit : Int), .int .i32 (t.since : Int), .int .i32 (t.lv : Int)] 81)).setCells b' (kl * 4) (tkF t)) g O { S with done := gk0, tasks := laidT (kept ++ [t]) S.tasks } p ∧ Fr O w (((wr.alloc (.cells #[.int .i32 (clI t.cl), .int .i32 (t.lit : Int), .int .i32 (t.since : Int), .int .i32 (t.lv : Int)] 81)).alloc (.cells #[.int .i32 (clI t.cl), .int .i32 (t.lit : Int), .int .i32 (t.since : Int), .int .i32 (t.lv : Int)] 81)).setCells b' (kl * 4) (tkF t)) O) := ⟨m5', (Fr.alloc (Fr.alloc HM.out.2 _) _).trans r5⟩
                  have HOLD : Hid (∀ j u, (kept.flatMap tkF)[j]? = some u → ((wr.alloc (.cells #[.int .i32 (clI t.cl), .int .i32 (t.lit : Int), .int .i32 (t.since : Int), .int .i32 (t.lv : Int)] 81)).alloc (.cells #[.int .i32 (clI t.cl), .int .i32 (t.lit : Int), .int .i32 (t.since : Int), .int .i32 (t.lv : Int)] 81)).cell? ⟨b', 0 + j, none⟩ = some u) := fun j u hj => by
                    have hr := hmb.row 9 (by unfold used; omega)
                    rw [hpm] at hr
                    have hr2 : ((wr.alloc (.cells #[.int .i32 (clI t.cl), .int .i32 (t.lit : Int), .int .i32 (t.since : Int), .int .i32 (t.lv : Int)] 81)).alloc (.cells #[.int .i32 (clI t.cl), .int .i32 (t.lit : Int), .int .i32 (t.since : Int), .int .i32 (t.lv : Int)] 81)).ownsRow 0 81 4 (.slice (some ⟨b', 0, none⟩) (laidT kept S.tasks).length c9) (laidT kept S.tasks).length ((laidT kept S.tasks).flatMap tkF) := hr
                    have hjl : j < kl * 4 := by
                      have h5 := (List.getElem?_eq_some_iff.1 hj).1
                      rw [fm_len tkF 4 (fun _ => rfl), hkk] at h5
                      exact h5
                    rw [Nat.zero_add, hr2.cellAt j (by rw [hlT]; omega)]
                    unfold laidT
                    rw [List.flatMap_append, List.getElem?_append_left (by rw [fm_len tkF 4 (fun _ => rfl), hkk]; exact hjl)]
                    exact hj
                  have HOL : Hid ((kept.flatMap tkF).length = kl * 4) := by show _ = _; rw [fm_len tkF 4 (fun _ => rfl), hkk]
                  have HSP : Hid (∀ j, j < 4 → (((wr.alloc (.cells #[.int .i32 (clI t.cl), .int .i32 (t.lit : Int), .int .i32 (t.since : Int), .int .i32 (t.lv : Int)] 81)).alloc (.cells #[.int .i32 (clI t.cl), .int .i32 (t.lit : Int), .int .i32 (t.since : Int), .int .i32 (t.lv : Int)] 81)).cell? ⟨b', 0 + kl * 4 + j, none⟩).isSome = true ∧ ((wr.alloc (.cells #[.int .i32 (clI t.cl), .int .i32 (t.lit : Int), .int .i32 (t.since : Int), .int .i32 (t.lv : Int)] 81)).alloc (.cells #[.int .i32 (clI t.cl), .int .i32 (t.lit : Int), .int .i32 (t.since : Int), .int .i32 (t.lv : Int)] 81)).frozen? ⟨b', 0 + kl * 4 + j, none⟩ = false) := fun j hj => by
                    obtain ⟨⟨z, h5⟩, h6⟩ := hmb.cellE (i := 9) (by unfold used; omega) hpm rfl (j := 0 + kl * 4 + j) (by show _ < (laidT kept S.tasks).length * 4; rw [hlT]; omega)
                    exact ⟨by rw [h5]; rfl, h6⟩
                  have hsz : (wr.alloc (.cells #[.int .i32 (clI t.cl), .int .i32 (t.lit : Int), .int .i32 (t.since : Int), .int .i32 (t.lv : Int)] 81)).heap.size = wr.heap.size + 1 := by simp
                  have HNW : Hid (∀ j u, (tkF t)[j]? = some u → ((wr.alloc (.cells #[.int .i32 (clI t.cl), .int .i32 (t.lit : Int), .int .i32 (t.since : Int), .int .i32 (t.lv : Int)] 81)).alloc (.cells #[.int .i32 (clI t.cl), .int .i32 (t.lit : Int), .int .i32 (t.since : Int), .int .i32 (t.lv : Int)] 81)).cell? ((⟨wr.heap.size + 1, 0, none⟩ : Addr).add j) = some u) := by
                    rw [← hsz]
                    exact World.news_of_block (cs := #[.int .i32 (clI t.cl), .int .i32 (t.lit : Int), .int .i32 (t.since : Int), .int .i32 (t.lv : Int)]) (t := 81) (fr := (0, 0)) (heap_alloc_new _ _)
                  obtain ⟨i0, hi0, hz0, hz1, hz2⟩ := info_parts (P := Try.prog) (e := 81) (z := .agg #[.int .i32 0, .int .i32 0, .int .i32 0, .int .i32 0]) (size := 4) (bytes := 16) (by kernel_rfl)
                  have hroom : kl + 1 ≤ c9 := by omega
                  clear hma hmb m5 m5' r5 els hpm hsz
                  have HTF : Hid (tkF t = [.int .i32 (clI t.cl), .int .i32 (t.lit : Int), .int .i32 (t.since : Int), .int .i32 (t.lv : Int)]) := rfl
                  go_wp2_with (at_builtin; refine wpList_append_arg _ rfl _ _ 62 rfl 81 i0 _ 4 16 Try.underlying62 hi0 hz0 hz1 hz2 rfl (by decide) b' 0 kl c9 (kept.flatMap tkF) rfl HOL.out HOLD.out ⟨wr.heap.size + 1, 0, none⟩ 1 1 (tkF t) rfl rfl HNW.out (by intro u hu; simp [tkF] at hu; rcases hu with rfl | rfl | rfl | rfl <;> rfl) (fun _ j hj => HSP.out j hj) (by unfold maxLen; omega) (by omega) (fun _ => ?_) (fun h => absurd h (by omega)))
                  go_roundg (gk - 1)
                  case measure => omega
                  case rel => exact ⟨i + 1, kl + 1, rfl, by simp, by omega, by omega, ⟨kept ++ [t], by simp [hkk], HKN.out, HX.out⟩⟩
                · have HKN : Aside (kept = S.tasks.take gk0 ++ ((S.tasks.drop gk0).take (i + 1)).filter (fun t => decide (t.since ≤ m))) := by
                    show _ = _
                    rw [HTD.out, List.filter_append, HKE.out]
                    simp [hs]
                  have hs' : ¬ (t.since : Int) ≤ (m : Int) := by omega
                  have HX : Aside (Mem (wr.alloc (.cells #[.int .i32 (clI t.cl), .int .i32 (t.lit : Int), .int .i32 (t.since : Int), .int .i32 (t.lv : Int)] 81)) g O { S with done := gk0, tasks := laidT kept S.tasks } p ∧ Fr O w (wr.alloc (.cells #[.int .i32 (clI t.cl), .int .i32 (t.lit : Int), .int .i32 (t.since : Int), .int .i32 (t.lv : Int)] 81)) O) := ⟨hma, Fr.alloc HM.out.2 _⟩
                  clear hma
                  generalize clI t.cl = ci at *
                  go_wp2
                  go_roundg (gk - 1)
                  case measure => omega
                  case rel => exact ⟨i + 1, kl, rfl, by simp, by omega, by omega, ⟨kept, hkk, HKN.out, HX.out⟩⟩
              · have hD : Done w g O { S with done := gk0, tasks := S.tasks.take gk0 ++ (S.tasks.drop gk0).filter fun t => decide (t.since ≤ m) } (wr.setCell ⟨g, 9, none⟩ (.slice (some ⟨b, 0, none⟩) kl c9)) := by
                  have e1 : (S.tasks.drop gk0).take i = S.tasks.drop gk0 := List.take_of_length_le (by rw [List.length_drop, HLL.out]; omega)
                  rw [e1] at hke
                  have hr := hM.row 9 (by unfold used; omega)
                  rw [HP9.out] at hr
                  have hLn : nR { S with done := gk0, tasks := laidT kept S.tasks } 9 = L := by
                    show (laidT kept S.tasks).length = L
                    unfold laidT
                    rw [List.length_append, List.length_drop, HLL.out]
                    omega
                  rw [hLn] at hr
                  have hr2 : wr.ownsRow 0 81 4 (.slice (some ⟨b, 0, none⟩) L c9) L ((laidT kept S.tasks).flatMap tkF) := hr
                  have hr3 := ownsRow_take (m := kl) (by omega) hr2
                  have hln : (kept.flatMap tkF).length = kl * 4 := by rw [fm_len tkF 4 (fun _ => rfl), hkk]
                  have e2 : ((laidT kept S.tasks).flatMap tkF).take (kl * 4) = kept.flatMap tkF := by
                    unfold laidT
                    rw [List.flatMap_append, ← hln]
                    exact List.take_left' rfl
                  rw [e2] at hr3
                  obtain ⟨O2, m2, r2⟩ := hM.rerow (S' := { S with done := gk0, tasks := kept }) (i := 9) (by unfold used; omega) (by omega) (w1 := wr) ⟨rfl, rfl, rfl, Nat.le_refl _, fun _ _ _ => rfl⟩ (.slice (some ⟨b, 0, none⟩) kl c9) kl (kept.flatMap tkF) hr3 (Or.inl (by rw [HP9.out]; rfl)) rfl rfl (same_of 9 (Or.inr rfl) (Or.inr rfl) (Or.inr rfl) (Or.inr rfl) rfl (Or.inr rfl) (Or.inr rfl) (Or.inl rfl)) hkk rfl
                  rw [← hke]
                  exact ⟨O2, _, m2, hF.trans r2⟩
                have HD : Hid (Done w g O { S with done := gk0, tasks := S.tasks.take gk0 ++ (S.tasks.drop gk0).filter fun t => decide (t.since ≤ m) } (wr.setCell ⟨g, 9, none⟩ (.slice (some ⟨b, 0, none⟩) kl c9))) := hD
                have k9 : wr.cell? ⟨g, 9, none⟩ = some (.slice (some ⟨b, 0, none⟩) L c9) := (hM.gcell 9).trans (congrArg some HP9.out)
                have f9 := hM.gfrozen 9
                have q9 : ((L - gk0 : Nat) : Int) ≤ (i : Int) := by omega
                clear hD hM hF HA hke
                go_wp2
                go_end0
                exact HPP.out _ HD.out
end Go.Proofs.Ytfpmacnbfbcjgaa
