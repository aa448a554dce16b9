import Derived.Test.YtfpmacnbfbcjgaaEM
import Derived.Test.YtfpmacnbfbcjgaaQB
namespace Go.Proofs.Ytfpmacnbfbcjgaa
open Go.ChangeShapes Go.WideShapes Go.ChangeAt Go.RowKit
open Go.Pr
/-- where Propagate ends -/
def PropP (w : World) (g : Nat) (O : Nat → Prop) (S : ES) (b : Bool) (w' : World) : Prop := ∃ T, Runs S T ∧ (b = true → T.clash = none ∧ T.step = none) ∧ (b = false → T.clash ≠ none) ∧ Done w g O T w'
set_option maxHeartbeats 8000000 in
theorem propagate_mem {w : World} {g : Nat} {O : Nat → Prop} {S : ES} {p : Nat → Value} (h : Mem w g O S p) (hF : FULL S) :
    Calls Try.prog 19 #[.pointer (some ⟨g, 0, none⟩)] w fun r w' => ∃ b, r = .returned (.bool b) ∧ PropP w g O S b w' := by
  have H0 : Hid (Mem w g O S p ∧ FULL S) := ⟨h, hF⟩
  generalize hPP : (fun (r : Ending) (w' : World) => ∃ b, r = .returned (.bool b) ∧ PropP w g O S b w') = PP
  have HPP : Hid (∀ b w', PropP w g O S b w' → PP (.returned (.bool b)) w') := fun b w' h => by rw [← hPP]; exact ⟨b, rfl, h⟩
  clear hPP h hF
  go_enter Try.func19, Try.ntmps19
  go_wp2
  go_loopg [] S.left (fun gk wr => Aside (∃ T O' p', Runs S T ∧ Mem wr g O' T p' ∧ Fr O w wr O' ∧ T.left = gk))
  case atStart => exact ⟨S, O, p, Runs.refl S, H0.out.1, Fr.refl O w, rfl⟩
  case round =>
    obtain ⟨T, O', p', hR, hM, hFr, hgk⟩ := hrel.out
    have hT := hR.full H0.out.2
    have hw := hT.inv.wf
    have k11 : wr.cell? ⟨g, 11, none⟩ = some (.int .i32 (clI T.clash)) := hM.gcell 11
    have HF : Hid (Fr O w wr O') := hFr
    have HM : Hid (Mem wr g O' T p') := hM
    have HR : Hid (Runs S T) := hR
    have HT : Hid (FULL T) := hT
    cases hcl : T.clash with
    | some k =>
      have hk := hw.clash k hcl
      have hkl := hw.cll
      have HD : Hid (PropP w g O S false wr) := ⟨T, hR, fun e => absurd e (by decide), fun _ => by rw [hcl]; simp, O', p', hM, hFr⟩
      have e1 : ((k : Int) == -1) = false := beq_eq_false_iff_ne.2 (by omega)
      rw [hcl] at k11
      have k11' : wr.cell? ⟨g, 11, none⟩ = some (.int .i32 (k : Int)) := k11
      clear hM hFr hR hT hw k11 hcl HF HM HR HT hgk hrel
      go_wp2
      exact HPP.out _ _ HD.out
    | none =>
      rw [hcl] at k11
      have k11' : wr.cell? ⟨g, 11, none⟩ = some (.int .i32 (-1)) := k11
      obtain ⟨a9, c9, hp9, _⟩ := hM.slice (i := 9) (by unfold used; omega)
      obtain ⟨a1, c1, hp1, _⟩ := hM.slice (i := 1) (by unfold used; omega)
      obtain ⟨a6, c6, hp6, _⟩ := hM.slice (i := 6) (by unfold used; omega)
      have k9 : wr.cell? ⟨g, 9, none⟩ = some (.slice a9 T.tasks.length c9) := (hM.gcell 9).trans (congrArg some hp9)
      have k1 : wr.cell? ⟨g, 1, none⟩ = some (.slice a1 T.cls.length c1) := (hM.gcell 1).trans (congrArg some hp1)
      have k6 : wr.cell? ⟨g, 6, none⟩ = some (.slice a6 T.trail.length c6) := (hM.gcell 6).trans (congrArg some hp6)
      have k10 : wr.cell? ⟨g, 10, none⟩ = some (.int .i64 (T.done : Int)) := hM.gcell 10
      have k2 : wr.cell? ⟨g, 2, none⟩ = some (.int .i64 (T.met : Int)) := hM.gcell 2
      have k7 : wr.cell? ⟨g, 7, none⟩ = some (.int .i64 (T.head : Int)) := hM.gcell 7
      have HCL : Hid (T.clash = none) := hcl
      have hdn := hw.dn
      have hmt := hw.met
      have hhd := hw.head
      have hcll := hw.cll
      have hnn := hw.n
      have htl := hw.trail_len
      have hTl := hT.tks.len hw
      have hWl := fun x => hT.inv.watch_len x
      have HW : Hid (WF T) := hw
      clear k11 hrel hR hFr hcl
      by_cases h1 : T.done < T.tasks.length
      · have HA : Hid (∀ W, Mem W g O' T p' → Calls Try.prog 30 #[.pointer (some ⟨g, 0, none⟩)] W fun r w' => r = .returned (.tuple #[]) ∧ Done W g O' T.again w') := fun W m => again_mem m hw h1 hTl hWl (hT.again_ok h1)
        have hst : T.step = some T.again := by unfold ES.step; rw [if_pos h1]
        have HST : Hid (T.step = some T.again) := hst
        have hls := step_less hw hst
        have q1 : (T.done : Int) < (T.tasks.length : Int) := by omega
        clear hM hw hT hst hp9 hp1 hp6 hWl
        go_wp2_with fail
        go_quiet (fail)
        go_wp2_with fail
        refine (HA.out _ HM.out.drewN).mono ?_
        rintro e w2 ⟨rfl, O2, p2, m2, r2⟩
        have HX : Aside (∃ T2 O2 p2, Runs S T2 ∧ Mem w2 g O2 T2 p2 ∧ Fr O w w2 O2 ∧ T2.left = T.again.left) := ⟨T.again, O2, p2, HR.out.step HCL.out HST.out, m2, (Fr.drewN HF.out).trans r2, rfl⟩
        clear m2 r2
        go_wp2
        go_roundg T.again.left
        case measure => omega
        case rel => exact HX
      · have q1 : ¬ (T.done : Int) < (T.tasks.length : Int) := by omega
        by_cases h2 : T.met < T.cls.length
        · have HA : Hid (∀ W, Mem W g O' T p' → Calls Try.prog 31 #[.pointer (some ⟨g, 0, none⟩), .int .i32 (T.met : Int)] W fun r w' => r = .returned (.tuple #[]) ∧ Done W g O' (T.meet T.met) w') := fun W m => meet_mem m hw h2 hTl (fun x => by have := hWl x; omega)
          have hst : T.step = some { T.meet T.met with met := T.met + 1 } := by unfold ES.step; rw [if_neg h1, if_pos h2]
          have HST : Hid (T.step = some { T.meet T.met with met := T.met + 1 }) := hst
          obtain ⟨lf, hlf⟩ : ∃ lf, ({ T.meet T.met with met := T.met + 1 } : ES).left = lf := ⟨_, rfl⟩
          have hls : lf < T.left := by rw [← hlf]; exact step_less hw hst
          have hme : (T.meet T.met).met = T.met := (hw.meet h2).2.met
          have q2 : (T.met : Int) < (T.cls.length : Int) := by omega
          clear hM hw hT hst hp9 hp1 hp6 hWl
          go_wp2_with fail
          go_quiet (fail)
          go_wp2_with fail
          go_quiet (fail)
          go_wp2_with fail
          refine (HA.out _ HM.out.drewN).mono ?_
          rintro e w2 ⟨rfl, O2, p2, m2, r2⟩
          have e2 : w2.cell? ⟨g, 2, none⟩ = some (.int .i64 (T.met : Int)) := (m2.gcell 2).trans (by show some (Value.int .i64 ((T.meet T.met).met : Int)) = _; rw [hme])
          have f2 := m2.gfrozen 2
          obtain ⟨m3, r3⟩ := m2.setg (S' := { T.meet T.met with met := T.met + 1 }) 2 (.int .i64 ((T.met : Int) + 1)) rfl rfl (same_of 2 (Or.inr rfl) (Or.inr rfl) (Or.inr rfl) (Or.inr rfl) rfl (Or.inr rfl) (Or.inr rfl) (Or.inr rfl))
          have HX : Aside (∃ T2 O3 p3, Runs S T2 ∧ Mem (w2.setCell ⟨g, 2, none⟩ (.int .i64 ((T.met : Int) + 1))) g O3 T2 p3 ∧ Fr O w (w2.setCell ⟨g, 2, none⟩ (.int .i64 ((T.met : Int) + 1))) O3 ∧ T2.left = lf) := ⟨_, O2, p2, HR.out.step HCL.out HST.out, m3, ((Fr.drewN HF.out).trans r2).trans r3, hlf⟩
          clear m2 r2 m3 r3
          go_wp2
          go_roundg lf
          case measure => omega
          case rel => exact HX
        · have q2 : ¬ (T.met : Int) < (T.cls.length : Int) := by omega
          by_cases h3 : T.head < T.trail.length
          · obtain ⟨l, hl0, hl1, hl2, hlv, hlt, hli⟩ := hT.visit_ok h3 HCL.out
            have HA : Hid (∀ W, Mem W g O' T p' → Calls Try.prog 32 #[.pointer (some ⟨g, 0, none⟩), .int .i32 (l : Int)] W fun r w' => r = .returned (.tuple #[]) ∧ Done W g O' (T.tell l) w') := fun W m => tell_mem m hw hl1 hl2 hlv hWl hTl hlt (hli.watch_len l)
            have hst : T.step = some { T.tell l with head := T.head + 1 } := by unfold ES.step; rw [if_neg h1, if_neg h2, if_pos h3, hl0]
            have HST : Hid (T.step = some { T.tell l with head := T.head + 1 }) := hst
            obtain ⟨lf, hlf⟩ : ∃ lf, ({ T.tell l with head := T.head + 1 } : ES).left = lf := ⟨_, rfl⟩
            have hls : lf < T.left := by rw [← hlf]; exact step_less hw hst
            have hme : (T.tell l).head = T.head := (tell_rest T l).head
            have q3 : (T.head : Int) < (T.trail.length : Int) := by omega
            obtain ⟨b6, c6', hp6', _, hc6, _⟩ := hM.form (i := 6) (by unfold used; omega) (by show 0 < T.trail.length; omega)
            have ea : a6 = some ⟨b6, 0, none⟩ := by rw [hp6] at hp6'; injection hp6' with h _ _
            subst ea
            have c6x : wr.cell? ⟨b6, T.head, none⟩ = some (.int .i32 (T.trail.getD T.head 0 : Int)) := by
              rw [hc6 T.head (by show _ < T.trail.length * 1; omega)]
              show (codesV T.trail)[T.head]? = _
              unfold codesV
              rw [List.getElem?_map, List.getElem?_eq_getElem h3, getD_of _ _ _ h3]
              rfl
            have htr := hw.tr (T.trail.getD T.head 0) (by rw [getD_of _ _ _ h3]; exact List.getElem_mem _)
            have hx := xor1_i32 (T.trail.getD T.head 0) (by omega)
            rw [opp_def, hl0] at hx
            clear hM hw hT hst hp9 hp1 hp6 hp6' hc6 hWl hli hlt hl0 htr
            generalize T.trail.getD T.head 0 = c0 at *
            go_wp2_with fail
            go_quiet (fail)
            go_wp2_with fail
            go_quiet (fail)
            go_wp2_with fail
            go_quiet (fail)
            go_wp2_with fail
            go_region_with (go_at_call 32; refine (HA.out _ HM.out.drewN.drew).mono ?_; rintro e w2 ⟨rfl, O2, p2, m2, r2⟩; have HM2 : Hid (Mem w2 g O2 (T.tell l) p2) := m2; have HF2 : Hid (Fr O w w2 O2) := ((Fr.drew (Fr.drewN HF.out)).trans r2); clear m2 r2)
            all_goals
              have e2 : w2.cell? ⟨g, 7, none⟩ = some (.int .i64 (T.head : Int)) := (HM2.out.gcell 7).trans (by show some (Value.int .i64 ((T.tell l).head : Int)) = _; rw [hme])
              have f2 := HM2.out.gfrozen 7
              obtain ⟨m3, r3⟩ := HM2.out.setg (S' := { T.tell l with head := T.head + 1 }) 7 (.int .i64 ((T.head : Int) + 1)) rfl rfl (same_of 2 (Or.inr rfl) (Or.inr rfl) (Or.inr rfl) (Or.inr rfl) rfl (Or.inr rfl) (Or.inr rfl) (Or.inr rfl))
              have HX : Aside (∃ T2 O3 p3, Runs S T2 ∧ Mem (w2.setCell ⟨g, 7, none⟩ (.int .i64 ((T.head : Int) + 1))) g O3 T2 p3 ∧ Fr O w (w2.setCell ⟨g, 7, none⟩ (.int .i64 ((T.head : Int) + 1))) O3 ∧ T2.left = lf) := ⟨_, O2, p2, HR.out.step HCL.out HST.out, m3, HF2.out.trans r3, hlf⟩
              clear m3 r3
              go_wp2
              go_roundg lf
              case measure => omega
              case rel => exact HX
          · have q3 : ¬ (T.head : Int) < (T.trail.length : Int) := by omega
            have HD : Hid (∀ n n2 n3, PropP w g O S true (((wr.drewN n).drewN n2).drewN n3)) := fun n n2 n3 => ⟨T, HR.out, fun _ => ⟨HCL.out, by unfold ES.step; rw [if_neg h1, if_neg h2, if_neg h3]⟩, fun e => absurd e (by decide), O', p', HM.out.drewN.drewN.drewN, Fr.drewN (Fr.drewN (Fr.drewN HF.out))⟩
            clear hM hw hT hp9 hp1 hp6 hWl
            go_wp2_with fail
            go_quiet (fail)
            go_wp2_with fail
            go_quiet (fail)
            go_wp2_with fail
            go_quiet (fail)
            go_wp2
            exact HPP.out _ _ (HD.out _ _ _)
end Go.Proofs.Ytfpmacnbfbcjgaa
