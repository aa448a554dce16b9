import Derived.Test.YtkomadlmonhlhaaAgZ
import Derived.Deep.RegionWith
namespace Go.Proofs.Ytkomadlmonhlhaa
open Go.ChangeShapes Go.WideShapes Go.ChangeAt Go.RowKit Go.Lib Go.Ag Go.WideMaps Go.Maps Go.ChangeMaps Go.Cn

theorem nodK_two {ns : Nds} {n : Nat} (hk : (nodK ns n).1 = 2) : nodK ns n = (2, ((nodK ns n).2.1, (nodK ns n).2.2)) := by
  generalize nodK ns n = K at *
  rcases K with ⟨k, a, b⟩
  obtain rfl : k = 2 := hk
  rfl
theorem si_meet {ns : Nds} (hw : WFN ns) {m : Nat} : ∀ (f n : Nat), n < f → ∀ s : (Nat → Bool) × List Nat, n ≤ m → SI m [] s → SI m [] (meet ns n s)
  | 0, _, h, _, _, _ => absurd h (Nat.not_lt_zero _)
  | f + 1, n, hf, s, hm, hs => by
    cases h : s.1 n with
    | true => rw [meet_met h]; exact hs
    | false =>
      by_cases hk : (nodK ns n).1 = 2
      · have e := nodK_two hk
        have hab := hw _ _ _ e
        rw [meet_gate hw h e]
        have h1 := si_meet hw f ((nodK ns n).2.1 / 2) (by omega) s (by omega) hs
        have h2 := si_meet hw f ((nodK ns n).2.2 / 2) (by omega) _ (by omega) h1
        have h3 := (meet_prop hw _ _ (Nat.lt_succ_self _) s).2.2 n hab.1
        have h4 := (meet_prop hw _ _ (Nat.lt_succ_self _) (meet ns ((nodK ns n).2.1 / 2) s)).2.2 n hab.2
        exact (SI.pop (st := []) (h2.root hm (by rw [h4, h3, h])))
      · rw [meet_leaf h hk]
        exact (SI.pop (st := []) (hs.root hm h))
theorem si_cone {ns : Nds} (hw : WFN ns) {m : Nat} : ∀ (ls : List Nat) (s : (Nat → Bool) × List Nat), (∀ l ∈ ls, l / 2 ≤ m) → SI m [] s → SI m [] (ls.foldl (fun s l => meet ns (l / 2) s) s)
  | [], s, _, hs => hs
  | l :: ls, s, hl, hs => si_cone hw ls _ (fun x hx => hl x (by simp [hx])) (si_meet hw _ _ (Nat.lt_succ_self _) s (hl l (by simp)) hs)
theorem wf_of {w : World} {B R : Nat} {ns : Nds} {nb : Nat} {vb vg : Value} {M : Option Nat} {D : DataW Unit} (h : GM w B R ns nb vb vg M D) : WFN ns := fun _ _ _ hk => ⟨(nodK_le h hk).2.2.1, (nodK_le h hk).2.2.2.1⟩
theorem cone_in {w : World} {B R : Nat} {ns : Nds} {nb : Nat} {vb vg : Value} {M : Option Nat} {D : DataW Unit} (h : GM w B R ns nb vb vg M D) {ls : List Nat} : ∀ x ∈ (coneS ns ls).2, 0 < x ∧ x ≤ mostN ls :=
  (si_cone (wf_of h) ls _ (fun _ hl => mostN_ge hl) (SI.start (mostN ls))).cb
theorem cone_len {w : World} {B R : Nat} {ns : Nds} {nb : Nat} {vb vg : Value} {M : Option Nat} {D : DataW Unit} (h : GM w B R ns nb vb vg M D) {ls : List Nat} (hbd : ∀ l ∈ ls, l / 2 ≤ ns.length) : (coneS ns ls).2.length ≤ 1073741824 := by
  have h1 := (si_cone (wf_of h) ls _ (fun _ hl => mostN_ge hl) (SI.start (mostN ls))).cl
  have h2 := mostN_le hbd
  have h3 := h.len
  have h4 : (coneS ns ls).2.length ≤ mostN ls := Nat.le_trans (Nat.le_add_right _ _) h1
  omega
def inN (ns : Nds) : Nat := ns.length - (gatesL ns).length
theorem cntG_step (ns : Nds) : ∀ k m, k ≤ m → m ≤ ns.length → cntG ns m ≤ cntG ns k + (m - k)
  | k, 0, h1, _ => by
    have : k = 0 := by omega
    subst this
    simp
  | k, m + 1, h1, h2 => by
    rcases Nat.lt_or_ge k (m + 1) with h | h
    · have h3 := cntG_step ns k m (by omega) (by omega)
      rw [cntG_succ ns m (by omega)]
      split <;> omega
    · have : k = m + 1 := by omega
      subst this
      simp
theorem nodK_in {ns : Nds} {n : Nat} (h0 : 0 < n) (hn : n ≤ ns.length) (hk : (nodK ns n).1 ≠ 2) : (nodK ns n).1 = 1 ∧ (nodK ns n).2.1 < inN ns ∧ (nodK ns n).2.2 = 0 := by
  have hlt : n - 1 < ns.length := by omega
  have hu : nodK ns n = match ns.getD (n - 1) none with
    | none => (1, (n - 1 - cntG ns (n - 1), 0))
    | some g => (2, g) := by
    unfold nodK
    rw [if_neg (by omega)]
    cases ns.getD (n - 1) none <;> rfl
  cases hg : ns.getD (n - 1) none with
  | some g =>
    rw [hu, hg] at hk
    exact absurd rfl hk
  | none =>
    rw [hu, hg]
    refine ⟨rfl, ?_, rfl⟩
    show n - 1 - cntG ns (n - 1) < inN ns
    have h1 := cntG_succ ns (n - 1) hlt
    rw [List.getD_eq_getElem?_getD, List.getElem?_eq_getElem hlt] at hg
    have hg2 : ns[n - 1] = none := hg
    rw [hg2] at h1
    have h2 := cntG_step ns (n - 1 + 1) ns.length (by omega) (Nat.le_refl _)
    rw [cntG_all] at h2
    have h3 := gatesL_le ns
    have h4 := cntG_step ns 0 (n - 1) (by omega) (by omega)
    have h5 : cntG ns 0 = 0 := rfl
    have h6 : cntG ns (n - 1 + 1) = cntG ns (n - 1) := by rw [h1]; simp
    unfold inN
    omega
def updN (f : Nat → Nat) (m v i : Nat) : Nat := if i = m then v else f i
theorem updN_wd (f : Nat → Nat) (m v : Nat) : updV (wdV f) m (.int .u64 (v : Int)) = wdV (updN f m v) := by
  funext i
  unfold updV wdV updN
  split <;> rfl
def valStep (ns : Nds) (inp : Nat → Nat) (f : Nat → Nat) (n : Nat) : Nat → Nat := updN f n (if (nodK ns n).1 = 1 then inp (nodK ns n).2.1 else wordN f (nodK ns n).2.1 &&& wordN f (nodK ns n).2.2)
/-- the rows of the nodes of a cone -/
def valW (ns : Nds) (inp : Nat → Nat) (cn : List Nat) : Nat → Nat := cn.foldl (valStep ns inp) (fun _ => 0)
structure WV (H0 : Nat) (w0 w : World) (Vb P nt : Nat) (pg : Nat → Option Nat) (f : Nat → Nat) (cn : List Nat) (vC : Value) : Prop where
  q : w.heap[Vb]? = some (.cells #[.slice (some ⟨P, 0, none⟩) nt nt] 163 (0, 0))
  q0 : H0 ≤ Vb
  tb : TB w 116 120 (.int .u64 0) H0 P nt pg (wdV f)
  cr : w.ownsRow H0 3 1 vC cn.length (natV cn)
  bel : Below H0 w0 w
  hs : H0 ≤ w.heap.size
  fl : ∀ i, f i < 18446744073709551616
theorem tyIW : (3 : TypeId) ≠ 116 := by decide
theorem tyIu : (3 : TypeId) ≠ 120 := by decide
theorem tyTW : (163 : TypeId) ≠ 116 := by decide
theorem tyTu : (163 : TypeId) ≠ 120 := by decide
theorem WV.over {H0 : Nat} {w0 w w' : World} {Vb P nt : Nat} {pg : Nat → Option Nat} {f : Nat → Nat} {cn : List Nat} {vC : Value} (h : WV H0 w0 w Vb P nt pg f cn vC) (hb : Below w.heap.size w w') : WV H0 w0 w' Vb P nt pg f cn vC :=
  ⟨(hb.block Vb (Array.getElem?_eq_some_iff.1 h.q).1).trans h.q, h.q0, h.tb.over hb, ag_same h.cr (fun k hk => hb.block k (h.cr.lt k hk).2), h.bel.trans (hb.mono h.hs), Nat.le_trans h.hs hb.size, h.fl⟩
theorem WV.mark {H0 : Nat} {w0 w w' : World} {Vb P nt : Nat} {pg pg' : Nat → Option Nat} {f : Nat → Nat} {cn : List Nat} {vC : Value} {n v : Nat} (h : WV H0 w0 w Vb P nt pg f cn vC) (hv : v < 18446744073709551616) (ht : TB w' 116 120 (.int .u64 0) H0 P nt pg' (updV (wdV f) n (.int .u64 (v : Int)))) (hk : TK w P nt pg w' pg') : WV H0 w0 w' Vb P nt pg' (updN f n v) cn vC := by
  have hne : ∀ j, (j = P ∨ ∃ k, k < nt ∧ pg k = some j) → vC.ownBlock ≠ some j := fun j hj => by
    obtain ⟨cs, ty, hb, hty, _⟩ := h.tb.typ hj
    refine ag_ne h.cr hb ?_
    rcases hty with e | e
    · rw [e]; exact tyIW
    · rw [e]; exact tyIu
  have hq : ∀ j, (j = P ∨ ∃ k, k < nt ∧ pg k = some j) → j ≠ Vb := fun j hj => by
    obtain ⟨cs, ty, hb, hty, _⟩ := h.tb.typ hj
    rintro rfl
    rw [h.q] at hb
    injection hb with hb
    injection hb with _ hb
    rcases hty with e | e
    · rw [e] at hb; exact absurd hb tyTW
    · rw [e] at hb; exact absurd hb tyTu
  refine ⟨(hk.kp Vb (Array.getElem?_eq_some_iff.1 h.q).1 (fun e => hq _ (Or.inl e) rfl) (fun k hkn hp => hq _ (Or.inr ⟨k, hkn, hp⟩) rfl)).trans h.q, h.q0, updN_wd f n v ▸ ht, ag_same h.cr (fun j hj => hk.kp j (h.cr.lt j hj).2 (fun e => hne j (Or.inl e) hj) (fun k hkn hp => hne j (Or.inr ⟨k, hkn, hp⟩) hj)), ?_, Nat.le_trans h.hs hk.size, fun i => ?_⟩
  · refine ⟨hk.os.trans h.bel.os, hk.tape.trans h.bel.tape, hk.output.trans h.bel.output, Nat.le_trans h.bel.size hk.size, fun x hx => (hk.kp x (Nat.lt_of_lt_of_le hx h.hs) (fun e => ?_) (fun k hkn hp => ?_)).trans (h.bel.block x hx)⟩
    · have := h.tb.low
      omega
    · have := (h.tb.page k x hkn hp).1
      omega
  · unfold updN
    split
    · exact hv
    · exact h.fl i
end Go.Proofs.Ytkomadlmonhlhaa
