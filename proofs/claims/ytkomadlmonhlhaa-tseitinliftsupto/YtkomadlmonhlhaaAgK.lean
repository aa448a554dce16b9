import Derived.Test.YtkomadlmonhlhaaAgH
namespace Go.Proofs.Ytkomadlmonhlhaa
open Go.ChangeShapes Go.WideShapes Go.ChangeAt Go.RowKit Go.Lib Go.Ag Go.WideMaps Go.Maps Go.ChangeMaps

/-- the graph as it was, or grown: what stands -/
structure GK (w : World) (R : Nat) (vb vg : Value) (M : Option Nat) (w' : World) (vb' vg' : Value) (M' : Option Nat) : Prop where
  os : w'.os = w.os
  tape : w'.tape = w.tape
  output : w'.output = w.output
  size : w.heap.size ≤ w'.heap.size
  kp : ∀ j, j < w.heap.size → ¬ ownG R vb vg M j → w'.heap[j]? = w.heap[j]?
  fr : ∀ j, ownG R vb' vg' M' j → ownG R vb vg M j ∨ w.heap.size ≤ j
theorem GK.below {w w' : World} {R : Nat} {vb vg : Value} {M : Option Nat} (h : Below w.heap.size w w') : GK w R vb vg M w' vb vg M :=
  ⟨h.os, h.tape, h.output, h.size, fun j hj _ => h.block j hj, fun _ hj => Or.inl hj⟩
theorem GK.trans {w w1 w2 : World} {R : Nat} {vb vg vb1 vg1 vb2 vg2 : Value} {M M1 M2 : Option Nat} (h : GK w R vb vg M w1 vb1 vg1 M1) (h2 : GK w1 R vb1 vg1 M1 w2 vb2 vg2 M2) : GK w R vb vg M w2 vb2 vg2 M2 := by
  have hs := h.size
  refine ⟨h2.os.trans h.os, h2.tape.trans h.tape, h2.output.trans h.output, Nat.le_trans hs h2.size, fun j hj hn => ?_, fun j hj => ?_⟩
  · rw [h2.kp j (by omega) (fun e => by
      rcases h.fr j e with e | e
      · exact hn e
      · omega)]
    exact h.kp j hj hn
  · rcases h2.fr j hj with e | e
    · exact h.fr j e
    · exact Or.inr (by omega)
def ANP (w : World) (B R : Nat) (ns : Nds) (vb vg : Value) (M : Option Nat) (a b : Nat) (e : Ending) (w' : World) : Prop :=
  ∃ (l : Nat) (ns' : Nds) (nb' : Nat) (vb' vg' : Value) (M' : Option Nat) (D' : DataW Unit), e = .returned (.int .u32 (l : Int)) ∧ andN ns a b = some (l, ns') ∧ GM w' B R ns' nb' vb' vg' M' D' ∧ GK w R vb vg M w' vb' vg' M'
set_option maxHeartbeats 4000000 in
set_option maxRecDepth 100000 in
theorem and_plain (w : World) {B R : Nat} {ns : Nds} {nb : Nat} {vb vg : Value} {M : Option Nat} {D : DataW Unit} (h : GM w B R ns nb vb vg M D) (Wb : Nat) (bf : Int) (hW : w.heap[Wb]? = some (.cells #[.pointer (some ⟨R, 0, none⟩), .int .i64 bf, .bool false] 142 (0, 0))) (a b : Nat) (ha : a / 2 ≤ ns.length) (hb : b / 2 ≤ ns.length) (hl : ns.length < 1073741823) (l : Nat) (hs : andS a b = some l) :
    Calls Try.prog 51 #[.pointer (some ⟨Wb, 0, none⟩), .int .u32 (a : Int), .int .u32 (b : Int)] w (ANP w B R ns vb vg M a b) := by
  generalize hPP : ANP w B R ns vb vg M a b = PP
  have c0 : w.cell? ⟨Wb, 0, none⟩ = some (.pointer (some ⟨R, 0, none⟩)) := ag_cell hW 0
  have c2 : w.cell? ⟨Wb, 2, none⟩ = some (.bool false) := ag_cell hW 2
  have HNT : Hid (∀ W, Calls Try.prog 76 #[.int .u32 (b : Int)] W fun e w' => e = .returned (.int .u32 (notN b : Int)) ∧ w' = W) := fun W => not_any b (by omega) W
  have HH : Hid (GM w B R ns nb vb vg M D) := h
  have HE : Hid (∀ l : Nat, andS a b = some l → PP (.returned (.int .u32 (l : Int))) w) := fun l hl => by
    rw [← hPP]
    exact ⟨l, ns, nb, vb, vg, M, D, rfl, by unfold andN; rw [hl], HH.out, GK.below (Below.refl _ _)⟩
  clear h
  by_cases hA : a = 0
  · subst hA
    go_enter Try.func51, Try.ntmps51
    go_wp2_with fail
    exact HE.out 0 (by unfold andS; simp)
  by_cases hA2 : b = 0
  · subst hA2
    have qa0 : (((a : Int) : Int) == 0) = false := by simp; omega
    go_enter Try.func51, Try.ntmps51
    go_wp2_with fail
    exact HE.out 0 (by unfold andS; simp)
  have qa0 : (((a : Int) : Int) == 0) = false := by simp; omega
  have qb0 : (((b : Int) : Int) == 0) = false := by simp; omega
  by_cases hA3 : a = notN b
  · have qn : ((a : Int) == ((notN b : Nat) : Int)) = true := by simp; omega
    go_enter Try.func51, Try.ntmps51
    go_wp2_with fail
    refine (HNT.out _).mono ?_
    rintro e w1 ⟨rfl, hw1⟩; subst w1
    go_wp2_with fail
    exact HE.out 0 (by unfold andS; rw [if_pos (Or.inr (Or.inr hA3))])
  have qn : ((a : Int) == ((notN b : Nat) : Int)) = false := by simp; omega
  have e1 : ¬ (a = 0 ∨ b = 0 ∨ a = notN b) := by
    rintro (e | e | e)
    · exact hA e
    · exact hA2 e
    · exact hA3 e
  by_cases hA4 : a = 1
  · have HE2 := HE.out b (by unfold andS; rw [if_neg e1, if_pos (Or.inl hA4)])
    have qa1 : ((a : Int) == 1) = true := by simp; omega
    go_enter Try.func51, Try.ntmps51
    go_wp2_with fail
    refine (HNT.out _).mono ?_
    rintro e w1 ⟨rfl, hw1⟩; subst w1
    go_wp2_with fail
    exact HE2
  have qa1 : ((a : Int) == 1) = false := by simp; omega
  by_cases hA5 : a = b
  · have HE2 := HE.out b (by unfold andS; rw [if_neg e1, if_pos (Or.inr hA5)])
    have qab : ((a : Int) == (b : Int)) = true := by simp; omega
    go_enter Try.func51, Try.ntmps51
    go_wp2_with fail
    refine (HNT.out _).mono ?_
    rintro e w1 ⟨rfl, hw1⟩; subst w1
    go_wp2_with fail
    exact HE2
  have qab : ((a : Int) == (b : Int)) = false := by simp; omega
  by_cases hA6 : b = 1
  · have HE2 := HE.out a (by unfold andS; rw [if_neg e1, if_neg (by rintro (e | e); exact hA4 e; exact hA5 e), if_pos hA6])
    have HA6 : Hid (b = 1) := hA6
    clear hA6
    go_enter Try.func51, Try.ntmps51
    go_wp2_with fail
    refine (HNT.out _).mono ?_
    rintro e w1 ⟨rfl, hw1⟩; subst w1
    have qb1 : ((b : Int) == 1) = true := by have := HA6.out; simp; omega
    go_wp2_with fail
    exact HE2
  exfalso
  unfold andS at hs
  rw [if_neg e1, if_neg (by rintro (e | e); exact hA4 e; exact hA5 e), if_neg hA6] at hs
  cases hs
set_option maxHeartbeats 4000000 in
set_option maxRecDepth 100000 in
theorem and_gate (w : World) {B R : Nat} {ns : Nds} {nb : Nat} {vb vg : Value} {M : Option Nat} {D : DataW Unit} (h : GM w B R ns nb vb vg M D) (hB : B ≤ w.heap.size) (Wb : Nat) (bf : Int) (hW : w.heap[Wb]? = some (.cells #[.pointer (some ⟨R, 0, none⟩), .int .i64 bf, .bool false] 142 (0, 0))) (a b : Nat) (ha : a / 2 ≤ ns.length) (hb : b / 2 ≤ ns.length) (hl : ns.length < 1073741823) (hs : andS a b = none) :
    Calls Try.prog 51 #[.pointer (some ⟨Wb, 0, none⟩), .int .u32 (a : Int), .int .u32 (b : Int)] w (ANP w B R ns vb vg M a b) := by
  generalize hPP : ANP w B R ns vb vg M a b = PP
  have c0 : w.cell? ⟨Wb, 0, none⟩ = some (.pointer (some ⟨R, 0, none⟩)) := ag_cell hW 0
  have c2 : w.cell? ⟨Wb, 2, none⟩ = some (.bool false) := ag_cell hW 2
  have HNT : Hid (∀ W, Calls Try.prog 76 #[.int .u32 (b : Int)] W fun e w' => e = .returned (.int .u32 (notN b : Int)) ∧ w' = W) := fun W => not_any b (by omega) W
  have HH : Hid (GM w B R ns nb vb vg M D) := h
  have e1 : ¬ (a = 0 ∨ b = 0 ∨ a = notN b) := fun e => by unfold andS at hs; rw [if_pos e] at hs; cases hs
  have e2 : ¬ (a = 1 ∨ a = b) := fun e => by unfold andS at hs; rw [if_neg e1, if_pos e] at hs; cases hs
  have e3 : ¬ b = 1 := fun e => by unfold andS at hs; rw [if_neg e1, if_neg e2, if_pos e] at hs; cases hs
  have qa0 : (((a : Int) : Int) == 0) = false := by simp; omega
  have qb0 : (((b : Int) : Int) == 0) = false := by simp; omega
  have qn : ((a : Int) == ((notN b : Nat) : Int)) = false := by simp; omega
  have qa1 : ((a : Int) == 1) = false := by simp; omega
  have qab : ((a : Int) == (b : Int)) = false := by simp; omega
  have qb1 : ((b : Int) == 1) = false := by simp; omega
  obtain ⟨W1, hW1⟩ : ∃ W1, w.alloc (.cells #[.int .u32 (a : Int), .int .u32 (b : Int)] 96) = W1 := ⟨_, rfl⟩
  have HM1 : Hid (GM W1 B R ns nb vb vg M D ∧ Below w.heap.size w W1 ∧ W1.heap[w.heap.size]? = some (.cells #[.int .u32 (a : Int), .int .u32 (b : Int)] 96 (0, 0))) := by
    rw [← hW1]
    have hb1 := (Below.refl w.heap.size w).alloc (Nat.le_refl _) (.cells #[.int .u32 (a : Int), .int .u32 (b : Int)] 96)
    exact ⟨HH.out.over hb1, hb1, heap_alloc_new _ _⟩
  clear h e1 e2 e3
  go_enter Try.func51, Try.ntmps51
  go_wp2_with fail
  refine (HNT.out _).mono ?_
  rintro e w1 ⟨rfl, hw1⟩; subst w1
  go_wp2_with fail
  try rw [hW1]
  clear hW1 c0 c2
  have hW1 : W1.heap[Wb]? = some (.cells #[.pointer (some ⟨R, 0, none⟩), .int .i64 bf, .bool false] 142 (0, 0)) := (HM1.out.2.1.block Wb (Array.getElem?_eq_some_iff.1 hW).1).trans hW
  have c0 : W1.cell? ⟨Wb, 0, none⟩ = some (.pointer (some ⟨R, 0, none⟩)) := ag_cell hW1 0
  have c3 : W1.cell? ⟨R, 3, none⟩ = some (.map M) := ag_cell HM1.out.1.blk 3
  have d0 : W1.cell? ⟨w.heap.size, 0, none⟩ = some (.int .u32 (a : Int)) := ag_cell HM1.out.2.2 0
  have d1 : W1.cell? ⟨w.heap.size, 1, none⟩ = some (.int .u32 (b : Int)) := ag_cell HM1.out.2.2 1
  have hlk : (Instr.lookup 89 (.map M) (.agg #[.int .u32 (a : Int), .int .u32 (b : Int)]) true).run Try.prog W1.drew = .ok (.tuple #[.int .u32 (((fnd ns (a, b)).map fun l => (l : Int)).getD 0), .bool ((fnd ns (a, b)).map fun l => (l : Int)).isSome]) W1.drew :=
    FM.look lawG Try.underlying89 HM1.out.1.mo.drew HM1.out.1.fm (a, b) ⟨by show a < _; omega, by show b < _; omega⟩
  clear hW1
  cases hf : fnd ns (a, b) with
  | some l =>
    rw [hf] at hlk
    have hlk2 : (Instr.lookup 89 (.map M) (.agg #[.int .u32 (a : Int), .int .u32 (b : Int)]) true).run Try.prog W1.drew = .ok (.tuple #[.int .u32 (l : Int), .bool true]) W1.drew := hlk
    clear hlk
    have HE : PP (.returned (.int .u32 (l : Int))) W1.drew := by
      rw [← hPP]
      exact ⟨l, ns, nb, vb, vg, M, D, rfl, by unfold andN; rw [hs]; show (match fnd ns (a, b) with | some l => some (l, ns) | none => _) = _; rw [hf], HM1.out.1.over ⟨rfl, rfl, rfl, Nat.le_refl _, fun _ _ => rfl⟩, GK.below HM1.out.2.1.drew⟩
    go_region
    go_wp2_with fail
    exact HE
  | none =>
    rw [hf] at hlk
    have hlk2 : (Instr.lookup 89 (.map M) (.agg #[.int .u32 (a : Int), .int .u32 (b : Int)]) true).run Try.prog W1.drew = .ok (.tuple #[.int .u32 0, .bool false]) W1.drew := hlk
    clear hlk
    have HFL : Hid (∀ W : World, W.cell? ⟨R, 0, none⟩ = some (.int .i64 (ns.length : Int)) → Calls Try.prog 46 #[.pointer (some ⟨R, 0, none⟩)] W fun e w' => e = .returned (.bool false) ∧ w' = W) := fun W hc => by
      have h5 := full_any W R ns.length hc
      rw [decide_eq_false (by omega)] at h5
      exact h5
    obtain ⟨lt, hlt⟩ : ∃ lt, 2 * (ns.length + 1) = lt := ⟨_, rfl⟩
    have HAG : Hid (∀ W, GM W B R ns nb vb vg M D → Below w.heap.size w W → Calls Try.prog 77 #[.pointer (some ⟨R, 0, none⟩), .agg #[.int .u32 (a : Int), .int .u32 (b : Int)]] W fun e w' => e = .returned (.int .u32 (lt : Int)) ∧ PP (.returned (.int .u32 (lt : Int))) w') := fun W hg hbw => by
      refine (addGate_any W hg (Nat.le_trans hB hbw.size) a b ha hb hl hf).mono ?_
      rintro e w' ⟨he, nb', vb', vg', M', D', hg', h1, h2, h3, h4, h5, h6⟩
      rw [← hlt]
      refine ⟨he, ?_⟩
      rw [← hPP]
      exact ⟨_, ns ++ [some (a, b)], nb', vb', vg', M', D', rfl, by unfold andN; rw [hs]; show (match fnd ns (a, b) with | some l => some (l, ns) | none => _) = _; rw [hf]; exact if_neg (by omega), hg', (GK.below hbw).trans ⟨h1, h2, h3, h4, h5, h6⟩⟩
    have r0 : W1.cell? ⟨R, 0, none⟩ = some (.int .i64 (ns.length : Int)) := ag_cell HM1.out.1.blk 0
    have HM2 : Hid (GM W1.drew B R ns nb vb vg M D ∧ Below w.heap.size w W1.drew) := ⟨HM1.out.1.over ⟨rfl, rfl, rfl, Nat.le_refl _, fun _ _ => rfl⟩, HM1.out.2.1.drew⟩
    have HM3 : Hid (GM W1.drew.drew B R ns nb vb vg M D ∧ Below w.heap.size w W1.drew.drew) := ⟨HM2.out.1.over ⟨rfl, rfl, rfl, Nat.le_refl _, fun _ _ => rfl⟩, HM2.out.2.drew⟩
    clear hlt
    go_region
    go_wp2_with fail
    refine (HFL.out W1.drew r0).mono ?_
    rintro e w2 ⟨rfl, hw2⟩; subst w2
    go_wp2_with fail
    refine (fun (KEY : Hid (∀ w3 : World, Hid (PP (.returned (.int .u32 (lt : Int))) w3) → (?PHI : World → Prop) w3)) => ?main) ?key
    case main =>
      go_region_law (first | (go_simp; go_at_call 77; refine (HAG.out _ HM3.out.1 HM3.out.2).mono ?_; rintro e w3 ⟨rfl, hp⟩; have HP : Hid (PP (.returned (.int .u32 (lt : Int))) w3) := hp; clear hp))
      all_goals exact KEY.out w3 HP
    case key =>
      intro w3 HP
      go_wp2_with fail
      go_ret
      exact HP.out
theorem and_any (w : World) {B R : Nat} {ns : Nds} {nb : Nat} {vb vg : Value} {M : Option Nat} {D : DataW Unit} (h : GM w B R ns nb vb vg M D) (hB : B ≤ w.heap.size) (Wb : Nat) (bf : Int) (hW : w.heap[Wb]? = some (.cells #[.pointer (some ⟨R, 0, none⟩), .int .i64 bf, .bool false] 142 (0, 0))) (a b : Nat) (ha : a / 2 ≤ ns.length) (hb : b / 2 ≤ ns.length) (hl : ns.length < 1073741823) :
    Calls Try.prog 51 #[.pointer (some ⟨Wb, 0, none⟩), .int .u32 (a : Int), .int .u32 (b : Int)] w (ANP w B R ns vb vg M a b) := by
  cases hs : andS a b with
  | some l => exact and_plain w h Wb bf hW a b ha hb hl l hs
  | none => exact and_gate w h hB Wb bf hW a b ha hb hl hs
end Go.Proofs.Ytkomadlmonhlhaa
namespace Go.Proofs.Ytkomadlmonhlhaa
open Go.ChangeShapes Go.WideShapes Go.ChangeAt Go.RowKit Go.Lib Go.Ag Go.WideMaps Go.Maps Go.ChangeMaps

theorem GM.own_lt {w : World} {B R : Nat} {ns : Nds} {nb : Nat} {vb vg : Value} {M : Option Nat} {D : DataW Unit} (h : GM w B R ns nb vb vg M D) {j : Nat} (hj : ownG R vb vg M j) : j < w.heap.size := by
  rcases hj with e | e | e | e
  · rw [e]; exact (Array.getElem?_eq_some_iff.1 h.blk).1
  · exact (h.rb.lt _ e).2
  · exact (h.rg.lt _ e).2
  · obtain ⟨es, cl, hm⟩ := h.mo.block e
    exact (Array.getElem?_eq_some_iff.1 hm).1
theorem begin_any (w : World) (R m : Nat) (hc : w.cell? ⟨R, 0, none⟩ = some (.int .i64 (m : Int))) :
    Calls Try.prog 49 #[.pointer (some ⟨R, 0, none⟩)] w fun e w' => e = .returned (.pointer (some ⟨w.heap.size, 0, none⟩)) ∧ w' = w.alloc (.cells #[.pointer (some ⟨R, 0, none⟩), .int .i64 (m : Int), .bool false] 142) := by
  go_enter Try.func49, Try.ntmps49
  go_wp2_with fail
  go_ret
  exact ⟨rfl, rfl⟩
theorem end_any (w : World) (R Wb : Nat) (bf : Int) (l : Nat) (hW : w.heap[Wb]? = some (.cells #[.pointer (some ⟨R, 0, none⟩), .int .i64 bf, .bool false] 142 (0, 0))) :
    Calls Try.prog 50 #[.pointer (some ⟨Wb, 0, none⟩), .int .u32 (l : Int)] w fun e w' => e = .returned (.tuple #[.int .u32 (l : Int), .int .i64 0]) ∧ w' = w := by
  have c2 : w.cell? ⟨Wb, 2, none⟩ = some (.bool false) := ag_cell hW 2
  go_enter Try.func50, Try.ntmps50
  go_wp2_with fail
  first | exact ⟨rfl, rfl⟩ | (go_ret2; exact ⟨rfl, rfl⟩)
set_option maxHeartbeats 4000000 in
set_option maxRecDepth 100000 in
theorem And_any (w : World) {B R : Nat} {ns : Nds} {nb : Nat} {vb vg : Value} {M : Option Nat} {D : DataW Unit} (h : GM w B R ns nb vb vg M D) (hB : B ≤ w.heap.size) (a b : Nat) (ha : a / 2 ≤ ns.length) (hb : b / 2 ≤ ns.length) (hl : ns.length < 1073741823) :
    Calls Try.prog 29 #[.pointer (some ⟨R, 0, none⟩), .int .u32 (a : Int), .int .u32 (b : Int)] w fun e w' => ∃ (l : Nat) (ns' : Nds) (nb' : Nat) (vb' vg' : Value) (M' : Option Nat) (D' : DataW Unit), e = .returned (.tuple #[.int .u32 (l : Int), .int .i64 0]) ∧ andN ns a b = some (l, ns') ∧ GM w' B R ns' nb' vb' vg' M' D' ∧ GK w R vb vg M w' vb' vg' M' := by
  generalize hPP : (fun (e : Ending) (w' : World) => ∃ (l : Nat) (ns' : Nds) (nb' : Nat) (vb' vg' : Value) (M' : Option Nat) (D' : DataW Unit), e = .returned (.tuple #[.int .u32 (l : Int), .int .i64 0]) ∧ andN ns a b = some (l, ns') ∧ GM w' B R ns' nb' vb' vg' M' D' ∧ GK w R vb vg M w' vb' vg' M') = PP
  have HH : Hid (GM w B R ns nb vb vg M D) := h
  clear h
  have HM1 : Hid (GM (w.alloc (.cells #[.int .u32 (a : Int), .int .u32 (b : Int)] 42)) B R ns nb vb vg M D ∧ Below w.heap.size w (w.alloc (.cells #[.int .u32 (a : Int), .int .u32 (b : Int)] 42))) := by
    have hb1 := (Below.refl w.heap.size w).alloc (Nat.le_refl _) (.cells #[.int .u32 (a : Int), .int .u32 (b : Int)] 42)
    exact ⟨HH.out.over hb1, hb1⟩
  have HRF : Hid (Calls Try.prog 48 #[.pointer (some ⟨R, 0, none⟩), .slice (some ⟨w.heap.size, 0, none⟩) 2 2] (w.alloc (.cells #[.int .u32 (a : Int), .int .u32 (b : Int)] 42)) fun e w' => e = .returned (.int .i64 0) ∧ ∃ d, w' = (w.alloc (.cells #[.int .u32 (a : Int), .int .u32 (b : Int)] 42)).drewN d) := by
    have h5 := refusal_any (w.alloc (.cells #[.int .u32 (a : Int), .int .u32 (b : Int)] 42)) R ns.length (ag_cell HM1.out.1.blk 0) (some ⟨w.heap.size, 0, none⟩) [a, b] 2 (fun _ => ⟨w.heap.size, 0, rfl, by simp, fun j hj => by
      have hj2 : j < 2 := hj
      rw [ag_cell (heap_alloc_new w _)]
      match j, hj2 with
      | 0, _ => rfl
      | 1, _ => rfl⟩) (by intro l hl; simp at hl; omega) (by simp)
    have e0 : refE ns.length [a, b] = 0 := by
      simp [refE]
      omega
    rw [e0] at h5
    exact h5
  go_enter Try.func29, Try.ntmps29
  go_wp2_with fail
  refine HRF.out.mono ?_
  rintro e w2 ⟨rfl, d, hw2⟩
  have HM2 : Hid (GM w2 B R ns nb vb vg M D ∧ Below w.heap.size w w2) := by
    rw [hw2]
    exact ⟨HM1.out.1.over ⟨rfl, rfl, rfl, Nat.le_refl _, fun _ _ => rfl⟩, HM1.out.2.trans ⟨rfl, rfl, rfl, Nat.le_refl _, fun _ _ => rfl⟩⟩
  clear hw2 HRF HM1
  have HBG : Hid (Calls Try.prog 49 #[.pointer (some ⟨R, 0, none⟩)] w2 fun e w' => e = .returned (.pointer (some ⟨w2.heap.size, 0, none⟩)) ∧ w' = w2.alloc (.cells #[.pointer (some ⟨R, 0, none⟩), .int .i64 (ns.length : Int), .bool false] 142)) := begin_any w2 R ns.length (ag_cell HM2.out.1.blk 0)
  go_wp2_with fail
  refine HBG.out.mono ?_
  rintro e w3 ⟨rfl, hw3⟩
  have HM3 : Hid (GM w3 B R ns nb vb vg M D ∧ Below w.heap.size w w3 ∧ w3.heap[w2.heap.size]? = some (.cells #[.pointer (some ⟨R, 0, none⟩), .int .i64 (ns.length : Int), .bool false] 142 (0, 0)) ∧ ¬ ownG R vb vg M w2.heap.size) := by
    rw [hw3]
    have hb3 := (Below.refl w2.heap.size w2).alloc (Nat.le_refl _) (.cells #[.pointer (some ⟨R, 0, none⟩), .int .i64 (ns.length : Int), .bool false] 142)
    exact ⟨HM2.out.1.over hb3, ag_next HM2.out.2 hb3, heap_alloc_new _ _, fun e => Nat.lt_irrefl _ (HM2.out.1.own_lt e)⟩
  clear hw3 HBG HM2
  generalize w2.heap.size = Wb at *
  go_wp2_with fail
  refine (and_any w3 HM3.out.1 (Nat.le_trans hB HM3.out.2.1.size) Wb (ns.length : Int) HM3.out.2.2.1 a b ha hb hl).mono ?_
  rintro e w4 ⟨l, ns', nb', vb', vg', M', D', rfl, hn4, hg4, hk4⟩
  have HK4 : Hid (PP (.returned (.tuple #[.int .u32 (l : Int), .int .i64 0])) w4) := by
    rw [← hPP]
    exact ⟨l, ns', nb', vb', vg', M', D', rfl, hn4, hg4, (GK.below HM3.out.2.1).trans hk4⟩
  have HEN : Hid (Calls Try.prog 50 #[.pointer (some ⟨Wb, 0, none⟩), .int .u32 (l : Int)] w4 fun e w' => e = .returned (.tuple #[.int .u32 (l : Int), .int .i64 0]) ∧ w' = w4) := end_any w4 R Wb (ns.length : Int) l ((hk4.kp Wb (Array.getElem?_eq_some_iff.1 HM3.out.2.2.1).1 HM3.out.2.2.2).trans HM3.out.2.2.1)
  clear hn4 hg4 hk4 HM3
  go_wp2_with fail
  refine HEN.out.mono ?_
  rintro e w5 ⟨rfl, hw5⟩; subst w5
  go_wp2_with fail
  first | exact HK4.out | (go_ret2; exact HK4.out)
end Go.Proofs.Ytkomadlmonhlhaa
namespace Go.Proofs.Ytkomadlmonhlhaa
open Go.ChangeShapes Go.WideShapes Go.ChangeAt Go.RowKit Go.Lib Go.Ag Go.WideMaps Go.Maps Go.ChangeMaps

theorem andS_le {a b l m : Nat} (h : andS a b = some l) (ha : a / 2 ≤ m) (hb : b / 2 ≤ m) : l / 2 ≤ m := by
  unfold andS at h
  split at h
  · cases h; omega
  · split at h
    · cases h; exact hb
    · split at h
      · cases h; exact ha
      · cases h
theorem andN_le {ns ns' : Nds} {a b l : Nat} (h : andN ns a b = some (l, ns')) (ha : a / 2 ≤ ns.length) (hb : b / 2 ≤ ns.length) : l / 2 ≤ ns'.length ∧ ns.length ≤ ns'.length ∧ ns'.length ≤ ns.length + 1 := by
  unfold andN at h
  split at h
  · rename_i x hx
    cases h
    exact ⟨andS_le hx ha hb, Nat.le_refl _, Nat.le_succ _⟩
  · split at h
    · rename_i x hx
      cases h
      obtain ⟨i, hi, e, -⟩ := fnd_is hx
      exact ⟨by omega, Nat.le_refl _, Nat.le_succ _⟩
    · split at h
      · cases h
      · cases h
        simp
end Go.Proofs.Ytkomadlmonhlhaa
