import Derived.Test.YtkomadlmonhlhaaAgI
namespace Go.Proofs.Ytkomadlmonhlhaa
open Go.ChangeShapes Go.WideShapes Go.ChangeAt Go.RowKit Go.Lib Go.Ag Go.WideMaps Go.Maps Go.ChangeMaps

theorem GM.own_lt {w : World} {B R : Nat} {ns : Nds} {nb : Nat} {vb vg : Value} {M : Option Nat} {D : DataW Unit} (h : GM w B R ns nb vb vg M D) {j : Nat} (hj : ownG R vb vg M j) : j < w.heap.size := by
  rcases hj with e | e | e | e
  · rw [e]; exact (Array.getElem?_eq_some_iff.1 h.blk).1
  · exact (h.rb.lt _ e).2
  · exact (h.rg.lt _ e).2
  · obtain ⟨es, cl, hm⟩ := h.mo.block e
    exact (Array.getElem?_eq_some_iff.1 hm).1
theorem begin_any (w : World) (R m : Nat) (hc : w.cell? ⟨R, 0, none⟩ = some (.int .i64 (m : Int))) :
    Calls Try.prog 49 #[.pointer (some ⟨R, 0, none⟩)] w fun e w' => e = .returned (.pointer (some ⟨w.heap.size, 0, none⟩)) ∧ w' = w.alloc (.cells #[.pointer (some ⟨R, 0, none⟩), .int .i64 (m : Int), .bool false] 142) := by
  go_enter Try.func49, Try.ntmps49
  go_wp2_with fail
  go_ret
  exact ⟨rfl, rfl⟩
theorem end_any (w : World) (R Wb : Nat) (bf : Int) (l : Nat) (hW : w.heap[Wb]? = some (.cells #[.pointer (some ⟨R, 0, none⟩), .int .i64 bf, .bool false] 142 (0, 0))) :
    Calls Try.prog 50 #[.pointer (some ⟨Wb, 0, none⟩), .int .u32 (l : Int)] w fun e w' => e = .returned (.tuple #[.int .u32 (l : Int), .int .i64 0]) ∧ w' = w := by
  have c2 : w.cell? ⟨Wb, 2, none⟩ = some (.bool false) := ag_cell hW 2
  go_enter Try.func50, Try.ntmps50
  go_wp2_with fail
  first | exact ⟨rfl, rfl⟩ | (go_ret2; exact ⟨rfl, rfl⟩)
set_option maxHeartbeats 4000000 in
set_option maxRecDepth 100000 in
theorem And_any (w : World) {B R : Nat} {ns : Nds} {nb : Nat} {vb vg : Value} {M : Option Nat} {D : DataW Unit} (h : GM w B R ns nb vb vg M D) (hB : B ≤ w.heap.size) (a b : Nat) (ha : a / 2 ≤ ns.length) (hb : b / 2 ≤ ns.length) (hl : ns.length < 1073741823) :
    Calls Try.prog 29 #[.pointer (some ⟨R, 0, none⟩), .int .u32 (a : Int), .int .u32 (b : Int)] w fun e w' => ∃ (l : Nat) (ns' : Nds) (nb' : Nat) (vb' vg' : Value) (M' : Option Nat) (D' : DataW Unit), e = .returned (.tuple #[.int .u32 (l : Int), .int .i64 0]) ∧ andN ns a b = some (l, ns') ∧ GM w' B R ns' nb' vb' vg' M' D' ∧ GK w R vb vg M w' vb' vg' M' := by
  generalize hPP : (fun (e : Ending) (w' : World) => ∃ (l : Nat) (ns' : Nds) (nb' : Nat) (vb' vg' : Value) (M' : Option Nat) (D' : DataW Unit), e = .returned (.tuple #[.int .u32 (l : Int), .int .i64 0]) ∧ andN ns a b = some (l, ns') ∧ GM w' B R ns' nb' vb' vg' M' D' ∧ GK w R vb vg M w' vb' vg' M') = PP
  have HH : Hid (GM w B R ns nb vb vg M D) := h
  clear h
  have HM1 : Hid (GM (w.alloc (.cells #[.int .u32 (a : Int), .int .u32 (b : Int)] 42)) B R ns nb vb vg M D ∧ Below w.heap.size w (w.alloc (.cells #[.int .u32 (a : Int), .int .u32 (b : Int)] 42))) := by
    have hb1 := (Below.refl w.heap.size w).alloc (Nat.le_refl _) (.cells #[.int .u32 (a : Int), .int .u32 (b : Int)] 42)
    exact ⟨HH.out.over hb1, hb1⟩
  have HRF : Hid (Calls Try.prog 48 #[.pointer (some ⟨R, 0, none⟩), .slice (some ⟨w.heap.size, 0, none⟩) 2 2] (w.alloc (.cells #[.int .u32 (a : Int), .int .u32 (b : Int)] 42)) fun e w' => e = .returned (.int .i64 0) ∧ ∃ d, w' = (w.alloc (.cells #[.int .u32 (a : Int), .int .u32 (b : Int)] 42)).drewN d) := by
    have h5 := refusal_any (w.alloc (.cells #[.int .u32 (a : Int), .int .u32 (b : Int)] 42)) R ns.length (ag_cell HM1.out.1.blk 0) (some ⟨w.heap.size, 0, none⟩) [a, b] 2 (fun _ => ⟨w.heap.size, 0, rfl, by simp, fun j hj => by
      have hj2 : j < 2 := hj
      rw [ag_cell (heap_alloc_new w _)]
      match j, hj2 with
      | 0, _ => rfl
      | 1, _ => rfl⟩) (by intro l hl; simp at hl; omega) (by simp)
    have e0 : refE ns.length [a, b] = 0 := by
      simp [refE]
      omega
    rw [e0] at h5
    exact h5
  go_enter Try.func29, Try.ntmps29
  go_wp2_with fail
  refine HRF.out.mono ?_
  rintro e w2 ⟨rfl, d, hw2⟩
  have HM2 : Hid (GM w2 B R ns nb vb vg M D ∧ Below w.heap.size w w2) := by
    rw [hw2]
    exact ⟨HM1.out.1.over ⟨rfl, rfl, rfl, Nat.le_refl _, fun _ _ => rfl⟩, HM1.out.2.trans ⟨rfl, rfl, rfl, Nat.le_refl _, fun _ _ => rfl⟩⟩
  clear hw2 HRF HM1
  have HBG : Hid (Calls Try.prog 49 #[.pointer (some ⟨R, 0, none⟩)] w2 fun e w' => e = .returned (.pointer (some ⟨w2.heap.size, 0, none⟩)) ∧ w' = w2.alloc (.cells #[.pointer (some ⟨R, 0, none⟩), .int .i64 (ns.length : Int), .bool false] 142)) := begin_any w2 R ns.length (ag_cell HM2.out.1.blk 0)
  go_wp2_with fail
  refine HBG.out.mono ?_
  rintro e w3 ⟨rfl, hw3⟩
  have HM3 : Hid (GM w3 B R ns nb vb vg M D ∧ Below w.heap.size w w3 ∧ w3.heap[w2.heap.size]? = some (.cells #[.pointer (some ⟨R, 0, none⟩), .int .i64 (ns.length : Int), .bool false] 142 (0, 0)) ∧ ¬ ownG R vb vg M w2.heap.size) := by
    rw [hw3]
    have hb3 := (Below.refl w2.heap.size w2).alloc (Nat.le_refl _) (.cells #[.pointer (some ⟨R, 0, none⟩), .int .i64 (ns.length : Int), .bool false] 142)
    exact ⟨HM2.out.1.over hb3, ag_next HM2.out.2 hb3, heap_alloc_new _ _, fun e => Nat.lt_irrefl _ (HM2.out.1.own_lt e)⟩
  clear hw3 HBG HM2
  generalize w2.heap.size = Wb at *
  go_wp2_with fail
  refine (and_any w3 HM3.out.1 (Nat.le_trans hB HM3.out.2.1.size) Wb (ns.length : Int) HM3.out.2.2.1 a b ha hb hl).mono ?_
  rintro e w4 ⟨l, ns', nb', vb', vg', M', D', rfl, hn4, hg4, hk4⟩
  have HK4 : Hid (PP (.returned (.tuple #[.int .u32 (l : Int), .int .i64 0])) w4) := by
    rw [← hPP]
    exact ⟨l, ns', nb', vb', vg', M', D', rfl, hn4, hg4, (GK.below HM3.out.2.1).trans hk4⟩
  have HEN : Hid (Calls Try.prog 50 #[.pointer (some ⟨Wb, 0, none⟩), .int .u32 (l : Int)] w4 fun e w' => e = .returned (.tuple #[.int .u32 (l : Int), .int .i64 0]) ∧ w' = w4) := end_any w4 R Wb (ns.length : Int) l ((hk4.kp Wb (Array.getElem?_eq_some_iff.1 HM3.out.2.2.1).1 HM3.out.2.2.2).trans HM3.out.2.2.1)
  clear hn4 hg4 hk4 HM3
  go_wp2_with fail
  refine HEN.out.mono ?_
  rintro e w5 ⟨rfl, hw5⟩; subst w5
  go_wp2_with fail
  first | exact HK4.out | (go_ret2; exact HK4.out)
end Go.Proofs.Ytkomadlmonhlhaa
