import Derived.Test.YtekdmdnnpcjaoaaAgJ
namespace Go.Proofs.Ytekdmdnnpcjaoaa
open Go.ChangeShapes Go.WideShapes Go.ChangeAt Go.RowKit Go.Lib Go.Ag Go.WideMaps Go.Maps Go.ChangeMaps

theorem andS_le {a b l m : Nat} (h : andS a b = some l) (ha : a / 2 ≤ m) (hb : b / 2 ≤ m) : l / 2 ≤ m := by
  unfold andS at h
  split at h
  · cases h; omega
  · split at h
    · cases h; exact hb
    · split at h
      · cases h; exact ha
      · cases h
theorem andN_le {ns ns' : Nds} {a b l : Nat} (h : andN ns a b = some (l, ns')) (ha : a / 2 ≤ ns.length) (hb : b / 2 ≤ ns.length) : l / 2 ≤ ns'.length ∧ ns.length ≤ ns'.length ∧ ns'.length ≤ ns.length + 1 := by
  unfold andN at h
  split at h
  · rename_i x hx
    cases h
    exact ⟨andS_le hx ha hb, Nat.le_refl _, Nat.le_succ _⟩
  · split at h
    · rename_i x hx
      cases h
      obtain ⟨i, hi, e, -⟩ := fnd_is hx
      exact ⟨by omega, Nat.le_refl _, Nat.le_succ _⟩
    · split at h
      · cases h
      · cases h
        simp
set_option maxHeartbeats 4000000 in
set_option maxRecDepth 100000 in
theorem Xor_any (w : World) {B R : Nat} {ns : Nds} {nb : Nat} {vb vg : Value} {M : Option Nat} {D : DataW Unit} (h : GM w B R ns nb vb vg M D) (hB : B ≤ w.heap.size) (a b : Nat) (ha : a / 2 ≤ ns.length) (hb : b / 2 ≤ ns.length) (hl : ns.length + 2 < 1073741823) :
    Calls Try.prog 19 #[.pointer (some ⟨R, 0, none⟩), .int .u32 (a : Int), .int .u32 (b : Int)] w fun e w' => ∃ (p q l : Nat) (ns1 ns2 ns' : Nds) (nb' : Nat) (vb' vg' : Value) (M' : Option Nat) (D' : DataW Unit), e = .returned (.tuple #[.int .u32 (l : Int), .int .i64 0]) ∧ andN ns a b = some (p, ns1) ∧ andN ns1 (notN a) (notN b) = some (q, ns2) ∧ andN ns2 (notN p) (notN q) = some (l, ns') ∧ GM w' B R ns' nb' vb' vg' M' D' ∧ GK w R vb vg M w' vb' vg' M' := by
  generalize hPP : (fun (e : Ending) (w' : World) => ∃ (p q l : Nat) (ns1 ns2 ns' : Nds) (nb' : Nat) (vb' vg' : Value) (M' : Option Nat) (D' : DataW Unit), e = .returned (.tuple #[.int .u32 (l : Int), .int .i64 0]) ∧ andN ns a b = some (p, ns1) ∧ andN ns1 (notN a) (notN b) = some (q, ns2) ∧ andN ns2 (notN p) (notN q) = some (l, ns') ∧ GM w' B R ns' nb' vb' vg' M' D' ∧ GK w R vb vg M w' vb' vg' M') = PP
  have HH : Hid (GM w B R ns nb vb vg M D) := h
  clear h
  have HM1 : Hid (GM (w.alloc (.cells #[.int .u32 (a : Int), .int .u32 (b : Int)] 44)) B R ns nb vb vg M D ∧ Below w.heap.size w (w.alloc (.cells #[.int .u32 (a : Int), .int .u32 (b : Int)] 44))) := by
    have hb1 := (Below.refl w.heap.size w).alloc (Nat.le_refl _) (.cells #[.int .u32 (a : Int), .int .u32 (b : Int)] 44)
    exact ⟨HH.out.over hb1, hb1⟩
  have HRF : Hid (Calls Try.prog 24 #[.pointer (some ⟨R, 0, none⟩), .slice (some ⟨w.heap.size, 0, none⟩) 2 2] (w.alloc (.cells #[.int .u32 (a : Int), .int .u32 (b : Int)] 44)) fun e w' => e = .returned (.int .i64 0) ∧ ∃ d, w' = (w.alloc (.cells #[.int .u32 (a : Int), .int .u32 (b : Int)] 44)).drewN d) := by
    have h5 := refusal_any (w.alloc (.cells #[.int .u32 (a : Int), .int .u32 (b : Int)] 44)) R ns.length (ag_cell HM1.out.1.blk 0) (some ⟨w.heap.size, 0, none⟩) [a, b] 2 (fun _ => ⟨w.heap.size, 0, rfl, by simp, fun j hj => by
      have hj2 : j < 2 := hj
      rw [ag_cell (heap_alloc_new w _)]
      match j, hj2 with
      | 0, _ => rfl
      | 1, _ => rfl⟩) (by intro l hl; simp at hl; omega) (by simp)
    have e0 : refE ns.length [a, b] = 0 := by
      simp [refE]
      omega
    rw [e0] at h5
    exact h5
  go_enter Try.func19, Try.ntmps19
  go_wp2_with fail
  refine HRF.out.mono ?_
  rintro e w2 ⟨rfl, d, hw2⟩
  have HM2 : Hid (GM w2 B R ns nb vb vg M D ∧ Below w.heap.size w w2) := by
    rw [hw2]
    exact ⟨HM1.out.1.over ⟨rfl, rfl, rfl, Nat.le_refl _, fun _ _ => rfl⟩, HM1.out.2.trans ⟨rfl, rfl, rfl, Nat.le_refl _, fun _ _ => rfl⟩⟩
  clear hw2 HRF HM1
  have HBG : Hid (Calls Try.prog 30 #[.pointer (some ⟨R, 0, none⟩)] w2 fun e w' => e = .returned (.pointer (some ⟨w2.heap.size, 0, none⟩)) ∧ w' = w2.alloc (.cells #[.pointer (some ⟨R, 0, none⟩), .int .i64 (ns.length : Int), .bool false] 98)) := begin_any w2 R ns.length (ag_cell HM2.out.1.blk 0)
  go_wp2_with fail
  refine HBG.out.mono ?_
  rintro e w3 ⟨rfl, hw3⟩
  have HM3 : Hid (GM w3 B R ns nb vb vg M D ∧ Below w.heap.size w w3 ∧ w3.heap[w2.heap.size]? = some (.cells #[.pointer (some ⟨R, 0, none⟩), .int .i64 (ns.length : Int), .bool false] 98 (0, 0)) ∧ ¬ ownG R vb vg M w2.heap.size) := by
    rw [hw3]
    have hb3 := (Below.refl w2.heap.size w2).alloc (Nat.le_refl _) (.cells #[.pointer (some ⟨R, 0, none⟩), .int .i64 (ns.length : Int), .bool false] 98)
    exact ⟨HM2.out.1.over hb3, ag_next HM2.out.2 hb3, heap_alloc_new _ _, fun e => Nat.lt_irrefl _ (HM2.out.1.own_lt e)⟩
  clear hw3 HBG HM2
  generalize w2.heap.size = Wb at *
  go_wp2_with fail
  refine (and_any w3 HM3.out.1 (Nat.le_trans hB HM3.out.2.1.size) Wb (ns.length : Int) HM3.out.2.2.1 a b ha hb (by omega)).mono ?_
  rintro e w4 ⟨p, ns1, nb1, vb1, vg1, M1, D1, rfl, hn4, hg4, hk4⟩
  have HN4 : Hid (andN ns a b = some (p, ns1)) := hn4
  have hle4 := andN_le hn4 ha hb
  have HM4 : Hid (GM w4 B R ns1 nb1 vb1 vg1 M1 D1 ∧ GK w R vb vg M w4 vb1 vg1 M1 ∧ w4.heap[Wb]? = some (.cells #[.pointer (some ⟨R, 0, none⟩), .int .i64 (ns.length : Int), .bool false] 98 (0, 0)) ∧ ¬ ownG R vb1 vg1 M1 Wb) := by
    have hwb := (Array.getElem?_eq_some_iff.1 HM3.out.2.2.1).1
    refine ⟨hg4, (GK.below HM3.out.2.1).trans hk4, (hk4.kp Wb hwb HM3.out.2.2.2).trans HM3.out.2.2.1, fun e => ?_⟩
    rcases hk4.fr Wb e with e2 | e2
    · exact HM3.out.2.2.2 e2
    · omega
  clear hn4 hg4 hk4 HM3
  go_wp2_with fail
  refine (not_any a (by omega) w4).mono ?_
  rintro e wn ⟨rfl, hwn⟩; subst wn
  go_wp2_with fail
  refine (not_any b (by omega) w4).mono ?_
  rintro e wn ⟨rfl, hwn⟩; subst wn
  go_wp2_with fail
  have hna := not_half a
  have hnb := not_half b
  refine (and_any w4 HM4.out.1 (Nat.le_trans hB HM4.out.2.1.size) Wb (ns.length : Int) HM4.out.2.2.1 (notN a) (notN b) (by omega) (by omega) (by omega)).mono ?_
  rintro e w5 ⟨q, ns2, nb2, vb2, vg2, M2, D2, rfl, hn5, hg5, hk5⟩
  have HN5 : Hid (andN ns1 (notN a) (notN b) = some (q, ns2)) := hn5
  have hle5 := andN_le hn5 (by omega) (by omega)
  have HM5 : Hid (GM w5 B R ns2 nb2 vb2 vg2 M2 D2 ∧ GK w R vb vg M w5 vb2 vg2 M2 ∧ w5.heap[Wb]? = some (.cells #[.pointer (some ⟨R, 0, none⟩), .int .i64 (ns.length : Int), .bool false] 98 (0, 0)) ∧ ¬ ownG R vb2 vg2 M2 Wb) := by
    have hwb := (Array.getElem?_eq_some_iff.1 HM4.out.2.2.1).1
    refine ⟨hg5, HM4.out.2.1.trans hk5, (hk5.kp Wb hwb HM4.out.2.2.2).trans HM4.out.2.2.1, fun e => ?_⟩
    rcases hk5.fr Wb e with e2 | e2
    · exact HM4.out.2.2.2 e2
    · omega
  clear hn5 hg5 hk5 HM4 hna hnb
  go_wp2_with fail
  refine (not_any p (by omega) w5).mono ?_
  rintro e wn ⟨rfl, hwn⟩; subst wn
  go_wp2_with fail
  refine (not_any q (by omega) w5).mono ?_
  rintro e wn ⟨rfl, hwn⟩; subst wn
  go_wp2_with fail
  have hnp := not_half p
  have hnq := not_half q
  refine (and_any w5 HM5.out.1 (Nat.le_trans hB HM5.out.2.1.size) Wb (ns.length : Int) HM5.out.2.2.1 (notN p) (notN q) (by omega) (by omega) (by omega)).mono ?_
  rintro e w6 ⟨l, ns3, nb3, vb3, vg3, M3, D3, rfl, hn6, hg6, hk6⟩
  have HK6 : Hid (PP (.returned (.tuple #[.int .u32 (l : Int), .int .i64 0])) w6) := by
    rw [← hPP]
    exact ⟨p, q, l, ns1, ns2, ns3, nb3, vb3, vg3, M3, D3, rfl, HN4.out, HN5.out, hn6, hg6, HM5.out.2.1.trans hk6⟩
  have HEN : Hid (Calls Try.prog 36 #[.pointer (some ⟨Wb, 0, none⟩), .int .u32 (l : Int)] w6 fun e w' => e = .returned (.tuple #[.int .u32 (l : Int), .int .i64 0]) ∧ w' = w6) := end_any w6 R Wb (ns.length : Int) l ((hk6.kp Wb (Array.getElem?_eq_some_iff.1 HM5.out.2.2.1).1 HM5.out.2.2.2).trans HM5.out.2.2.1)
  clear hn6 hg6 hk6 HM5
  go_wp2_with fail
  refine HEN.out.mono ?_
  rintro e w7 ⟨rfl, hw7⟩; subst w7
  go_wp2_with fail
  first | exact HK6.out | (go_ret2; exact HK6.out)
end Go.Proofs.Ytekdmdnnpcjaoaa
