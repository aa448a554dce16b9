import Derived.Test.YtilbnlpdnfbapaaTmNa
import Derived.Test.YtilbnlpdnfbapaaTmY
namespace Go.Proofs.Ytilbnlpdnfbapaa
open Go.ChangeShapes Go.WideShapes Go.ChangeAt Go.RowKit Go.Lib Go.Tm Go.Bw Go.Bn Go.WideMaps Go.Maps Go.ChangeMaps

/-- the document's row, as it is read -/
theorem TWO.row {w0 W : World} {B A : Nat} {lim : Int} {L K : List Nd} (h : TWO w0 W B A lim L K) : ∃ ad c, K.length ≤ c ∧ K.length ≤ 1000000000000 ∧ A < W.heap.size ∧ (∀ W', Below W.heap.size W W' → W'.cell? ⟨A, 1, none⟩ = some (.slice ad K.length c)) ∧
    (0 < K.length → ∃ g, ad = some ⟨g, 0, none⟩ ∧ g < W.heap.size ∧ ∀ W', Below W.heap.size W W' → ∀ i j, i < K.length → j < 7 → W'.cell? ⟨g, i * 7 + j, none⟩ = (ndC (K.getD i z0))[j]?) := by
  obtain ⟨B0, A0, v, M1, M2, u, N1, N2, h1, h2, h3, h4, h5, h6, h7, h8, h9⟩ := h
  obtain ⟨ad, c, rfl, hc, hcell⟩ := h2.form
  refine ⟨ad, c, hc, h2.len, h2.lt (Or.inl rfl), fun W' hb => blk_cell (h2.below hb).blk 1, fun hp => ?_⟩
  obtain ⟨g, rfl, hg⟩ := hcell hp
  have hgl : g < W.heap.size := h2.lt (Or.inr (Or.inl rfl))
  exact ⟨g, rfl, hgl, fun W' hb i j hi hj => (World.cell?_of_block (w' := W') (w := W) (a := ⟨g, i * 7 + j, none⟩) (hb.block g hgl)).trans (hg i j hi hj)⟩
theorem TWO.len {w0 W : World} {B A : Nat} {lim : Int} {L K : List Nd} (h : TWO w0 W B A lim L K) : Calls Try.prog 7 #[.pointer (some ⟨B, 0, none⟩)] W fun e w' => e = .returned (.int .i64 (L.length : Int)) ∧ w' = W := by
  obtain ⟨B0, A0, v, M1, M2, u, N1, N2, h1, h2, h3, h4, h5, h6, h7, h8, h9⟩ := h
  exact len_any B0 B lim L v M1 M2 W h1
theorem TWO.node {w0 W : World} {B A : Nat} {lim : Int} {L K : List Nd} (h : TWO w0 W B A lim L K) (i : Nat) (hi : i < L.length) : Calls Try.prog 8 #[.pointer (some ⟨B, 0, none⟩), .int .i64 ((i : Int) + 1)] W fun e w' => e = .returned (.tuple #[nodeV (L.getD i z0), .int .i64 0]) ∧ Below W.heap.size W w' := by
  obtain ⟨B0, A0, v, M1, M2, u, N1, N2, h1, h2, h3, h4, h5, h6, h7, h8, h9⟩ := h
  exact node_ok B0 B lim L v M1 M2 i W h1 hi
theorem TWO.noNode {w0 W : World} {B A : Nat} {lim : Int} {L K : List Nd} (h : TWO w0 W B A lim L K) (t : Int) (hi : isT L t = false) : Calls Try.prog 8 #[.pointer (some ⟨B, 0, none⟩), .int .i64 t] W fun e w' => e = .returned (.tuple #[nodeV z0, .int .i64 70]) ∧ Below W.heap.size W w' := by
  obtain ⟨B0, A0, v, M1, M2, u, N1, N2, h1, h2, h3, h4, h5, h6, h7, h8, h9⟩ := h
  exact node_no B0 B lim L v M1 M2 t W h1 hi
set_option maxHeartbeats 4000000 in
theorem nodes_no (lim t : Int) {ad : Option Addr} {cp : Nat} {sc : List OPR} (w : World) (h : lim < 0) : Calls Try.prog 4 #[.int .i64 lim, .slice ad sc.length cp, .int .i64 t] w fun e w' => e = .returned (.bool true) ∧ Below w.heap.size w w' := by
  have HB : Hid (Calls Try.prog 6 #[.int .i64 lim, .slice ad sc.length cp] w fun e w' => e = .returned (.tuple #[.pointer none, .pointer none, .bool true]) ∧ Below w.heap.size w w') := both_no lim _ w h
  clear h
  generalize sc.length = n at *
  go_enter Try.func4, Try.ntmps4
  go_wp2_with fail
  refine HB.out.mono ?_
  rintro e w1 ⟨rfl, hb⟩
  have HX : Hid (Below w.heap.size w w1) := hb
  clear hb
  go_wp2
  go_ret
  exact ⟨rfl, HX.out⟩
set_option maxHeartbeats 4000000 in
set_option maxRecDepth 100000 in
theorem nodes_yes (lim t : Int) (hlim : I64 lim) {ad : Option Addr} {cp : Nat} {sc : List OPR} (w : World) (h : ¬ lim < 0) (hs : SCR w w.heap.size ad sc) (hl : sc.length < 1000000000000) : Calls Try.prog 4 #[.int .i64 lim, .slice ad sc.length cp, .int .i64 t] w fun e w' => e = .returned (.bool true) ∧ Below w.heap.size w w' := by
  have HB : Hid (Calls Try.prog 6 #[.int .i64 lim, .slice ad sc.length cp] w (BothP w lim sc.length)) := both_ok lim w h hlim hs hl
  clear hs hl h hlim
  generalize hPP : (fun (e : Ending) (w' : World) => e = .returned (.bool true) ∧ Below w.heap.size w w') = PP
  have HPP : Hid (∀ w', Below w.heap.size w w' → PP (.returned (.bool true)) w') := fun w' h => by rw [← hPP]; exact ⟨rfl, h⟩
  clear hPP
  generalize sc.length = n at *
  go_enter Try.func4, Try.ntmps4
  go_wp2_with fail
  refine HB.out.mono ?_
  rintro e w1 ⟨B, A, L, rfl, h2, -⟩
  obtain ⟨ad2, c2, hc2, hlen, hA, hrow, hcells⟩ := h2.row
  have HT : Hid (∀ W, Below w1.heap.size w1 W → TWO w W B A lim L L) := fun W hb => h2.over hb
  have HR : Hid (∀ W', Below w1.heap.size w1 W' → W'.cell? ⟨A, 1, none⟩ = some (.slice ad2 L.length c2)) := hrow
  have HC : Hid (0 < L.length → ∃ g, ad2 = some ⟨g, 0, none⟩ ∧ g < w1.heap.size ∧ ∀ W', Below w1.heap.size w1 W' → ∀ i j, i < L.length → j < 7 → W'.cell? ⟨g, i * 7 + j, none⟩ = (ndC (L.getD i z0))[j]?) := hcells
  have HX : Hid (Below w.heap.size w w1) := h2.below
  have HLe : Hid (∀ k, Calls Try.prog 7 #[.pointer (some ⟨B, 0, none⟩)] (w1.drewN k) fun e w' => e = .returned (.int .i64 (L.length : Int)) ∧ w' = w1.drewN k) := fun k => (h2.over (drw (Below.refl _ _) k)).len
  have c1 : w1.cell? ⟨A, 1, none⟩ = some (.slice ad2 L.length c2) := hrow w1 (Below.refl _ _)
  clear h2 hrow hcells HB
  obtain ⟨m, hm⟩ : ∃ m, L.length = m := ⟨_, rfl⟩
  have HK : Hid (L.length = m) := hm
  rw [hm] at hlen c1 hc2 HLe HR
  clear hm
  have qm : ((m : Int) == (m : Int)) = true := by simp
  go_wp2_with fail
  go_big_quiet ((go_at_call 7; exact Calls.quiet_of_same (HLe.out _)))
  go_wp2_with fail
  go_loopg [10] m (fun gk s10 wr => ∃ i : Nat, s10 = .int .i64 (i : Int) ∧ i + gk = m ∧ Aside (Below w1.heap.size w1 wr))
  case atStart => exact ⟨0, rfl, by omega, drw (Below.refl _ _) _⟩
  case round =>
    obtain ⟨i, rfl, hi2, HJ⟩ := hrel
    have c1 : wr.cell? ⟨A, 1, none⟩ = some (.slice ad2 m c2) := HR.out _ HJ.out
    have hAr : A < wr.heap.size := Nat.lt_of_lt_of_le hA HJ.out.size
    by_cases hlt : i < m
    · obtain ⟨g, rfl, hgl, hg⟩ := HC.out (by rw [HK.out]; omega)
      have HNo := (HT.out wr HJ.out).node i (by rw [HK.out]; exact hlt)
      have hgi := fun W hW j hj => hg W hW i j (by rw [HK.out]; exact hlt) hj
      generalize L.getD i z0 = nd at *
      obtain ⟨op, u, a, b, c, num, nm⟩ := nd
      have HND : Hid (Calls Try.prog 8 #[.pointer (some ⟨B, 0, none⟩), .int .i64 ((i : Int) + 1)] wr fun e w' => e = .returned (.tuple #[.agg #[.int .i64 op, .int .i64 u, .int .i64 a, .int .i64 b, .int .i64 c, .int .u64 num, .string nm], .int .i64 0]) ∧ Below wr.heap.size wr w') := HNo
      have HGI : Hid (∀ W, Below w1.heap.size w1 W → ∀ j, j < 7 → W.cell? ⟨g, i * 7 + j, none⟩ = (ndC ⟨op, u, a, b, c, num, nm⟩)[j]?) := hgi
      clear HNo hgi hg
      have q1 : (i : Int) < (m : Int) := by omega
      go_wp2_with fail
      refine HND.out.mono ?_
      rintro e w2 ⟨rfl, hb2⟩
      have HJ2 : Aside (Below w1.heap.size w1 w2) := HJ.out.trans (hb2.mono HJ.out.size)
      clear hb2 HND c1
      have c1 : w2.cell? ⟨A, 1, none⟩ = some (.slice (some ⟨g, 0, none⟩) m c2) := HR.out _ HJ2.out
      have hA2 : A < w2.heap.size := Nat.lt_of_lt_of_le hA HJ2.out.size
      have hg2 : g < w2.heap.size := Nat.lt_of_lt_of_le hgl HJ2.out.size
      have d0 : w2.cell? ⟨g, i * 7, none⟩ = some (.int .i64 op) := HGI.out w2 HJ2.out 0 (by omega)
      have d1 : w2.cell? ⟨g, i * 7 + 1, none⟩ = some (.int .i64 u) := HGI.out w2 HJ2.out 1 (by omega)
      have d2 : w2.cell? ⟨g, i * 7 + 2, none⟩ = some (.int .i64 a) := HGI.out w2 HJ2.out 2 (by omega)
      have d3 : w2.cell? ⟨g, i * 7 + 3, none⟩ = some (.int .i64 b) := HGI.out w2 HJ2.out 3 (by omega)
      have d4 : w2.cell? ⟨g, i * 7 + 4, none⟩ = some (.int .i64 c) := HGI.out w2 HJ2.out 4 (by omega)
      have d5 : w2.cell? ⟨g, i * 7 + 5, none⟩ = some (.int .u64 num) := HGI.out w2 HJ2.out 5 (by omega)
      have d6 : w2.cell? ⟨g, i * 7 + 6, none⟩ = some (.string nm) := HGI.out w2 HJ2.out 6 (by omega)
      have hneq := fun W => neq_node op u a b c num nm W
      go_wp2_with fail
      go_region
      all_goals go_wp2
      all_goals
        (go_roundg (gk - 1)
         case measure => omega
         case rel => exact ⟨i + 1, by simp, by omega, by first | exact (HJ2.out.alloc HJ2.out.size _).drew | exact (HJ2.out.alloc HJ2.out.size _) | exact drw (HJ2.out.alloc HJ2.out.size _) _⟩)
    · have hji : i = m := by omega
      subst hji
      cases ht : isT L t with
      | false =>
        have HND : Hid (Calls Try.prog 8 #[.pointer (some ⟨B, 0, none⟩), .int .i64 t] wr fun e w' => e = .returned (.tuple #[.agg #[.int .i64 0, .int .i64 0, .int .i64 0, .int .i64 0, .int .i64 0, .int .u64 0, .string ⟨#[]⟩], .int .i64 70]) ∧ Below wr.heap.size wr w') := (HT.out wr HJ.out).noNode t ht
        have hto : t < 1 ∨ (i : Int) < t := by
          have h7 : ¬ (1 ≤ t ∧ t ≤ (L.length : Int)) := of_decide_eq_false ht
          rw [HK.out] at h7
          omega
        clear ht
        go_wp2_with fail
        refine HND.out.mono ?_
        rintro e w2 ⟨rfl, hb2⟩
        have HJ2 : Aside (Below w1.heap.size w1 w2) := HJ.out.trans (hb2.mono HJ.out.size)
        clear hb2 HND c1
        have c1 : w2.cell? ⟨A, 1, none⟩ = some (.slice ad2 i c2) := HR.out _ HJ2.out
        have hA2 : A < w2.heap.size := Nat.lt_of_lt_of_le hA HJ2.out.size
        have heq := fun W => eq_node 0 0 0 0 0 0 ⟨#[]⟩ W
        have HY : Hid (Below w1.heap.size w1 (w2.alloc (Obj.cells #[.int .i64 0, .int .i64 0, .int .i64 0, .int .i64 0, .int .i64 0, .int .u64 0, .string ⟨#[]⟩] 36 (0, 0)))) := HJ2.out.alloc HJ2.out.size _
        have hfin : ∀ W', Below w1.heap.size w1 W' → Below w.heap.size w W' := fun W' hb => HX.out.trans (hb.mono HX.out.size)
        by_cases h1 : t < 1
        · have q1 : decide (t < 1) = true := decide_eq_true h1
          go_wp2_with fail
          (try (go_region; all_goals go_wp2_with fail))
          all_goals (try (go_region; all_goals go_wp2_with fail))
          all_goals first | exact HPP.out _ (hfin _ (by first | exact HY.out | exact HY.out.drew | exact HY.out.drew.drew)) | (go_ret; exact HPP.out _ (hfin _ (by first | exact HY.out | exact HY.out.drew | exact HY.out.drew.drew)))
        · have q1 : decide (t < 1) = false := decide_eq_false h1
          have q2 : decide ((i : Int) < t) = true := decide_eq_true (by omega)
          go_wp2_with fail
          (try (go_region; all_goals go_wp2_with fail))
          all_goals (try (go_region; all_goals go_wp2_with fail))
          all_goals first | exact HPP.out _ (hfin _ (by first | exact HY.out | exact HY.out.drew | exact HY.out.drew.drew)) | (go_ret; exact HPP.out _ (hfin _ (by first | exact HY.out | exact HY.out.drew | exact HY.out.drew.drew)))
      | true =>
        have ht1 : 1 ≤ t ∧ t ≤ (i : Int) := by
          have h7 : 1 ≤ t ∧ t ≤ (L.length : Int) := of_decide_eq_true ht
          rw [HK.out] at h7
          exact h7
        obtain ⟨k, rfl⟩ : ∃ k : Nat, t = (k : Int) + 1 := ⟨t.toNat - 1, by omega⟩
        have hk : k < i := by omega
        obtain ⟨g, rfl, hgl, hg⟩ := HC.out (by rw [HK.out]; omega)
        have HNo := (HT.out wr HJ.out).node k (by rw [HK.out]; exact hk)
        have hgi := fun W hW j hj => hg W hW k j (by rw [HK.out]; exact hk) hj
        clear ht
        generalize L.getD k z0 = nd at *
        obtain ⟨op, u, a, b, c, num, nm⟩ := nd
        have HND : Hid (Calls Try.prog 8 #[.pointer (some ⟨B, 0, none⟩), .int .i64 ((k : Int) + 1)] wr fun e w' => e = .returned (.tuple #[.agg #[.int .i64 op, .int .i64 u, .int .i64 a, .int .i64 b, .int .i64 c, .int .u64 num, .string nm], .int .i64 0]) ∧ Below wr.heap.size wr w') := HNo
        have HGI : Hid (∀ W, Below w1.heap.size w1 W → ∀ j, j < 7 → W.cell? ⟨g, k * 7 + j, none⟩ = (ndC ⟨op, u, a, b, c, num, nm⟩)[j]?) := hgi
        clear HNo hgi hg
        have q1 : decide ((k : Int) + 1 < 1) = false := decide_eq_false (by omega)
        have q2 : decide ((i : Int) < (k : Int) + 1) = false := decide_eq_false (by omega)
        have q3 : (k : Int) < (i : Int) := by omega
        go_wp2_with fail
        refine HND.out.mono ?_
        rintro e w2 ⟨rfl, hb2⟩
        have HJ2 : Aside (Below w1.heap.size w1 w2) := HJ.out.trans (hb2.mono HJ.out.size)
        clear hb2 HND c1
        have c1 : w2.cell? ⟨A, 1, none⟩ = some (.slice (some ⟨g, 0, none⟩) i c2) := HR.out _ HJ2.out
        have hA2 : A < w2.heap.size := Nat.lt_of_lt_of_le hA HJ2.out.size
        have hg2 : g < w2.heap.size := Nat.lt_of_lt_of_le hgl HJ2.out.size
        have d0 : w2.cell? ⟨g, k * 7, none⟩ = some (.int .i64 op) := HGI.out w2 HJ2.out 0 (by omega)
        have d1 : w2.cell? ⟨g, k * 7 + 1, none⟩ = some (.int .i64 u) := HGI.out w2 HJ2.out 1 (by omega)
        have d2 : w2.cell? ⟨g, k * 7 + 2, none⟩ = some (.int .i64 a) := HGI.out w2 HJ2.out 2 (by omega)
        have d3 : w2.cell? ⟨g, k * 7 + 3, none⟩ = some (.int .i64 b) := HGI.out w2 HJ2.out 3 (by omega)
        have d4 : w2.cell? ⟨g, k * 7 + 4, none⟩ = some (.int .i64 c) := HGI.out w2 HJ2.out 4 (by omega)
        have d5 : w2.cell? ⟨g, k * 7 + 5, none⟩ = some (.int .u64 num) := HGI.out w2 HJ2.out 5 (by omega)
        have d6 : w2.cell? ⟨g, k * 7 + 6, none⟩ = some (.string nm) := HGI.out w2 HJ2.out 6 (by omega)
        have heq := fun W => eq_node op u a b c num nm W
        have HY : Hid (Below w1.heap.size w1 (w2.alloc (Obj.cells #[.int .i64 op, .int .i64 u, .int .i64 a, .int .i64 b, .int .i64 c, .int .u64 num, .string nm] 36 (0, 0)))) := HJ2.out.alloc HJ2.out.size _
        have hfin : ∀ W', Below w1.heap.size w1 W' → Below w.heap.size w W' := fun W' hb => HX.out.trans (hb.mono HX.out.size)
        go_wp2_with fail
        (try (go_region; all_goals go_wp2_with fail))
        all_goals (try (go_region; all_goals go_wp2_with fail))
        all_goals first | exact HPP.out _ (hfin _ (by first | exact HY.out | exact HY.out.drew | exact HY.out.drew.drew)) | (go_ret; exact HPP.out _ (hfin _ (by first | exact HY.out | exact HY.out.drew | exact HY.out.drew.drew)))
theorem nodes_walk (lim t : Int) (hlim : I64 lim) {ad : Option Addr} {cp : Nat} {sc : List OPR} (w : World) (hs : SCR w w.heap.size ad sc) (hl : sc.length < 1000000000000) : Calls Try.prog 4 #[.int .i64 lim, .slice ad sc.length cp, .int .i64 t] w fun e w' => e = .returned (.bool true) ∧ Below w.heap.size w w' := by
  by_cases h : lim < 0
  · exact nodes_no lim t w h
  · exact nodes_yes lim t hlim w h hs hl
end Go.Proofs.Ytilbnlpdnfbapaa
