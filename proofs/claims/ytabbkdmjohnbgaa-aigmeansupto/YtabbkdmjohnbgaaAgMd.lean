import Derived.Test.YtabbkdmjohnbgaaAgMc
namespace Go.Proofs.Ytabbkdmjohnbgaa
open Go.ChangeShapes Go.WideShapes Go.ChangeAt Go.RowKit Go.Lib Go.Ag Go.WideMaps Go.Maps Go.ChangeMaps Go.Cn

/-- what the law asks of a node -/
theorem gs_node {ns : Nds} (h : GS ns) {n : Nat} (hn : n ≤ ns.length) : ((n = 0) ↔ (nodK ns n).1 = 0) ∧ ((nodK ns n).1 = 2 → 2 ≤ (nodK ns n).2.1 ∧ 2 ≤ (nodK ns n).2.2 ∧ (nodK ns n).2.1 / 2 ≠ (nodK ns n).2.2 / 2 ∧ (nodK ns n).2.1 / 2 < n ∧ (nodK ns n).2.2 / 2 < n ∧ ∀ j, j < n → (nodK ns j).1 = 2 → (nodK ns j).2 ≠ (nodK ns n).2) := by
  rcases Nat.eq_zero_or_pos n with e | h0
  · subst e
    exact ⟨⟨fun _ => rfl, fun _ => rfl⟩, fun h => absurd h (by show ¬ (0 : Nat) = 2; decide)⟩
  · rcases nodK_at h0 hn with ⟨h1, h2⟩ | ⟨g, h1, h2⟩
    · rw [h2]
      exact ⟨⟨fun e => by omega, fun e => absurd e (by show ¬ (1 : Nat) = 0; decide)⟩, fun e => absurd e (by show ¬ (1 : Nat) = 2; decide)⟩
    · rw [h2]
      have h5 := h.ops _ _ h1
      refine ⟨⟨fun e => by omega, fun e => absurd e (by show ¬ (2 : Nat) = 0; decide)⟩, fun _ => ⟨h5.2.2.1, h5.2.2.2.1, h5.2.2.2.2, by show g.1 / 2 < n; omega, by show g.2 / 2 < n; omega, fun j hj hk he => ?_⟩⟩
      have hj0 : 0 < j := by
        rcases Nat.eq_zero_or_pos j with e | e
        · rw [e] at hk; exact absurd hk (by show ¬ (0 : Nat) = 2; decide)
        · exact e
      rcases nodK_at (ns := ns) hj0 (by omega) with ⟨h3, h4⟩ | ⟨g', h3, h4⟩
      · rw [h4] at hk; exact absurd hk (by show ¬ (1 : Nat) = 2; decide)
      · rw [h4] at he
        have he2 : g' = g := he
        rw [he2] at h3
        have := h.one _ _ g h3 h1
        omega
set_option maxHeartbeats 8000000 in
set_option maxRecDepth 100000 in
theorem means_walk (w : World) (ad : Option Addr) (sc : List (Int × Int × Int × Int)) (cp : Nat) (hsc : MDS w ad sc) (hbd : bdM sc) (hn : sc.length ≤ 1048576) (ai : Option Addr) (bs : List Bool) (ci : Nat) (hbs : Bls w ai bs) (hbn : bs.length ≤ 1000000000000) :
    Calls Try.prog 3 #[.slice ad sc.length cp, .slice ai bs.length ci] w fun e w' => e = .returned (.bool true) ∧ Below w.heap.size w w' := by
  obtain ⟨B, hB⟩ : ∃ B, w.heap.size = B := ⟨_, rfl⟩
  rw [hB]
  have HNew : Hid (Calls Try.prog 5 #[] w fun e w' => e = .returned (.pointer (some ⟨B, 0, none⟩)) ∧ w' = w.alloc (.cells #[.int .i64 0, .slice none 0 0, .slice none 0 0, .map none] 54)) := by rw [← hB]; exact new_any w
  have HLv : Hid (∀ W, Calls Try.prog 6 #[] W fun e w' => e = .returned (.bool true) ∧ Below W.heap.size W w') := fun W => live_any W
  have HMd : Hid (∀ w2, GM w2 B B [] 0 (.slice none 0 0) (.slice none 0 0) none (.map []) → Below B w w2 → B < w2.heap.size → Calls Try.prog 7 #[.pointer (some ⟨B, 0, none⟩), .slice ad sc.length cp] w2 fun e w' => ∃ ns L aL cL nb vb vg M D, e = .returned (.tuple #[.slice aL L.length cL, .bool true]) ∧ madeN [] [0] sc = some (ns, L) ∧ MI ns L sc.length ∧ GM w' B B ns nb vb vg M D ∧ Below B w w' ∧ B ≤ w'.heap.size ∧ U32s w' aL L) := fun w2 h1 h2 h3 => made_new w w2 B hB h1 h2 h3 ad sc cp hsc hbd hn
  have HBs : Hid (∀ W, Below B w W → Bls W ai bs) := fun W hW => hbs.below (by rw [hB]; exact hW)
  have HWn : Hid (∀ W aR rs cR, Below B w W → Bls W aR rs → rs.length ≤ 1073741824 → Calls Try.prog 12 #[.slice ad sc.length cp, .slice aR rs.length cR] W fun e w' => ∃ V vV, e = .returned vV ∧ V = (wantS (fun i => rs.getD i false) sc).1 ∧ V.length = sc.length + 1 ∧ WN W V vV w') := fun W aR rs cR hW hr hl => want_any W ad sc cp (hsc.below (by rw [hB]; exact hW)) hbd hn aR rs cR hr hl
  clear hsc hbd hbs
  generalize hnn : sc.length = n at *
  clear hnn
  go_enter Try.func3, Try.ntmps3
  go_wp2_with fail
  refine HNew.out.mono ?_
  rintro e w1 ⟨rfl, hw1⟩
  have HG1 : Hid (GM w1 B B [] 0 (.slice none 0 0) (.slice none 0 0) none (.map []) ∧ Below B w w1 ∧ B < w1.heap.size) := by
    refine ⟨?_, ?_, by rw [hw1]; simp; omega⟩
    · rw [hw1]
      exact GM.new (by rw [← hB]; exact heap_alloc_new _ _) (Nat.le_refl _)
    · rw [hw1, ← hB]
      exact ag_bel1 _ _
  clear hw1 HNew
  go_wp2_with fail
  refine (HLv.out w1).mono ?_
  rintro e w2 ⟨rfl, hb2⟩
  have HG2 : Hid (GM w2 B B [] 0 (.slice none 0 0) (.slice none 0 0) none (.map []) ∧ Below B w w2 ∧ B < w2.heap.size) := ⟨HG1.out.1.over hb2, HG1.out.2.1.trans (hb2.mono (Nat.le_of_lt HG1.out.2.2)), Nat.lt_of_lt_of_le HG1.out.2.2 hb2.size⟩
  clear HG1 hb2 HLv
  go_wp2_with fail
  refine (HMd.out w2 HG2.out.1 HG2.out.2.1 HG2.out.2.2).mono ?_
  rintro e w3 ⟨ns, L, aL, cL, nb, vb, vg, M, D, rfl, hmd, hmi, hg3, hb3, hB3, hu3⟩
  have hin : inN ns ≤ n := hmi.ins
  have hL1 : L.length = n + 1 := hmi.len
  have HL3 : Hid ((∀ l ∈ L, l / 2 ≤ ns.length) ∧ (∀ l ∈ L, l < 4294967296)) := ⟨hmi.lit, fun l hl => by have h1 := hmi.lit l hl; have h2 := hg3.len; omega⟩
  have HG3 : Hid (GM w3 B B ns nb vb vg M D ∧ Below B w w3 ∧ B ≤ w3.heap.size ∧ U32s w3 aL L) := ⟨hg3, hb3, hB3, hu3⟩
  have HSem : Hid (GS ns ∧ ∀ inp, (wantS inp sc).1 = L.map (litV (evs inp ns))) := ⟨(made_sem (fun _ => false) sc ns L hmd).1, fun inp => by rw [(made_sem inp sc ns L hmd).2.2.2]⟩
  have hlen := hg3.len
  clear hmi hg3 hb3 hB3 hu3 HMd HG2 hmd
  rw [hL1]
  have HLL : Hid (L.length = n + 1) := hL1
  clear hL1
  have HFit : Hid (Calls Try.prog 8 #[.pointer (some ⟨B, 0, none⟩), .slice ai bs.length ci] w3 fun e w' => ∃ O, e = .returned (.slice (some ⟨O, 0, none⟩) (inN ns) (inN ns)) ∧ Below w3.heap.size w3 w' ∧ Bls w' (some ⟨O, 0, none⟩) (rowB bs (inN ns))) := fit_any w3 HG3.out.1 ai bs ci (HBs.out w3 HG3.out.2.1) hbn
  go_wp2_with fail
  refine HFit.out.mono ?_
  rintro e w4 ⟨O, rfl, hb4, hr4⟩
  have HG4 : Hid (GM w4 B B ns nb vb vg M D ∧ Below B w w4 ∧ B ≤ w4.heap.size ∧ U32s w4 aL L ∧ Bls w4 (some ⟨O, 0, none⟩) (rowB bs (inN ns))) := ⟨HG3.out.1.over hb4, HG3.out.2.1.trans (hb4.mono HG3.out.2.2.1), Nat.le_trans HG3.out.2.2.1 hb4.size, HG3.out.2.2.2.below hb4, hr4⟩
  clear hb4 hr4 HG3 HFit HBs
  have HEv : Hid (Calls Try.prog 9 #[.pointer (some ⟨B, 0, none⟩), .slice (some ⟨O, 0, none⟩) (inN ns) (inN ns), .slice aL (n + 1) cL] w4 fun e w' => ∃ v, e = .returned (.tuple #[v, .int .i64 0]) ∧ Below w4.heap.size w4 w' ∧ w'.ownsRow w4.heap.size 4 1 v (n + 1) (blV (evalB ns (rowB bs (inN ns)) L))) := by
    have h7 := Eval_ok w4 HG4.out.1 (some ⟨O, 0, none⟩) (rowB bs (inN ns)) (inN ns) HG4.out.2.2.2.2 (rowB_len _ _) aL L cL HG4.out.2.2.2.1 HL3.out.2 HL3.out.1 (by rw [HLL.out]; omega)
    rw [rowB_len, HLL.out] at h7
    exact h7
  have HEq : Hid ((wantS (fun i => (rowB bs (inN ns)).getD i false) sc).1 = evalB ns (rowB bs (inN ns)) L) := by
    show _ = _
    rw [HSem.out.2, eval_sem HSem.out.1 _ _ HL3.out.1]
  have HELn : Hid ((evalB ns (rowB bs (inN ns)) L).length = n + 1) := by show _ = _; unfold evalB; rw [List.length_map, HLL.out]
  have HWn2 : Hid (∀ W, Below w4.heap.size w4 W → Calls Try.prog 12 #[.slice ad n cp, .slice (some ⟨O, 0, none⟩) (inN ns) (inN ns)] W fun e w' => ∃ aV cV, e = .returned (.slice aV (n + 1) cV) ∧ Bls w' aV (evalB ns (rowB bs (inN ns)) L) ∧ Below W.heap.size W w') := fun W hW => by
    have h7 := HWn.out W (some ⟨O, 0, none⟩) (rowB bs (inN ns)) (inN ns) (HG4.out.2.1.trans (hW.mono HG4.out.2.2.1)) (HG4.out.2.2.2.2.below hW) (by rw [rowB_len]; omega)
    rw [rowB_len] at h7
    refine h7.mono ?_
    rintro e w' ⟨V, vV, rfl, hV, hVl, hwn⟩
    obtain ⟨aV, cV, rfl, _, _⟩ := row_form hwn.row
    rw [hVl] at hwn ⊢
    have hbl := bls_of (n := n + 1) (by have := hwn.row; rw [hVl] at this; exact this)
    rw [hV, HEq.out] at hbl
    exact ⟨aV, cV, rfl, hbl, hwn.bel⟩
  clear HWn HEq
  generalize evalB ns (rowB bs (inN ns)) L = EB at *
  generalize inN ns = q at *
  go_wp2_with fail
  refine HEv.out.mono ?_
  rintro e w5 ⟨vE, rfl, hb5, hr5⟩
  obtain ⟨aE, cE, rfl, _, _⟩ := row_form hr5
  have hE5 := bls_of hr5
  have HNo : Hid (∀ W, Calls Try.prog 10 #[.int .i64 0] W fun e w' => e = .returned (.int .i64 0) ∧ w' = W) := fun W => no_any 0 W
  have HE5 : Hid (Bls w5 aE EB ∧ Below w4.heap.size w4 w5) := ⟨hE5, hb5⟩
  clear hr5 hE5 hb5 HEv
  go_wp2_with (go_at_call 10; refine (HNo.out _).mono ?_; rintro e w' ⟨rfl, hw⟩; obtain rfl := hw.symm)
  refine (HWn2.out w5 HE5.out.2).mono ?_
  rintro e w6 ⟨aV, cV, rfl, hV6, hb6⟩
  have HSB : Hid (Calls Try.prog 11 #[.slice aE (n + 1) cE, .slice aV (n + 1) cV] w6 fun e w' => e = .returned (.bool true) ∧ Below w4.heap.size w4 w') := by
    have h7 := sameBools_eq w6 aE aV cE cV EB (HE5.out.1.below hb6) hV6 (by rw [HELn.out]; omega)
    rw [HELn.out] at h7
    exact h7.mono (by
      rintro e w' ⟨rfl, d, rfl⟩
      exact ⟨rfl, ag_next (ag_next HE5.out.2 hb6) (drw_bel _ _)⟩)
  clear hV6 hb6 HE5 HWn2
  go_wp2_with fail
  refine HSB.out.mono ?_
  rintro e w7 ⟨rfl, hb7⟩
  have HG7 : Hid (GM w7 B B ns nb vb vg M D ∧ Below B w w7 ∧ B ≤ w7.heap.size) := ⟨HG4.out.1.over hb7, HG4.out.2.1.trans (hb7.mono HG4.out.2.2.1), Nat.le_trans HG4.out.2.2.1 hb7.size⟩
  clear hb7 HSB HG4 HL3 HLL HELn
  have HNs : Hid (Calls Try.prog 13 #[.pointer (some ⟨B, 0, none⟩)] w7 fun e w' => e = .returned (.int .i64 ((ns.length : Int) + 1)) ∧ w' = w7) := Nodes_any w7 HG7.out.1
  have HNd : Hid (∀ W j, Below w7.heap.size w7 W → j ≤ ns.length → Calls Try.prog 14 #[.pointer (some ⟨B, 0, none⟩), .int .i64 ((j : Nat) : Int)] W fun e w' => e = .returned (.tuple #[.int .i64 ((nodK ns j).1 : Int), .agg #[.int .u32 ((nodK ns j).2.1 : Int), .int .u32 ((nodK ns j).2.2 : Int)], .int .i64 0]) ∧ Below W.heap.size W w') := fun W j hW hj => Node_any W (HG7.out.1.over hW) j hj
  have HGn : Hid (∀ j, j ≤ ns.length → ((j = 0) ↔ (nodK ns j).1 = 0) ∧ ((nodK ns j).1 = 2 → 2 ≤ (nodK ns j).2.1 ∧ 2 ≤ (nodK ns j).2.2 ∧ (nodK ns j).2.1 / 2 ≠ (nodK ns j).2.2 / 2 ∧ (nodK ns j).2.1 / 2 < j ∧ (nodK ns j).2.2 / 2 < j ∧ ∀ i, i < j → (nodK ns i).1 = 2 → (nodK ns i).2 ≠ (nodK ns j).2)) := fun j hj => gs_node HSem.out.1 hj
  have HGb : Hid (∀ j, (nodK ns j).1 = 2 → (nodK ns j).2.1 < 4294967296 ∧ (nodK ns j).2.2 < 4294967296) := fun j hk => by
    have h5 := nodK_le HG7.out.1 (nodK_two hk)
    exact ⟨h5.2.2.2.2.1, h5.2.2.2.2.2⟩
  clear HSem
  go_wp2_with fail
  refine HNs.out.mono ?_
  rintro e wn ⟨rfl, hwn⟩; subst wn
  clear HNs
  obtain ⟨nl, hnl⟩ : ∃ nl, ns.length = nl := ⟨_, rfl⟩
  rw [hnl] at HNd HGn hlen ⊢
  clear hnl
  go_wp2_with fail
  go_loopg [12] (nl + 1) (fun gk v12 wr => ∃ k, v12 = .int .i64 ((k : Nat) : Int) ∧ k + gk = nl + 1 ∧ Aside (Below w7.heap.size w7 wr))
  case atStart => exact ⟨0, rfl, by omega, Below.refl _ _⟩
  case round =>
    obtain ⟨k, rfl, hk, HB⟩ := hrel
    by_cases hlt : k < nl + 1
    · have q1 : (k : Int) < (nl : Int) + 1 := by omega
      obtain ⟨hz, hg⟩ := HGn.out k (by omega)
      have HK2 : Hid ((nodK ns k).1 = 2 → 2 ≤ (nodK ns k).2.1 ∧ 2 ≤ (nodK ns k).2.2 ∧ (nodK ns k).2.1 / 2 ≠ (nodK ns k).2.2 / 2 ∧ (nodK ns k).2.1 / 2 < k ∧ (nodK ns k).2.2 / 2 < k ∧ ∀ i, i < k → (nodK ns i).1 = 2 → (nodK ns i).2 ≠ (nodK ns k).2) := hg
      have HK3 : Hid ((nodK ns k).1 = 2 → (nodK ns k).2.1 < 4294967296 ∧ (nodK ns k).2.2 < 4294967296) := HGb.out k
      clear hg
      go_wp2_with fail
      refine (HNd.out wr k HB.out (by omega)).mono ?_
      rintro e w8 ⟨rfl, hb8⟩
      obtain ⟨Gb, hGb⟩ : ∃ G, w8.heap.size = G := ⟨_, rfl⟩
      have HB8 : Hid (Below w7.heap.size w7 (w8.alloc (.cells #[.int .u32 ((nodK ns k).2.1 : Int), .int .u32 ((nodK ns k).2.2 : Int)] 40)) ∧ (w8.alloc (.cells #[.int .u32 ((nodK ns k).2.1 : Int), .int .u32 ((nodK ns k).2.2 : Int)] 40)).heap[Gb]? = some (.cells #[.int .u32 ((nodK ns k).2.1 : Int), .int .u32 ((nodK ns k).2.2 : Int)] 40 (0, 0))) := ⟨ag_next (ag_next HB.out hb8) (ag_bel1 _ _), by rw [← hGb]; exact heap_alloc_new _ _⟩
      clear hb8 HB
      obtain ⟨NK, hNK⟩ : ∃ NK, nodK ns k = NK := ⟨_, rfl⟩
      rw [hNK] at HB8 HK2 HK3 hz ⊢
      have HNK : Hid (nodK ns k = NK) := hNK
      clear hNK
      obtain ⟨kd, ga, gb⟩ := NK
      simp only [] at HB8 HK2 HK3 hz
      have z1 : ((k : Int) == 0) = ((kd : Int) == 0) := by
        by_cases e : k = 0
        · have e2 := hz.1 e
          subst e
          rw [e2]
        · have e2 : kd ≠ 0 := fun h => e (hz.2 h)
          rw [show ((k : Int) == 0) = false by simp; omega, show ((kd : Int) == 0) = false by simp; omega]
      have z2 : (k == 0) = (kd == 0) := by
        by_cases e : k = 0
        · rw [hz.1 e, e]
        · have e2 : kd ≠ 0 := fun h => e (hz.2 h)
          rw [show (k == 0) = false by simp; omega, show (kd == 0) = false by simp; omega]
      clear hz
      go_wp2_with fail
      refine (HNo.out _).mono ?_
      rintro e wn ⟨rfl, hwn⟩; subst wn
      generalize w8.alloc (.cells #[.int .u32 (ga : Int), .int .u32 (gb : Int)] 40) = w9 at *
      have g0 : w9.cell? ⟨Gb, 0, none⟩ = some (.int .u32 (ga : Int)) := ag_cell HB8.out.2 0
      have g1 : w9.cell? ⟨Gb, 1, none⟩ = some (.int .u32 (gb : Int)) := ag_cell HB8.out.2 1
      by_cases hkd : kd = 2
      · subst hkd
        obtain ⟨a1, a2, a3, a4, a5, a6⟩ := HK2.out rfl
        have b9 := HK3.out rfl
        have i1 : decide ((ga : Int) < 2) = false := decide_eq_false (by omega)
        have i2 : decide ((gb : Int) < 2) = false := decide_eq_false (by omega)
        have i3 : ((ga : Int) / 2 == (gb : Int) / 2) = false := by simp; omega
        have i4 : decide ((k : Int) ≤ (ga : Int) / 2) = false := decide_eq_false (by omega)
        have i5 : decide ((k : Int) ≤ (gb : Int) / 2) = false := decide_eq_false (by omega)
        have i6 : (2 : Int) ≤ (ga : Int) := by omega
        have i7 : (2 : Int) ≤ (gb : Int) := by omega
        have i8 : ¬ (ga : Int) / 2 = (gb : Int) / 2 := by omega
        have i9 : (ga : Int) / 2 < (k : Int) := by omega
        have i10 : (gb : Int) / 2 < (k : Int) := by omega
        have HA6 : Hid (∀ i, i < k → (nodK ns i).1 = 2 → (nodK ns i).2 ≠ (ga, gb)) := a6
        clear a6
        go_wp2_with fail
        go_loopg [16] k (fun gk v16 wr => ∃ j, v16 = .int .i64 ((j : Nat) : Int) ∧ j + gk = k ∧ Aside (Below w7.heap.size w7 wr ∧ wr.heap[Gb]? = some (.cells #[.int .u32 (ga : Int), .int .u32 (gb : Int)] 40 (0, 0))))
        case atStart => exact ⟨0, rfl, by omega, HB8.out⟩
        case round =>
          clear HB8 g0 g1
          obtain ⟨j, rfl, hj, HB⟩ := hrel
          by_cases hjk : j < k
          · have s1 : (j : Int) < (k : Int) := by omega
            have HAj : Hid ((nodK ns j).1 = 2 → (nodK ns j).2 ≠ (ga, gb)) := HA6.out j hjk
            go_wp2_with fail
            refine (HNd.out wr j HB.out.1 (by omega)).mono ?_
            rintro e w10 ⟨rfl, hb10⟩
            obtain ⟨Yb, hYb⟩ : ∃ G, w10.heap.size = G := ⟨_, rfl⟩
            have HB10 : Hid (Below w7.heap.size w7 (w10.alloc (.cells #[.int .u32 ((nodK ns j).2.1 : Int), .int .u32 ((nodK ns j).2.2 : Int)] 40)) ∧ (w10.alloc (.cells #[.int .u32 ((nodK ns j).2.1 : Int), .int .u32 ((nodK ns j).2.2 : Int)] 40)).heap[Yb]? = some (.cells #[.int .u32 ((nodK ns j).2.1 : Int), .int .u32 ((nodK ns j).2.2 : Int)] 40 (0, 0)) ∧ (w10.alloc (.cells #[.int .u32 ((nodK ns j).2.1 : Int), .int .u32 ((nodK ns j).2.2 : Int)] 40)).heap[Gb]? = some (.cells #[.int .u32 (ga : Int), .int .u32 (gb : Int)] 40 (0, 0))) := by
              have h3 := (hb10.block _ (Array.getElem?_eq_some_iff.1 HB.out.2).1).trans HB.out.2
              exact ⟨ag_next (ag_next HB.out.1 hb10) (ag_bel1 _ _), by rw [← hYb]; exact heap_alloc_new _ _, (Below.heap_alloc _ _ _ (Array.getElem?_eq_some_iff.1 h3).1).trans h3⟩
            have h10 := (hb10.block _ (Array.getElem?_eq_some_iff.1 HB.out.2).1).trans HB.out.2
            have x0 : w10.cell? ⟨Gb, 0, none⟩ = some (.int .u32 (ga : Int)) := ag_cell h10 0
            have x1 : w10.cell? ⟨Gb, 1, none⟩ = some (.int .u32 (gb : Int)) := ag_cell h10 1
            have hGl : Gb < w10.heap.size := (Array.getElem?_eq_some_iff.1 h10).1
            have hGY : ¬ Gb = Yb := by omega
            clear hb10 HB h10
            generalize nodK ns j = NJ at *
            obtain ⟨jd, ya, yb⟩ := NJ
            simp only [] at HB10 HAj
            have t0 : (w10.alloc (.cells #[.int .u32 (ya : Int), .int .u32 (yb : Int)] 40)).cell? ⟨Gb, 0, none⟩ = some (.int .u32 (ga : Int)) := ag_cell HB10.out.2.2 0
            have t1 : (w10.alloc (.cells #[.int .u32 (ya : Int), .int .u32 (yb : Int)] 40)).cell? ⟨Gb, 1, none⟩ = some (.int .u32 (gb : Int)) := ag_cell HB10.out.2.2 1
            have t2 : (w10.alloc (.cells #[.int .u32 (ya : Int), .int .u32 (yb : Int)] 40)).cell? ⟨Yb, 0, none⟩ = some (.int .u32 (ya : Int)) := ag_cell HB10.out.2.1 0
            have t3 : (w10.alloc (.cells #[.int .u32 (ya : Int), .int .u32 (yb : Int)] 40)).cell? ⟨Yb, 1, none⟩ = some (.int .u32 (yb : Int)) := ag_cell HB10.out.2.1 1
            by_cases hjd : jd = 2
            · subst hjd
              have hne : ¬ (ya = ga ∧ yb = gb) := fun ⟨e1, e2⟩ => HAj.out rfl (by rw [e1, e2])
              clear HAj
              by_cases ea : ya = ga
              · subst ea
                have c1 : ((gb : Int) == (yb : Int)) = false := by simp; omega
                have c2 : ¬ (gb : Int) = (yb : Int) := by omega
                have c3 : ¬ gb = yb := by omega
                have c4 : (gb == yb) = false := by simp; omega
                go_wp2_with fail
                go_roundg (k - (j + 1))
                case measure => omega
                case rel => exact ⟨j + 1, by simp, by omega, HB10.out.1, HB10.out.2.2⟩
              · have c1 : ((ga : Int) == (ya : Int)) = false := by simp; omega
                have c2 : ¬ (ga : Int) = (ya : Int) := by omega
                have c3 : ¬ ga = ya := by omega
                have c4 : (ga == ya) = false := by simp; omega
                go_wp2_with fail
                go_roundg (k - (j + 1))
                case measure => omega
                case rel => exact ⟨j + 1, by simp, by omega, HB10.out.1, HB10.out.2.2⟩
            · have x5 : ((jd : Int) == 2) = false := by simp; omega
              go_wp2_with fail
              go_roundg (k - (j + 1))
              case measure => omega
              case rel => exact ⟨j + 1, by simp, by omega, HB10.out.1, HB10.out.2.2⟩
          · have s1 : ¬ (j : Int) < (k : Int) := by omega
            go_wp2_with fail
            go_roundg (nl + 1 - (k + 1))
            case measure => omega
            case rel => exact ⟨k + 1, by simp, by omega, HB.out.1⟩
      · have y1 : ((kd : Int) == 2) = false := by simp; omega
        have y2 : ((kd : Int) != 2) = true := by simp; omega
        go_wp2_with fail
        go_roundg (nl + 1 - (k + 1))
        case measure => omega
        case rel => exact ⟨k + 1, by simp, by omega, HB8.out.1⟩
    · have q1 : ¬ (k : Int) < (nl : Int) + 1 := by omega
      have HZ : Hid (Below B w wr) := HG7.out.2.1.trans (HB.out.mono HG7.out.2.2)
      go_wp2_with fail
      first | exact ⟨rfl, HZ.out⟩ | (go_ret; exact ⟨rfl, HZ.out⟩)
end Go.Proofs.Ytabbkdmjohnbgaa
