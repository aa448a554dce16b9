import Derived.Test.YtekdmdnnpcjaoaaAgFh
namespace Go.Proofs.Ytekdmdnnpcjaoaa
open Go.ChangeShapes Go.WideShapes Go.ChangeAt Go.RowKit Go.Lib Go.Ag Go.WideMaps Go.Maps Go.ChangeMaps Go.Cn

/-- rows of free types stand -/
def KEEPS (W W' : World) : Prop := ∀ (g : Nat) (cur : Array Value) (ty : TypeId), W.heap[g]? = some (Obj.cells cur ty (0, 0)) → freeT ty → W'.heap[g]? = W.heap[g]?
theorem KEEPS.below {W W' : World} (hb : Below W.heap.size W W') : KEEPS W W' := fun g _ _ h _ => hb.block g (Array.getElem?_eq_some_iff.1 h).1
theorem KEEPS.gk {W W' : World} {B R : Nat} {ns : Nds} {nb : Nat} {vb vg vb' vg' : Value} {M M' : Option Nat} {D : DataW Unit} (hg : GM W B R ns nb vb vg M D) (hk : GK W R vb vg M W' vb' vg' M') : KEEPS W W' := fun g cur ty h ht => by
  have hn := freeT_ne ht
  exact hk.kp g (Array.getElem?_eq_some_iff.1 h).1 (own_apart hg h hn.1 hn.2.1 hn.2.2)
theorem KEEPS.trans {W W1 W2 : World} (h : KEEPS W W1) (h2 : KEEPS W1 W2) : KEEPS W W2 := fun g cur ty hg ht => by
  have h3 := h g cur ty hg ht
  exact (h2 g cur ty (h3.trans hg) ht).trans h3
theorem KEEPS.rw {W W' : World} (h : KEEPS W W') {g : Nat} {ty : TypeId} {xs : List Value} (hr : RW W g ty xs) (ht : freeT ty) : RW W' g ty xs := by
  obtain ⟨cur, h1, h2⟩ := hr
  exact ⟨cur, (h g cur ty h1 ht).trans h1, h2⟩
theorem KEEPS.row {W W' : World} (h : KEEPS W W') {H : Nat} {ty : TypeId} {v : Value} {n : Nat} {xs : List Value} (hr : W.ownsRow H ty 1 v n xs) (ht : freeT ty) : W'.ownsRow H ty 1 v n xs := by
  refine ⟨hr.1, ?_⟩
  rcases hr.2 with h3 | ⟨g, cap, cur, e, h4, h5, h6⟩
  · exact Or.inl h3
  · exact Or.inr ⟨g, cap, cur, e, h4, (h g cur ty h5 ht).trans h5, h6⟩
theorem ftI : freeT 3 := Or.inl rfl
theorem ftB : freeT 4 := Or.inr (Or.inl rfl)
theorem ftW : freeT 43 := Or.inr (Or.inr (Or.inl rfl))
theorem ftU : freeT 44 := Or.inr (Or.inr (Or.inr rfl))
/-- a graph that stands, and what stood ahead -/
structure GS2 (B : Nat) (w W : World) (ns : Nds) : Prop where
  gm : ∃ nb vb vg M D, GM W B B ns nb vb vg M D ∧ ∀ j, ownG B vb vg M j → B ≤ j
  bel : Below B w W
  hB : B ≤ W.heap.size
theorem GS2.over {B : Nat} {w W W' : World} {ns : Nds} (h : GS2 B w W ns) (hb : Below W.heap.size W W') : GS2 B w W' ns := by
  obtain ⟨nb, vb, vg, M, D, h1, h2⟩ := h.gm
  exact ⟨⟨nb, vb, vg, M, D, h1.over hb, h2⟩, h.bel.trans (hb.mono h.hB), Nat.le_trans h.hB hb.size⟩
theorem GS2.rs {B : Nat} {w W W' : World} {ns : Nds} {S : Nat → Prop} (h : GS2 B w W ns) (hr : RS W W' S) (hS : ∀ g, S g → B ≤ g ∧ ∃ cur ty, W.heap[g]? = some (.cells cur ty (0, 0)) ∧ freeT ty) : GS2 B w W' ns := by
  obtain ⟨nb, vb, vg, M, D, h1, h2⟩ := h.gm
  refine ⟨⟨nb, vb, vg, M, D, h1.keep (fun j hj => hr.kp j (h1.own_lt hj) (fun hs => ?_)), h2⟩, ⟨hr.os.trans h.bel.os, hr.tape.trans h.bel.tape, hr.output.trans h.bel.output, Nat.le_trans h.bel.size hr.size, fun x hx => (hr.kp x (Nat.lt_of_lt_of_le hx h.hB) (fun hs => by have := (hS x hs).1; omega)).trans (h.bel.block x hx)⟩, Nat.le_trans h.hB hr.size⟩
  obtain ⟨_, cur, ty, h3, h4⟩ := hS j hs
  exact own_apart h1 h3 (freeT_ne h4).1 (freeT_ne h4).2.1 (freeT_ne h4).2.2 hj
theorem zeros_at (q i : Nat) : (List.replicate q 0).getD i 0 = (0 : Nat) := by
  rw [List.getD_eq_getElem?_getD]
  by_cases h : i < q
  · rw [List.getElem?_replicate_of_lt h]; rfl
  · rw [List.getElem?_eq_none (by simp; omega)]; rfl
theorem rw_made {W : World} {ty : TypeId} {z : Value} {q : Nat} (hz : z.cells = #[z]) : RW (W.alloc (.cells (madeCells z.cells (q * 1)) ty)) W.heap.size ty (List.replicate q z) := by
  refine ⟨_, heap_alloc_new _ _, ?_⟩
  apply List.ext_getElem?
  intro i
  rw [List.length_replicate]
  by_cases h : i < q
  · rw [List.getElem?_take_of_lt h, Array.getElem?_toList, made_at z q h hz, List.getElem?_replicate_of_lt h]
  · rw [List.getElem?_eq_none (by rw [List.length_take]; omega), List.getElem?_eq_none (by simp; omega)]
set_option maxHeartbeats 8000000 in
set_option maxRecDepth 100000 in
theorem fresh_walk (w : World) (ad : Option Addr) (sc : List (Int × Int × Int × Int)) (cp : Nat) (hsc : MDS w ad sc) (hbd : bdM sc) (hn : sc.length ≤ 1048576) (ai : Option Addr) (bs : List Bool) (ci : Nat) (hbs : Bls w ai bs) (hbn : bs.length ≤ 1000000000000) :
    Calls Try.prog 3 #[.slice ad sc.length cp, .slice ai bs.length ci] w fun e w' => e = .returned (.bool true) ∧ Below w.heap.size w w' := by
  obtain ⟨B, hB⟩ : ∃ B, w.heap.size = B := ⟨_, rfl⟩
  rw [hB]
  have HNew : Hid (Calls Try.prog 4 #[] w fun e w' => e = .returned (.pointer (some ⟨B, 0, none⟩)) ∧ w' = w.alloc (.cells #[.int .i64 0, .slice none 0 0, .slice none 0 0, .map none] 54)) := by rw [← hB]; exact new_any w
  have HLv : Hid (∀ W, Calls Try.prog 5 #[] W fun e w' => e = .returned (.bool true) ∧ Below W.heap.size W w') := fun W => live_any W
  have HMd : Hid (∀ w2, GM w2 B B [] 0 (.slice none 0 0) (.slice none 0 0) none (.map []) → Below B w w2 → B < w2.heap.size → Calls Try.prog 6 #[.pointer (some ⟨B, 0, none⟩), .slice ad sc.length cp] w2 fun e w' => ∃ ns L gL cL nb vb vg M D, e = .returned (.tuple #[.slice (some ⟨gL, 0, none⟩) L.length cL, .bool true]) ∧ madeN [] [0] sc = some (ns, L) ∧ MI ns L sc.length ∧ (GM w' B B ns nb vb vg M D ∧ ∀ j, ownG B vb vg M j → B ≤ j) ∧ Below B w w' ∧ B ≤ w'.heap.size ∧ RW w' gL 44 (u32V L)) := fun w2 h1 h2 h3 => made_row w w2 B hB h1 h2 h3 ad sc cp hsc hbd hn
  have HBs : Hid (∀ W, Below B w W → Bls W ai bs) := fun W hW => hbs.below (by rw [hB]; exact hW)
  clear hsc hbd hbs
  generalize hnn : sc.length = n at *
  clear hnn
  go_enter Try.func3, Try.ntmps3
  go_wp2_with fail
  refine HNew.out.mono ?_
  rintro e w1 ⟨rfl, hw1⟩
  have HG1 : Hid (GM w1 B B [] 0 (.slice none 0 0) (.slice none 0 0) none (.map []) ∧ Below B w w1 ∧ B < w1.heap.size) := by
    refine ⟨?_, ?_, by rw [hw1]; simp; omega⟩
    · rw [hw1]
      exact GM.new (by rw [← hB]; exact heap_alloc_new _ _) (Nat.le_refl _)
    · rw [hw1, ← hB]
      exact ag_bel1 _ _
  clear hw1 HNew
  go_wp2_with fail
  refine (HLv.out w1).mono ?_
  rintro e w2 ⟨rfl, hb2⟩
  have HG2 : Hid (GM w2 B B [] 0 (.slice none 0 0) (.slice none 0 0) none (.map []) ∧ Below B w w2 ∧ B < w2.heap.size) := ⟨HG1.out.1.over hb2, HG1.out.2.1.trans (hb2.mono (Nat.le_of_lt HG1.out.2.2)), Nat.lt_of_lt_of_le HG1.out.2.2 hb2.size⟩
  clear HG1 hb2 HLv
  go_wp2_with fail
  refine (HMd.out w2 HG2.out.1 HG2.out.2.1 HG2.out.2.2).mono ?_
  rintro e w3 ⟨ns, L, gL, cL, nb, vb, vg, M, D, rfl, -, hmi, hg3, hb3, hB3, hr3⟩
  have hin : inN ns ≤ n := hmi.ins
  have hL1 : L.length = n + 1 := hmi.len
  have hns : ns.length ≤ 3145728 := by have := hmi.few; omega
  have HL3 : Hid ((∀ l ∈ L, l / 2 ≤ ns.length) ∧ (∀ l ∈ L, l < 4294967296)) := ⟨hmi.lit, fun l hl => by have h1 := hmi.lit l hl; have h2 := hg3.1.len; omega⟩
  have HG3 : Hid (GS2 B w w3 ns) := ⟨⟨nb, vb, vg, M, D, hg3⟩, hb3, hB3⟩
  have HRl : Hid (RW w3 gL 44 (u32V L)) := hr3
  clear hmi hg3 hb3 hB3 hr3 HMd HG2
  rw [hL1]
  have HLL : Hid (L.length = n + 1) := hL1
  clear hL1
  obtain ⟨i0, hi, hz0, hz1, hz2⟩ := info_parts (P := Try.prog) (e := 44) (z := .int .u32 0) (size := 1) (bytes := 4) (by kernel_rfl)
  have HE4 : Hid ((w3.alloc (.cells #[] 44)).ownsRow w3.heap.size 44 1 (.slice (some ⟨w3.heap.size, 0, none⟩) 0 0) 0 []) := ⟨rfl, Or.inr ⟨w3.heap.size, 0, #[], rfl, Nat.le_refl _, heap_alloc_new _ _, Nat.le_refl _, Nat.zero_le _, rfl, rfl⟩⟩
  have HC4 : Hid (∀ j u, (u32V L)[j]? = some u → (w3.alloc (.cells #[] 44)).cell? ((⟨gL, 0, none⟩ : Addr).add j) = some u) := fun j u hu => by
    have hj : j < (u32V L).length := (List.getElem?_eq_some_iff.1 hu).1
    have h7 := HRl.out.over (ag_bel1 w3 (.cells #[] 44))
    rw [Addr.add_lit, Nat.zero_add, h7.cell hj, hu]
  have hUl : (u32V L).length = n + 1 := by rw [u32V_len]; exact HLL.out
  have HOc : Hid (∀ u ∈ u32V L, u.oneCell' = true) := fun u hu => by
    unfold u32V at hu
    obtain ⟨x, _, rfl⟩ := List.mem_map.1 hu
    rfl
  go_wp2_with (at_builtin; refine wpList_append_lies _ rfl _ _ 27 rfl w3.heap.size 44 i0 (.int .u32 0) 1 4 Try.underlying27 hi hz0 hz1 hz2 rfl (by decide) _ _ _ rfl HE4.out ⟨gL, 0, none⟩ (n + 1) cL (u32V L) rfl (by omega) HC4.out HOc.out (by omega) (by unfold maxLen; omega) (by omega) (by simp) (w3.heap.size + 1) (by simp) ?_; intro gR cR w4 hown4 hgrow4 hat4 hlt4; have H4 : Hid (w4.ownsRow w3.heap.size 44 1 (.slice (some ⟨gR, 0, none⟩) (0 + (n + 1)) cR) (0 + (n + 1)) ([] ++ u32V L) ∧ (w3.alloc (.cells #[] 44)).grownBy w4 (some w3.heap.size)) := ⟨hown4, hgrow4⟩; clear hown4 hgrow4 hat4 hlt4; refine Hid.out ?_)
  refine Lib.hid ?_
  have hsz3 : (w3.alloc (.cells #[] 44)).heap.size = w3.heap.size + 1 := by simp
  have hb4 : Below w3.heap.size w3 w4 := ⟨H4.out.2.os, H4.out.2.tape, H4.out.2.output, Nat.le_trans (ag_bel1 w3 (.cells #[] 44)).size H4.out.2.size, fun j hj => (H4.out.2.block j (by rw [hsz3]; omega) (fun e => by injection e with e2; omega)).trans ((ag_bel1 w3 (.cells #[] 44)).block j hj)⟩
  have HG4 : Hid (GS2 B w w4 ns) := HG3.out.over hb4
  have HR4 : Hid (w4.ownsRow w3.heap.size 44 1 (.slice (some ⟨gR, 0, none⟩) (n + 1) cR) (n + 1) (u32V L) ∧ KEEPS w3 w4) := ⟨by have := H4.out.1; rw [Nat.zero_add, List.nil_append] at this; exact this, KEEPS.below hb4⟩
  clear H4 hb4 HE4 HC4 HG3
  have HFit : Hid (Calls Try.prog 7 #[.pointer (some ⟨B, 0, none⟩), .slice ai bs.length ci] w4 fun e w' => ∃ O, e = .returned (.slice (some ⟨O, 0, none⟩) (inN ns) (inN ns)) ∧ Below w4.heap.size w4 w' ∧ (w4.heap.size ≤ O ∧ RW w' O 4 (blV (rowB bs (inN ns))))) := by
    obtain ⟨nb, vb, vg, M, D, g1, _⟩ := HG4.out.gm
    exact fit_row w4 g1 ai bs ci (HBs.out w4 HG4.out.bel) hbn
  have HLs : Hid ((rowB bs (inN ns)).length = inN ns) := rowB_len _ _
  obtain ⟨q, hq⟩ : ∃ q, inN ns = q := ⟨_, rfl⟩
  rw [hq] at HFit hin HLs
  generalize rowB bs q = rs at *
  have HQ : Hid (inN ns = q) := hq
  clear hq
  go_wp2_with fail
  refine HFit.out.mono ?_
  rintro e w5 ⟨O, rfl, hb5, hO5, hr5⟩
  have HG5 : Hid (GS2 B w w5 ns ∧ RW w5 O 4 (blV rs) ∧ KEEPS w4 w5 ∧ w4.heap.size ≤ w5.heap.size ∧ w4.heap.size ≤ O) := ⟨HG4.out.over hb5, hr5, KEEPS.below hb5, hb5.size, hO5⟩
  clear hb5 hr5 hO5 HFit HG4 HBs
  have HIn : Hid (∀ W, GS2 B w W ns → Calls Try.prog 8 #[.pointer (some ⟨B, 0, none⟩)] W fun e w' => e = .returned (.int .i64 (q : Int)) ∧ Below W.heap.size W w') := fun W hW => by
    obtain ⟨nb, vb, vg, M, D, g1, _⟩ := hW.gm
    have h7 := Inputs_any W g1
    rw [HQ.out] at h7
    exact h7.mono (by
      rintro e w' ⟨rfl, d, rfl⟩
      exact ⟨rfl, drw_bel _ _⟩)
  obtain ⟨i1, hi1, hz1', hs1, hb1⟩ := info_parts (P := Try.prog) (e := 43) (z := .int .u64 0) (size := 1) (bytes := 8) (by kernel_rfl)
  have eM : ∀ W : World, (Instr.makeSlice 31 (.int .i64 (q : Int)) (.int .i64 (q : Int))).run Try.prog W = .ok (.slice (some ⟨W.heap.size, 0, none⟩) q q) (W.alloc (.cells (madeCells (Value.int .u64 0).cells (q * 1)) 43)) := fun W => by
    have := run_make (P := Try.prog) (w := W) 31 43 i1 (.int .u64 0) Try.underlying31 hi1 hz1' .i64 .i64 (q : Int) (q : Int) (by omega) (by omega) (by rw [hb1]; omega) (by omega)
    rw [this, hs1, show ((q : Int)).toNat = q by omega]
  have eU : ∀ W : World, (Instr.makeSlice 27 (.int .i64 (q : Int)) (.int .i64 (q : Int))).run Try.prog W = .ok (.slice (some ⟨W.heap.size, 0, none⟩) q q) (W.alloc (.cells (madeCells (Value.int .u32 0).cells (q * 1)) 44)) := fun W => by
    have := run_make (P := Try.prog) (w := W) 27 44 i0 (.int .u32 0) Try.underlying27 hi hz0 .i64 .i64 (q : Int) (q : Int) (by omega) (by omega) (by rw [hz2]; omega) (by omega)
    rw [this, hz1, show ((q : Int)).toNat = q by omega]
  clear hi1 hz1' hs1 hb1
  have HW6 : Hid (∀ W : World, RW (W.alloc (.cells (madeCells (Value.int .u64 0).cells (q * 1)) 43)) W.heap.size 43 (List.replicate q (.int .u64 0))) := fun W => rw_made rfl
  have HU6 : Hid (∀ W : World, RW (W.alloc (.cells (madeCells (Value.int .u32 0).cells (q * 1)) 44)) W.heap.size 44 (List.replicate q (.int .u32 0))) := fun W => rw_made rfl
  generalize madeCells (Value.int .u64 0).cells (q * 1) = A64 at *
  generalize madeCells (Value.int .u32 0).cells (q * 1) = A32 at *
  go_wp2_with fail
  refine (HIn.out w5 HG5.out.1).mono ?_
  rintro e w6 ⟨rfl, hb6⟩
  obtain ⟨gW, hgW⟩ : ∃ g, w6.heap.size = g := ⟨_, rfl⟩
  have hb6' := ag_next hb6 (ag_bel1 w6 (.cells A64 43))
  have HG6 : Hid (GS2 B w (w6.alloc (.cells A64 43)) ns ∧ RW (w6.alloc (.cells A64 43)) gW 43 (List.replicate q (.int .u64 0)) ∧ KEEPS w5 (w6.alloc (.cells A64 43)) ∧ w5.heap.size ≤ gW) := ⟨HG5.out.1.over hb6', by rw [← hgW]; exact HW6.out w6, KEEPS.below hb6', by rw [← hgW]; exact hb6.size⟩
  clear hb6 hb6' HW6
  go_wp2_with fail
  generalize w6.alloc (.cells A64 43) = w7 at *
  refine (HIn.out w7 HG6.out.1).mono ?_
  rintro e w8 ⟨rfl, hb8⟩
  obtain ⟨gO, hgO⟩ : ∃ g, w8.heap.size = g := ⟨_, rfl⟩
  have hb8' := ag_next hb8 (ag_bel1 w8 (.cells A32 44))
  have HG8 : Hid (GS2 B w (w8.alloc (.cells A32 44)) ns ∧ RW (w8.alloc (.cells A32 44)) gO 44 (List.replicate q (.int .u32 0)) ∧ KEEPS w7 (w8.alloc (.cells A32 44)) ∧ w7.heap.size ≤ gO) := ⟨HG6.out.1.over hb8', by rw [← hgO]; exact HU6.out w8, KEEPS.below hb8', by rw [← hgO]; exact hb8.size⟩
  clear hb8 hb8' HU6
  go_wp2_with fail
  generalize w8.alloc (.cells A32 44) = w9 at *
  have HK9 : Hid (KEEPS w4 w9) := (HG5.out.2.2.1.trans HG6.out.2.2.1).trans HG8.out.2.2.1
  have HRo : Hid (∀ W, KEEPS w4 W → U32s W (some ⟨gR, 0, none⟩) L) := fun W hW => u32s_of (hW.row HR4.out.1 ftU)
  have HC10 : Hid (Calls Try.prog 9 #[.pointer (some ⟨B, 0, none⟩), .slice (some ⟨gR, 0, none⟩) (n + 1) cR] w9 fun e w' => ∃ vC, e = .returned (.tuple #[vC, .int .i64 0]) ∧ Below w9.heap.size w9 w' ∧ w'.ownsRow w9.heap.size 3 1 vC (coneS ns L).2.length (natV (coneS ns L).2)) := by
    obtain ⟨nb, vb, vg, M, D, g1, _⟩ := HG8.out.1.gm
    have h7 := Cone_ok w9 g1 (some ⟨gR, 0, none⟩) L cR (HRo.out w9 HK9.out) HL3.out.2 HL3.out.1 (by rw [HLL.out]; omega)
    rw [HLL.out] at h7
    exact h7
  go_wp2_with fail
  refine HC10.out.mono ?_
  rintro e w10 ⟨vA, rfl, hb10, hr10⟩
  have HG10 : Hid (GS2 B w w10 ns ∧ w10.ownsRow w9.heap.size 3 1 vA (coneS ns L).2.length (natV (coneS ns L).2) ∧ KEEPS w9 w10 ∧ w9.heap.size ≤ w10.heap.size) := ⟨HG8.out.1.over hb10, hr10, KEEPS.below hb10, hb10.size⟩
  clear hb10 hr10 HC10
  have HC11 : Hid (Calls Try.prog 9 #[.pointer (some ⟨B, 0, none⟩), .slice (some ⟨gR, 0, none⟩) (n + 1) cR] w10 fun e w' => ∃ vC, e = .returned (.tuple #[vC, .int .i64 0]) ∧ Below w10.heap.size w10 w' ∧ w'.ownsRow w10.heap.size 3 1 vC (coneS ns L).2.length (natV (coneS ns L).2)) := by
    obtain ⟨nb, vb, vg, M, D, g1, _⟩ := HG10.out.1.gm
    have h7 := Cone_ok w10 g1 (some ⟨gR, 0, none⟩) L cR (HRo.out w10 (HK9.out.trans HG10.out.2.2.1)) HL3.out.2 HL3.out.1 (by rw [HLL.out]; omega)
    rw [HLL.out] at h7
    exact h7
  go_wp2_with fail
  refine HC11.out.mono ?_
  rintro e w11 ⟨vBb, rfl, hb11, hr11⟩
  have HG11 : Hid (GS2 B w w11 ns ∧ w11.ownsRow w10.heap.size 3 1 vBb (coneS ns L).2.length (natV (coneS ns L).2) ∧ KEEPS w10 w11 ∧ w10.heap.size ≤ w11.heap.size) := ⟨HG10.out.1.over hb11, hr11, KEEPS.below hb11, hb11.size⟩
  clear hb11 hr11 HC11
  have HRow : Hid (∀ W, KEEPS w9 W → Bls W (some ⟨O, 0, none⟩) rs) := fun W hW => (((HG6.out.2.2.1.trans HG8.out.2.2.1).trans hW).rw HG5.out.2.1 ftB).bls
  have HWd : Hid (∀ W, KEEPS w9 W → Wds W (some ⟨gW, 0, none⟩) (List.replicate q 0)) := fun W hW => by
    have h7 := (((HG8.out.2.2.1).trans hW)).rw HG6.out.2.1 ftW
    exact RW.wds (by unfold wrdV; rw [List.map_replicate]; exact h7)
  have HOw : Hid (∀ W, KEEPS w9 W → U32s W (some ⟨gO, 0, none⟩) (List.replicate q 0) ∧ ∃ cur, W.heap[gO]? = some (.cells cur 44 (0, 0))) := fun W hW => by
    have h7 := hW.rw HG8.out.2.1 ftU
    refine ⟨RW.u32 (by unfold u32V; rw [List.map_replicate]; exact h7), ?_⟩
    obtain ⟨cur, h8, _⟩ := h7
    exact ⟨cur, h8⟩
  have HC12 : Hid (Calls Try.prog 10 #[.pointer (some ⟨B, 0, none⟩), .slice (some ⟨O, 0, none⟩) q q, .slice (some ⟨gR, 0, none⟩) (n + 1) cR] w11 fun e w' => ∃ v, e = .returned (.tuple #[v, .int .i64 0]) ∧ Below w11.heap.size w11 w' ∧ w'.ownsRow w11.heap.size 4 1 v (n + 1) (blV (evalB ns rs L))) := by
    obtain ⟨nb, vb, vg, M, D, g1, _⟩ := HG11.out.1.gm
    have h7 := Eval_ok w11 g1 (some ⟨O, 0, none⟩) rs q (HRow.out w11 (HG10.out.2.2.1.trans HG11.out.2.2.1)) (by rw [HLs.out, HQ.out]) (some ⟨gR, 0, none⟩) L cR (HRo.out w11 ((HK9.out.trans HG10.out.2.2.1).trans HG11.out.2.2.1)) HL3.out.2 HL3.out.1 (by rw [HLL.out]; omega)
    rw [HLL.out, HLs.out] at h7
    exact h7
  go_wp2_with fail
  refine HC12.out.mono ?_
  rintro e w12 ⟨vx, rfl, hb12, hr12⟩
  obtain ⟨ax, c12, rfl, _, hax⟩ := row_form hr12
  obtain ⟨g12, rfl⟩ := hax (by omega)
  clear hax
  have HG12 : Hid (GS2 B w w12 ns ∧ w12.ownsRow w11.heap.size 4 1 (.slice (some ⟨g12, 0, none⟩) (n + 1) c12) (n + 1) (blV (evalB ns rs L)) ∧ KEEPS w11 w12 ∧ w11.heap.size ≤ w12.heap.size) := ⟨HG11.out.1.over hb12, hr12, KEEPS.below hb12, hb12.size⟩
  clear hb12 hr12 HC12
  have HC13 : Hid (Calls Try.prog 10 #[.pointer (some ⟨B, 0, none⟩), .slice (some ⟨O, 0, none⟩) q q, .slice (some ⟨gR, 0, none⟩) (n + 1) cR] w12 fun e w' => ∃ v, e = .returned (.tuple #[v, .int .i64 0]) ∧ Below w12.heap.size w12 w' ∧ w'.ownsRow w12.heap.size 4 1 v (n + 1) (blV (evalB ns rs L))) := by
    obtain ⟨nb, vb, vg, M, D, g1, _⟩ := HG12.out.1.gm
    have h7 := Eval_ok w12 g1 (some ⟨O, 0, none⟩) rs q (HRow.out w12 ((HG10.out.2.2.1.trans HG11.out.2.2.1).trans HG12.out.2.2.1)) (by rw [HLs.out, HQ.out]) (some ⟨gR, 0, none⟩) L cR (HRo.out w12 (((HK9.out.trans HG10.out.2.2.1).trans HG11.out.2.2.1).trans HG12.out.2.2.1)) HL3.out.2 HL3.out.1 (by rw [HLL.out]; omega)
    rw [HLL.out, HLs.out] at h7
    exact h7
  go_wp2_with fail
  refine HC13.out.mono ?_
  rintro e w13 ⟨vx, rfl, hb13, hr13⟩
  obtain ⟨ax, c13, rfl, _, hax⟩ := row_form hr13
  obtain ⟨g13, rfl⟩ := hax (by omega)
  clear hax
  have HG13 : Hid (GS2 B w w13 ns ∧ w13.ownsRow w12.heap.size 4 1 (.slice (some ⟨g13, 0, none⟩) (n + 1) c13) (n + 1) (blV (evalB ns rs L)) ∧ KEEPS w12 w13 ∧ w12.heap.size ≤ w13.heap.size) := ⟨HG12.out.1.over hb13, hr13, KEEPS.below hb13, hb13.size⟩
  clear hb13 hr13 HC13
  have HC14 : Hid (Calls Try.prog 11 #[.pointer (some ⟨B, 0, none⟩), .slice (some ⟨gW, 0, none⟩) q q, .slice (some ⟨gR, 0, none⟩) (n + 1) cR] w13 fun e w' => ∃ v, e = .returned (.tuple #[v, .int .i64 0]) ∧ Below w13.heap.size w13 w' ∧ w'.ownsRow w13.heap.size 43 1 v (n + 1) (wrdV (simW ns (List.replicate q 0) L))) := by
    obtain ⟨nb, vb, vg, M, D, g1, _⟩ := HG13.out.1.gm
    have h7 := Sim_ok w13 g1 (some ⟨gW, 0, none⟩) (List.replicate q 0) q (HWd.out w13 (((HG10.out.2.2.1.trans HG11.out.2.2.1).trans HG12.out.2.2.1).trans HG13.out.2.2.1)) (fun i => by rw [zeros_at]; decide) (by rw [HQ.out]; simp) (some ⟨gR, 0, none⟩) L cR (HRo.out w13 ((((HK9.out.trans HG10.out.2.2.1).trans HG11.out.2.2.1).trans HG12.out.2.2.1).trans HG13.out.2.2.1)) HL3.out.2 HL3.out.1 (by rw [HLL.out]; omega)
    rw [HLL.out, List.length_replicate] at h7
    exact h7
  go_wp2_with fail
  refine HC14.out.mono ?_
  rintro e w14 ⟨vx, rfl, hb14, hr14⟩
  obtain ⟨ax, c14, rfl, _, hax⟩ := row_form hr14
  obtain ⟨g14, rfl⟩ := hax (by omega)
  clear hax
  have HG14 : Hid (GS2 B w w14 ns ∧ w14.ownsRow w13.heap.size 43 1 (.slice (some ⟨g14, 0, none⟩) (n + 1) c14) (n + 1) (wrdV (simW ns (List.replicate q 0) L)) ∧ KEEPS w13 w14 ∧ w13.heap.size ≤ w14.heap.size) := ⟨HG13.out.1.over hb14, hr14, KEEPS.below hb14, hb14.size⟩
  clear hb14 hr14 HC14
  have HC15 : Hid (Calls Try.prog 11 #[.pointer (some ⟨B, 0, none⟩), .slice (some ⟨gW, 0, none⟩) q q, .slice (some ⟨gR, 0, none⟩) (n + 1) cR] w14 fun e w' => ∃ v, e = .returned (.tuple #[v, .int .i64 0]) ∧ Below w14.heap.size w14 w' ∧ w'.ownsRow w14.heap.size 43 1 v (n + 1) (wrdV (simW ns (List.replicate q 0) L))) := by
    obtain ⟨nb, vb, vg, M, D, g1, _⟩ := HG14.out.1.gm
    have h7 := Sim_ok w14 g1 (some ⟨gW, 0, none⟩) (List.replicate q 0) q (HWd.out w14 ((((HG10.out.2.2.1.trans HG11.out.2.2.1).trans HG12.out.2.2.1).trans HG13.out.2.2.1).trans HG14.out.2.2.1)) (fun i => by rw [zeros_at]; decide) (by rw [HQ.out]; simp) (some ⟨gR, 0, none⟩) L cR (HRo.out w14 (((((HK9.out.trans HG10.out.2.2.1).trans HG11.out.2.2.1).trans HG12.out.2.2.1).trans HG13.out.2.2.1).trans HG14.out.2.2.1)) HL3.out.2 HL3.out.1 (by rw [HLL.out]; omega)
    rw [HLL.out, List.length_replicate] at h7
    exact h7
  go_wp2_with fail
  refine HC15.out.mono ?_
  rintro e w15 ⟨vx, rfl, hb15, hr15⟩
  obtain ⟨ax, c15, rfl, _, hax⟩ := row_form hr15
  obtain ⟨g15, rfl⟩ := hax (by omega)
  clear hax
  have HG15 : Hid (GS2 B w w15 ns ∧ w15.ownsRow w14.heap.size 43 1 (.slice (some ⟨g15, 0, none⟩) (n + 1) c15) (n + 1) (wrdV (simW ns (List.replicate q 0) L)) ∧ KEEPS w14 w15 ∧ w14.heap.size ≤ w15.heap.size) := ⟨HG14.out.1.over hb15, hr15, KEEPS.below hb15, hb15.size⟩
  clear hb15 hr15 HC15
  have HC16 : Hid (Calls Try.prog 12 #[.pointer (some ⟨B, 0, none⟩), .pointer (some ⟨B, 0, none⟩), .slice (some ⟨gO, 0, none⟩) q q, .slice (some ⟨gR, 0, none⟩) (n + 1) cR] w15 fun e w' => ∃ v xs, e = .returned (.tuple #[v, .int .i64 0]) ∧ xs.length = n + 1 ∧ (∀ x ∈ xs, x ≤ 1) ∧ GS2 B w w' ns ∧ w'.ownsRow w15.heap.size 44 1 v (n + 1) (u32V xs) ∧ KEEPS w15 w' ∧ w15.heap.size ≤ w'.heap.size) := by
    obtain ⟨nb, vb, vg, M, D, g1, g2⟩ := HG15.out.1.gm
    have hrow := (((((((HK9.out.trans HG10.out.2.2.1).trans HG11.out.2.2.1).trans HG12.out.2.2.1).trans HG13.out.2.2.1).trans HG14.out.2.2.1).trans HG15.out.2.2.1)).row HR4.out.1 ftU
    have h7 := Lay_own w15 g1 HG15.out.1.hB (by omega) (some ⟨gO, 0, none⟩) (List.replicate q 0) q (HOw.out w15 (((((HG10.out.2.2.1.trans HG11.out.2.2.1).trans HG12.out.2.2.1).trans HG13.out.2.2.1).trans HG14.out.2.2.1).trans HG15.out.2.2.1)).1 (zeros_at q) (by rw [HQ.out]; simp) (fun _ b off e => by
      cases e
      obtain ⟨cur, hcur⟩ := (HOw.out w15 (((((HG10.out.2.2.1.trans HG11.out.2.2.1).trans HG12.out.2.2.1).trans HG13.out.2.2.1).trans HG14.out.2.2.1).trans HG15.out.2.2.1)).2
      exact own_apart g1 hcur (freeT_ne ftU).1 (freeT_ne ftU).2.1 (freeT_ne ftU).2.2) (some ⟨gR, 0, none⟩) L cR (HRo.out w15 ((((((HK9.out.trans HG10.out.2.2.1).trans HG11.out.2.2.1).trans HG12.out.2.2.1).trans HG13.out.2.2.1).trans HG14.out.2.2.1).trans HG15.out.2.2.1)) HL3.out.2 HL3.out.1 (by rw [HLL.out]; omega) (fun _ b off e => by
      cases e
      obtain ⟨cur, hcur, _⟩ := (rw_of hrow).1
      exact own_apart g1 hcur (freeT_ne ftU).1 (freeT_ne ftU).2.1 (freeT_ne ftU).2.2)
    rw [HLL.out, List.length_replicate] at h7
    refine h7.mono ?_
    rintro e w' ⟨v, xs, rfl, h1, h2, ⟨nb2, vb2, vg2, M2, D2, h3, h4⟩, h5⟩
    refine ⟨v, xs, rfl, h1, h2, ⟨⟨nb2, vb2, vg2, M2, D2, h3, fun j hj => ?_⟩, ⟨h4.os.trans HG15.out.1.bel.os, h4.tape.trans HG15.out.1.bel.tape, h4.output.trans HG15.out.1.bel.output, Nat.le_trans HG15.out.1.bel.size h4.size, fun x hx => (h4.kp x (Nat.lt_of_lt_of_le hx HG15.out.1.hB) (fun e => by have := g2 x e; omega)).trans (HG15.out.1.bel.block x hx)⟩, Nat.le_trans HG15.out.1.hB h4.size⟩, h5, KEEPS.gk g1 h4, h4.size⟩
    rcases h4.fr j hj with e | e
    · exact g2 j e
    · exact Nat.le_trans HG15.out.1.hB e
  go_wp2_with fail
  refine HC16.out.mono ?_
  rintro e w16 ⟨vx, xs16, rfl, hx16, hy16, hg16, hr16, hk16, hs16⟩
  obtain ⟨ax, c16, rfl, _, hax⟩ := row_form hr16
  obtain ⟨g16, rfl⟩ := hax (by omega)
  clear hax
  have HG16 : Hid (GS2 B w w16 ns ∧ w16.ownsRow w15.heap.size 44 1 (.slice (some ⟨g16, 0, none⟩) (n + 1) c16) (n + 1) (u32V xs16) ∧ KEEPS w15 w16 ∧ w15.heap.size ≤ w16.heap.size) := ⟨hg16, hr16, hk16, hs16⟩
  have HX16 : Hid (xs16.length = n + 1) := hx16
  clear hg16 hr16 hk16 hs16 hx16 hy16 HC16
  have HC17 : Hid (Calls Try.prog 12 #[.pointer (some ⟨B, 0, none⟩), .pointer (some ⟨B, 0, none⟩), .slice (some ⟨gO, 0, none⟩) q q, .slice (some ⟨gR, 0, none⟩) (n + 1) cR] w16 fun e w' => ∃ v xs, e = .returned (.tuple #[v, .int .i64 0]) ∧ xs.length = n + 1 ∧ (∀ x ∈ xs, x ≤ 1) ∧ GS2 B w w' ns ∧ w'.ownsRow w16.heap.size 44 1 v (n + 1) (u32V xs) ∧ KEEPS w16 w' ∧ w16.heap.size ≤ w'.heap.size) := by
    obtain ⟨nb, vb, vg, M, D, g1, g2⟩ := HG16.out.1.gm
    have hrow := ((((((((HK9.out.trans HG10.out.2.2.1).trans HG11.out.2.2.1).trans HG12.out.2.2.1).trans HG13.out.2.2.1).trans HG14.out.2.2.1).trans HG15.out.2.2.1).trans HG16.out.2.2.1)).row HR4.out.1 ftU
    have h7 := Lay_own w16 g1 HG16.out.1.hB (by omega) (some ⟨gO, 0, none⟩) (List.replicate q 0) q (HOw.out w16 ((((((HG10.out.2.2.1.trans HG11.out.2.2.1).trans HG12.out.2.2.1).trans HG13.out.2.2.1).trans HG14.out.2.2.1).trans HG15.out.2.2.1).trans HG16.out.2.2.1)).1 (zeros_at q) (by rw [HQ.out]; simp) (fun _ b off e => by
      cases e
      obtain ⟨cur, hcur⟩ := (HOw.out w16 ((((((HG10.out.2.2.1.trans HG11.out.2.2.1).trans HG12.out.2.2.1).trans HG13.out.2.2.1).trans HG14.out.2.2.1).trans HG15.out.2.2.1).trans HG16.out.2.2.1)).2
      exact own_apart g1 hcur (freeT_ne ftU).1 (freeT_ne ftU).2.1 (freeT_ne ftU).2.2) (some ⟨gR, 0, none⟩) L cR (HRo.out w16 (((((((HK9.out.trans HG10.out.2.2.1).trans HG11.out.2.2.1).trans HG12.out.2.2.1).trans HG13.out.2.2.1).trans HG14.out.2.2.1).trans HG15.out.2.2.1).trans HG16.out.2.2.1)) HL3.out.2 HL3.out.1 (by rw [HLL.out]; omega) (fun _ b off e => by
      cases e
      obtain ⟨cur, hcur, _⟩ := (rw_of hrow).1
      exact own_apart g1 hcur (freeT_ne ftU).1 (freeT_ne ftU).2.1 (freeT_ne ftU).2.2)
    rw [HLL.out, List.length_replicate] at h7
    refine h7.mono ?_
    rintro e w' ⟨v, xs, rfl, h1, h2, ⟨nb2, vb2, vg2, M2, D2, h3, h4⟩, h5⟩
    refine ⟨v, xs, rfl, h1, h2, ⟨⟨nb2, vb2, vg2, M2, D2, h3, fun j hj => ?_⟩, ⟨h4.os.trans HG16.out.1.bel.os, h4.tape.trans HG16.out.1.bel.tape, h4.output.trans HG16.out.1.bel.output, Nat.le_trans HG16.out.1.bel.size h4.size, fun x hx => (h4.kp x (Nat.lt_of_lt_of_le hx HG16.out.1.hB) (fun e => by have := g2 x e; omega)).trans (HG16.out.1.bel.block x hx)⟩, Nat.le_trans HG16.out.1.hB h4.size⟩, h5, KEEPS.gk g1 h4, h4.size⟩
    rcases h4.fr j hj with e | e
    · exact g2 j e
    · exact Nat.le_trans HG16.out.1.hB e
  go_wp2_with fail
  refine HC17.out.mono ?_
  rintro e w17 ⟨vx, xs17, rfl, hx17, hy17, hg17, hr17, hk17, hs17⟩
  obtain ⟨ax, c17, rfl, _, hax⟩ := row_form hr17
  obtain ⟨g17, rfl⟩ := hax (by omega)
  clear hax
  have HG17 : Hid (GS2 B w w17 ns ∧ w17.ownsRow w16.heap.size 44 1 (.slice (some ⟨g17, 0, none⟩) (n + 1) c17) (n + 1) (u32V xs17) ∧ KEEPS w16 w17 ∧ w16.heap.size ≤ w17.heap.size) := ⟨hg17, hr17, hk17, hs17⟩
  have HX17 : Hid (xs17.length = n + 1) := hx17
  clear hg17 hr17 hk17 hs17 hx17 hy17 HC17
  generalize hcn : (coneS ns L).2 = cn at *
  have HCN : Hid ((coneS ns L).2 = cn) := hcn
  clear hcn
  generalize hEB : evalB ns rs L = EB at *
  have HEB : Hid (evalB ns rs L = EB) := hEB
  have HEl : Hid (EB.length = n + 1) := by show _ = _; rw [← hEB]; unfold evalB; rw [List.length_map, HLL.out]
  clear hEB
  have hcl : cn.length ≤ 3145728 := by
    have h1 : (coneS ns L).2.length ≤ mostN L := by
      obtain ⟨nb, vb, vg, M, D, g1, _⟩ := HG17.out.1.gm
      exact Nat.le_trans (Nat.le_add_right _ _) (si_cone (wf_of g1) L _ (fun _ hl => mostN_ge hl) (SI.start (mostN L))).cl
    have h2 := mostN_le HL3.out.1
    rw [HCN.out] at h1
    omega
  obtain ⟨aA, cA, rfl, hcA, haA⟩ := row_form HG10.out.2.1
  obtain ⟨aB, cB, rfl, hcB, haB⟩ := row_form HG11.out.2.1
  generalize hcc : cn.length = c at *
  have HCc : Hid (cn.length = c) := hcc
  clear hcc
  have HE18 : Hid ((w17.alloc (.cells #[] 44)).ownsRow w17.heap.size 44 1 (.slice (some ⟨w17.heap.size, 0, none⟩) 0 0) 0 []) := ⟨rfl, Or.inr ⟨w17.heap.size, 0, #[], rfl, Nat.le_refl _, heap_alloc_new _ _, Nat.le_refl _, Nat.zero_le _, rfl, rfl⟩⟩
  have HC18 : Hid (∀ j u, (u32V xs17)[j]? = some u → (w17.alloc (.cells #[] 44)).cell? ((⟨g17, 0, none⟩ : Addr).add j) = some u) := fun j u hu => by
    have hj : j < (u32V xs17).length := (List.getElem?_eq_some_iff.1 hu).1
    have h7 := (rw_of HG17.out.2.1).1.over (ag_bel1 w17 (.cells #[] 44))
    rw [Addr.add_lit, Nat.zero_add, h7.cell hj, hu]
  have hU18 : (u32V xs17).length = n + 1 := by rw [u32V_len]; exact HX17.out
  have HO18 : Hid (∀ u ∈ u32V xs17, u.oneCell' = true) := fun u hu => by
    unfold u32V at hu
    obtain ⟨x, _, rfl⟩ := List.mem_map.1 hu
    rfl
  have HON : Hid (∀ u ∈ natV cn, u.oneCell' = true) := fun u hu => by
    unfold natV at hu
    obtain ⟨x, _, rfl⟩ := List.mem_map.1 hu
    rfl
  go_wp2_with (at_builtin; refine wpList_append_lies _ rfl _ _ 27 rfl w17.heap.size 44 i0 (.int .u32 0) 1 4 Try.underlying27 hi hz0 hz1 hz2 rfl (by decide) _ _ _ rfl HE18.out ⟨g17, 0, none⟩ (n + 1) c17 (u32V xs17) rfl (by omega) HC18.out HO18.out (by omega) (by unfold maxLen; omega) (by omega) (by simp) (w17.heap.size + 1) (by simp) ?_; intro gZ cZ w18 hown18 hgrow18 hat18 hlt18; have H18 : Hid (w18.ownsRow w17.heap.size 44 1 (.slice (some ⟨gZ, 0, none⟩) (0 + (n + 1)) cZ) (0 + (n + 1)) ([] ++ u32V xs17) ∧ (w17.alloc (.cells #[] 44)).grownBy w18 (some w17.heap.size)) := ⟨hown18, hgrow18⟩; clear hown18 hgrow18 hat18 hlt18; refine Hid.out ?_)
  refine Lib.hid ?_
  have hb18 : Below w17.heap.size w17 w18 := bel_grown0 H18.out.2
  have HG18 : Hid (GS2 B w w18 ns ∧ w18.ownsRow w17.heap.size 44 1 (.slice (some ⟨gZ, 0, none⟩) (n + 1) cZ) (n + 1) (u32V xs17) ∧ KEEPS w17 w18 ∧ w17.heap.size ≤ w18.heap.size) := ⟨HG17.out.1.over hb18, by have := H18.out.1; rw [Nat.zero_add, List.nil_append] at this; exact this, KEEPS.below hb18, hb18.size⟩
  clear H18 hb18 HE18 HC18
  have HB18 : Hid (w18.ownsRow w10.heap.size 3 1 (.slice aB c cB) c (natV cn)) := ((((((HG12.out.2.2.1.trans HG13.out.2.2.1).trans HG14.out.2.2.1).trans HG15.out.2.2.1).trans HG16.out.2.2.1).trans HG17.out.2.2.1).trans HG18.out.2.2.1).row HG11.out.2.1 ftI
  go_wp2_with (at_builtin; refine wpList_copyI rfl _ _ rfl w18 w10.heap.size c aB cB (natV cn) rfl rfl HB18.out HON.out (by omega) ?_; intro gP cP w19 hb19 hr19; have H19 : Hid (GS2 B w w19 ns ∧ w19.ownsRow w18.heap.size 3 1 (.slice (some ⟨gP, 0, none⟩) c cP) c (natV cn) ∧ KEEPS w18 w19 ∧ w18.heap.size ≤ w19.heap.size) := ⟨HG18.out.1.over hb19, hr19, KEEPS.below hb19, hb19.size⟩; clear hb19 hr19; refine Hid.out ?_)
  refine Lib.hid ?_
  have HK19 : Hid (KEEPS w10 w19 ∧ KEEPS w11 w19 ∧ KEEPS w12 w19 ∧ KEEPS w13 w19 ∧ KEEPS w14 w19 ∧ KEEPS w15 w19 ∧ KEEPS w16 w19 ∧ KEEPS w17 w19 ∧ KEEPS w18 w19) := by
    have k18 := H19.out.2.2.1
    have k17 := HG18.out.2.2.1.trans k18
    have k16 := HG17.out.2.2.1.trans k17
    have k15 := HG16.out.2.2.1.trans k16
    have k14 := HG15.out.2.2.1.trans k15
    have k13 := HG14.out.2.2.1.trans k14
    have k12 := HG13.out.2.2.1.trans k13
    have k11 := HG12.out.2.2.1.trans k12
    exact ⟨HG11.out.2.2.1.trans k11, k11, k12, k13, k14, k15, k16, k17, k18⟩
  have HOR : Hid ((∀ g, (Value.slice aA c cA).ownBlock = some g → w9.heap.size ≤ g ∧ g < w10.heap.size) ∧ (w11.heap.size ≤ g12 ∧ g12 < w12.heap.size) ∧ (w12.heap.size ≤ g13 ∧ g13 < w13.heap.size) ∧ (w13.heap.size ≤ g14 ∧ g14 < w14.heap.size) ∧ (w14.heap.size ≤ g15 ∧ g15 < w15.heap.size) ∧ (w15.heap.size ≤ g16 ∧ g16 < w16.heap.size) ∧ (w16.heap.size ≤ g17 ∧ g17 < w17.heap.size) ∧ (w17.heap.size ≤ gZ ∧ gZ < w18.heap.size) ∧ (w18.heap.size ≤ gP ∧ gP < w19.heap.size) ∧ (∀ g, (Value.slice aB c cB).ownBlock = some g → w10.heap.size ≤ g ∧ g < w11.heap.size)) := ⟨fun g hg => HG10.out.2.1.lt g hg, HG12.out.2.1.lt _ rfl, HG13.out.2.1.lt _ rfl, HG14.out.2.1.lt _ rfl, HG15.out.2.1.lt _ rfl, HG16.out.2.1.lt _ rfl, HG17.out.2.1.lt _ rfl, HG18.out.2.1.lt _ rfl, H19.out.2.1.lt _ rfl, fun g hg => HG11.out.2.1.lt g hg⟩
  have HSZ : Hid (w9.heap.size ≤ w10.heap.size ∧ w10.heap.size ≤ w11.heap.size ∧ w11.heap.size ≤ w12.heap.size ∧ w12.heap.size ≤ w13.heap.size ∧ w13.heap.size ≤ w14.heap.size ∧ w14.heap.size ≤ w15.heap.size ∧ w15.heap.size ≤ w16.heap.size ∧ w16.heap.size ≤ w17.heap.size ∧ w17.heap.size ≤ w18.heap.size ∧ w18.heap.size ≤ w19.heap.size) := ⟨HG10.out.2.2.2, HG11.out.2.2.2, HG12.out.2.2.2, HG13.out.2.2.2, HG14.out.2.2.2, HG15.out.2.2.2, HG16.out.2.2.2, HG17.out.2.2.2, HG18.out.2.2.2, H19.out.2.2.2⟩
  have HF0 : Hid (FS w19 (fun g => (Value.slice aA c cA).ownBlock = some g ∨ g = g12 ∨ g = g14 ∨ g = g16) w9.heap.size (.slice aA c cA) c g12 g14 g16 c16 w15.heap.size n EB 0 w19) := by
    obtain ⟨k10, k11, k12, k13, k14, k15, k16, k17, k18⟩ := HK19.out
    exact FS.start (k10.row HG10.out.2.1 ftI) (k12.rw (rw_of HG12.out.2.1).1 ftB) HEl.out (k14.rw (rw_of HG14.out.2.1).1 ftW) (by have := (rw_of HG14.out.2.1).2.2.1; unfold wrdV at this; rw [List.length_map] at this; exact this) (k16.row HG16.out.2.1 ftU)
  have HAf : Hid (0 < c → ∃ gA, aA = some ⟨gA, 0, none⟩) := fun h => haA (by omega)
  clear haA
  generalize hSS : (fun g => (Value.slice aA c cA).ownBlock = some g ∨ g = g12 ∨ g = g14 ∨ g = g16) = SS at *
  have HSS : Hid (∀ g, SS g ↔ ((Value.slice aA c cA).ownBlock = some g ∨ g = g12 ∨ g = g14 ∨ g = g16)) := fun g => by rw [← hSS]
  clear hSS
  have HALL : Hid (∀ W, RS w19 W SS → (GS2 B w W ns ∧ U32s W (some ⟨gR, 0, none⟩) L ∧ U32s W (some ⟨gL, 0, none⟩) L ∧ Bls W (some ⟨O, 0, none⟩) rs ∧ Bls W (some ⟨g13, 0, none⟩) EB ∧ Wds W (some ⟨g15, 0, none⟩) (simW ns (List.replicate q 0) L) ∧ U32s W (some ⟨g17, 0, none⟩) xs17 ∧ U32s W (some ⟨gZ, 0, none⟩) xs17 ∧ Nts W aB cn ∧ Nts W (some ⟨gP, 0, none⟩) cn)) := fun W hW => by
    obtain ⟨k10, k11, k12, k13, k14, k15, k16, k17, k18⟩ := HK19.out
    obtain ⟨o1, o2, o3, o4, o5, o6, o7, o8, o9, o10⟩ := HOR.out
    obtain ⟨s1, s2, s3, s4, s5, s6, s7, s8, s9, s10⟩ := HSZ.out
    have hlo : ∀ g, SS g → w9.heap.size ≤ g := fun g hg => by
      rcases (HSS.out g).1 hg with e | e | e | e
      · exact (o1 g e).1
      · omega
      · omega
      · omega
    have hap : ∀ g, g < w9.heap.size → ¬ SS g := fun g hg hs => by have := hlo g hs; omega
    have hap2 : ∀ g, w10.heap.size ≤ g → g ≠ g12 → g ≠ g14 → g ≠ g16 → ¬ SS g := fun g hg n1 n2 n3 hs => by
      rcases (HSS.out g).1 hs with e | e | e | e
      · have := (o1 g e).2; omega
      · exact n1 e
      · exact n2 e
      · exact n3 e
    have k9 := HG10.out.2.2.1.trans k10
    have k4 := HK9.out.trans k9
    have rR := rw_of (HK9.out.row HR4.out.1 ftU)
    have rL := (HR4.out.2.trans HK9.out).rw HRl.out ftU
    have rO := (HG6.out.2.2.1.trans HG8.out.2.2.1).rw HG5.out.2.1 ftB
    refine ⟨H19.out.1.rs hW (fun g hg => ⟨Nat.le_trans HG8.out.1.hB (hlo g hg), ?_⟩), ?_, ?_, ?_, ?_, ?_, ?_, ?_, ?_, ?_⟩
    · rcases (HSS.out g).1 hg with e | e | e | e
      · have h7 := k10.row HG10.out.2.1 ftI
        rcases h7.2 with ⟨e2, _⟩ | ⟨g', cap', cur, e2, h1, h2, _⟩
        · rw [e2] at e; cases e
        · rw [e2] at e; cases e
          exact ⟨cur, _, h2, ftI⟩
      · obtain ⟨cur, h2, _⟩ := k12.rw (rw_of HG12.out.2.1).1 ftB
        rw [e]; exact ⟨cur, _, h2, ftB⟩
      · obtain ⟨cur, h2, _⟩ := k14.rw (rw_of HG14.out.2.1).1 ftW
        rw [e]; exact ⟨cur, _, h2, ftW⟩
      · obtain ⟨cur, h2, _⟩ := k16.rw (rw_of HG16.out.2.1).1 ftU
        rw [e]; exact ⟨cur, _, h2, ftU⟩
    · exact (hW.rw (k9.rw rR.1 ftU) (hap _ rR.1.lt)).u32
    · exact (hW.rw (k9.rw rL ftU) (hap _ rL.lt)).u32
    · exact (hW.rw (k9.rw rO ftB) (hap _ rO.lt)).bls
    · exact (hW.rw (k13.rw (rw_of HG13.out.2.1).1 ftB) (hap2 _ (by omega) (by omega) (by omega) (by omega))).bls
    · exact (hW.rw (k15.rw (rw_of HG15.out.2.1).1 ftW) (hap2 _ (by omega) (by omega) (by omega) (by omega))).wds
    · exact (hW.rw (k17.rw (rw_of HG17.out.2.1).1 ftU) (hap2 _ (by omega) (by omega) (by omega) (by omega))).u32
    · exact (hW.rw (k18.rw (rw_of HG18.out.2.1).1 ftU) (hap2 _ (by omega) (by omega) (by omega) (by omega))).u32
    · exact nts_of (hW.row (k11.row HG11.out.2.1 ftI) (fun g e => by have := o10 g e; exact hap2 _ (by omega) (by omega) (by omega) (by omega)))
    · exact nts_of (hW.row H19.out.2.1 (fun g e => by have e' : gP = g := Option.some.inj e; rw [← e']; exact hap2 gP (by omega) (by omega) (by omega) (by omega)))
  have HXl : Hid ((simW ns (List.replicate q 0) L).length = n + 1) := by have := (rw_of HG15.out.2.1).2.2.1; unfold wrdV at this; rw [List.length_map] at this; exact this
  generalize simW ns (List.replicate q 0) L = X at *
  have HDS : Hid ((∀ g, (Value.slice aA c cA).ownBlock = some g → g ≠ g12 ∧ g ≠ g14 ∧ g ≠ g16) ∧ g12 ≠ g14 ∧ g12 ≠ g16 ∧ g14 ≠ g16 ∧ g16 < w19.heap.size) := by
    obtain ⟨o1, o2, o3, o4, o5, o6, o7, o8, o9, o10⟩ := HOR.out
    obtain ⟨s1, s2, s3, s4, s5, s6, s7, s8, s9, s10⟩ := HSZ.out
    exact ⟨fun g e => by have := o1 g e; omega, by omega, by omega, by omega, by omega⟩
  have HB9 : Hid (w9.heap.size ≤ w19.heap.size ∧ w15.heap.size ≤ w19.heap.size) := by
    obtain ⟨s1, s2, s3, s4, s5, s6, s7, s8, s9, s10⟩ := HSZ.out
    exact ⟨by omega, by omega⟩
  obtain ⟨i1, hi', hz0', hz1', hz2'⟩ := info_parts (P := Try.prog) (e := 3) (z := .int .i64 0) (size := 1) (bytes := 8) (by kernel_rfl)
  clear HK19 HOR HSZ HG10 HG11 HG12 HG13 HG14 HG15 HG16 HG17 HG18 H19 HG8 HG6 HG5 HR4 HRl HK9 HRo HRow HWd HOw HB18 HON HO18 hU18 HOc hUl
  generalize w9.heap.size = HA at *
  generalize w15.heap.size = HX at *
  go_wp2_with fail
  go_loopg [30] c (fun gk v30 wr => ∃ k : Nat, v30 = .int .i64 (k : Int) ∧ k + gk = c ∧ Aside (FS w19 SS HA (.slice aA c cA) c g12 g14 g16 c16 HX n EB 0 wr))
  case atStart => exact ⟨0, rfl, by omega, HF0.out⟩
  case round =>
    clear HF0
    obtain ⟨k, rfl, hk, HF⟩ := hrel
    by_cases hlt : k < c
    · obtain ⟨gA, rfl⟩ := HAf.out (by omega)
      have q1 : (k : Int) < (c : Int) := by omega
      obtain ⟨⟨xc, k2⟩, g2⟩ := HF.out.a_at hlt
      have HF2 : Hid (FS w19 SS HA (.slice (some ⟨gA, 0, none⟩) c cA) c g12 g14 g16 c16 HX n EB 0 (wr.setCell ⟨gA, k, none⟩ (.int .i64 (-5)))) := by
        have o1 := HDS.out.1 gA rfl
        exact HF.out.seta ((HSS.out gA).2 (Or.inl rfl)) o1.1 o1.2.1 o1.2.2 k (-5)
      go_wp2_with fail
      go_roundg (c - (k + 1))
      case measure => omega
      case rel => exact ⟨k + 1, by simp, by omega, HF2.out⟩
    · obtain rfl : c = k := by omega
      have q1 : ¬ (c : Int) < (c : Int) := by omega
      go_wp2_with fail
      clear q1 hlt hk HAf
      go_loopg [31] (n + 1) (fun gk v31 wr => ∃ k : Nat, v31 = .int .i64 (k : Int) ∧ k + gk = n + 1 ∧ Aside (FS w19 SS HA (.slice aA c cA) c g12 g14 g16 c16 HX n EB k wr))
      case atStart => exact ⟨0, rfl, by omega, HF.out⟩
      case round =>
        clear HF
        obtain ⟨k, rfl, hk, HF⟩ := hrel
        by_cases hlt : k < n + 1
        · have q1 : (k : Int) < ((n + 1 : Nat) : Int) := by omega
          have q2 : (k : Int) < (n : Int) + 1 := by omega
          obtain ⟨h1, f1⟩ := HF.out.c_at hlt
          rw [if_neg (Nat.lt_irrefl _)] at h1
          obtain ⟨d1, d2, d3, d4, d5⟩ := HDS.out
          obtain ⟨⟨xu, h2⟩, f2⟩ := HF.out.u_at2 hlt d2 (.bool (!(EB.getD k false)))
          obtain ⟨⟨xv, h3⟩, f3⟩ := HF.out.x_at2 hlt d3 d4 (.bool (!(EB.getD k false))) (.int .u64 85)
          have HF2 := Lib.hid (HF.out.step hlt ((HSS.out g12).2 (Or.inr (Or.inl rfl))) ((HSS.out g14).2 (Or.inr (Or.inr (Or.inl rfl)))) ((HSS.out g16).2 (Or.inr (Or.inr (Or.inr rfl)))) d1 d2 d3 d4)
          clear d1 d2 d3 d4 d5 HF
          generalize EB.getD k false = y at *
          go_wp2_with fail
          go_roundg (n + 1 - (k + 1))
          case measure => omega
          case rel => exact ⟨k + 1, by simp, by omega, HF2.out⟩
        · obtain rfl : k = n + 1 := by omega
          have q1 : ¬ ((n + 1 : Nat) : Int) < ((n + 1 : Nat) : Int) := by omega
          have q2 : ¬ ((n : Int) + 1) < (n : Int) + 1 := by omega
          clear hlt hk
          obtain ⟨xa, hxa⟩ := HF.out.a
          have HXA : Hid ((wr.alloc (.cells #[.int .i64 (-6)] 3)).ownsRow HA 3 1 (.slice aA c cA) c xa) := hxa.alloc _
          clear hxa
          have hHA : HA ≤ (wr.alloc (.cells #[.int .i64 (-6)] 3)).heap.size := by have := HB9.out.1; have := HF.out.rs.size; simp; omega
          go_wp2_with (at_builtin; refine wpList_append_lies _ rfl _ _ 33 rfl HA 3 i1 (.int .i64 0) 1 8 Try.underlying33 hi' hz0' hz1' hz2' rfl (by decide) _ _ _ rfl HXA.out ⟨wr.heap.size, 0, none⟩ 1 1 [.int .i64 (-6)] rfl rfl (one_new _ _ _) (by intro u hu; simp at hu; subst hu; rfl) (by omega) (by unfold maxLen; omega) (by omega) hHA (wr.heap.size + 1) (by simp) ?_; intro gA cA2 w21 hown21 hgrow21 hat21 hlt21; have H21 : Hid (w21.ownsRow HA 3 1 (.slice (some ⟨gA, 0, none⟩) (c + 1) cA2) (c + 1) (xa ++ [.int .i64 (-6)]) ∧ FS w19 SS HA (.slice (some ⟨gA, 0, none⟩) (c + 1) cA2) (c + 1) g12 g14 g16 c16 HX n EB (n + 1) w21 ∧ gA ≠ g16) := ⟨hown21, HF.out.pusha hgrow21 hown21 HDS.out.1 (fun g e => (HSS.out g).2 (Or.inl e)), (by rcases hat21 with e | e; exact (HDS.out.1 _ e).2.2; have := HF.out.rs.size; have := HDS.out.2.2.2.2; omega)⟩; clear hown21 hgrow21 hat21 hlt21; refine Hid.out ?_)
          refine Lib.hid ?_
          clear HXA HF hHA
          obtain ⟨xx, hxx⟩ := H21.out.2.1.x
          have HXX : Hid ((w21.alloc (.cells #[.int .u32 7] 44)).ownsRow HX 44 1 (.slice (some ⟨g16, 0, none⟩) (n + 1) c16) (n + 1) xx) := hxx.alloc _
          clear hxx
          have hHX : HX ≤ (w21.alloc (.cells #[.int .u32 7] 44)).heap.size := by have := HB9.out.2; have := H21.out.2.1.rs.size; simp; omega
          go_wp2_with (at_builtin; refine wpList_append_lies _ rfl _ _ 27 rfl HX 44 i0 (.int .u32 0) 1 4 Try.underlying27 hi hz0 hz1 hz2 rfl (by decide) _ _ _ rfl HXX.out ⟨w21.heap.size, 0, none⟩ 1 1 [.int .u32 7] rfl rfl (one_new _ _ _) (by intro u hu; simp at hu; subst hu; rfl) (by omega) (by unfold maxLen; omega) (by omega) hHX (w21.heap.size + 1) (by simp) ?_; intro gX cX2 w22 hown22 hgrow22 hat22 hlt22; have H22 : Hid (FT w19 SS gA c gX g12 g14 n EB w22) := H21.out.2.1.pushx H21.out.1 H21.out.2.2 HDS.out.2.2.1 HDS.out.2.2.2.1 ((HSS.out g16).2 (Or.inr (Or.inr (Or.inr rfl)))) hgrow22 hown22; clear hown22 hgrow22 hat22 hlt22; refine Hid.out ?_)
          refine Lib.hid ?_
          clear HXX H21 hHX HSS HDS HB9 hi' hz0' hz1' hz2' hi hz0 hz1 hz2
          go_wp2_with fail
          clear q1 q2
          go_loopg [32] (n + 1) (fun gk v32 wr => ∃ k d : Nat, v32 = .int .i64 (k : Int) ∧ k + gk = n + 1 ∧ wr = w22.drewN d)
          case atStart => exact ⟨0, 0, rfl, by omega, rfl⟩
          case round =>
            obtain ⟨k, d, rfl, hk, rfl⟩ := hrel
            by_cases hlt : k < n + 1
            · have q1 : (k : Int) < ((n + 1 : Nat) : Int) := by omega
              have q2 : (k : Int) < (n : Int) + 1 := by omega
              have y1 : (w22.drewN d).cell? ⟨g12, k, none⟩ = some (.bool (!(EB.getD k false))) := H22.out.cc k hlt
              have y2 : (w22.drewN d).cell? ⟨g14, k, none⟩ = some (.int .u64 85) := H22.out.uu k hlt
              have y3 : (w22.drewN d).cell? ⟨g13, k, none⟩ = some (.bool (EB.getD k false)) := by
                obtain ⟨b1, o1, e1, hb1, hc1⟩ := (HALL.out w22 H22.out.rs).2.2.2.2.1 (by rw [HEl.out]; omega)
                cases e1
                have := hc1 k (by rw [HEl.out]; omega)
                rw [Nat.zero_add] at this
                exact this
              have y4 : (w22.drewN d).cell? ⟨g15, k, none⟩ = some (.int .u64 ((X.getD k 0 : Nat) : Int)) := by
                obtain ⟨b1, o1, e1, hb1, hc1⟩ := (HALL.out w22 H22.out.rs).2.2.2.2.2.1 (by rw [HXl.out]; omega)
                cases e1
                have := hc1 k (by rw [HXl.out]; omega)
                rw [Nat.zero_add] at this
                exact this
              have HDN : Aside (∀ q, ∃ z, (w22.drewN d).drewN q = w22.drewN z) := fun q => ⟨d + q, by rw [World.drewN_drewN]⟩
              generalize EB.getD k false = y at *
              generalize ((X.getD k 0 : Nat) : Int) = z at *
              generalize w22.drewN d = WQ at *
              by_cases hz : z = 85
              · subst hz
                cases y
                all_goals go_wp2_with fail
                all_goals go_quiet (fail)
                all_goals go_wp2_with fail
                all_goals go_roundg (n + 1 - (k + 1))
                all_goals first | omega | (obtain ⟨z, hz⟩ := HDN.out _; exact ⟨k + 1, z, by simp, by omega, hz⟩)
              · have hz2 : decide (z = 85) = false := decide_eq_false hz
                cases y
                all_goals go_wp2_with fail
                all_goals go_quiet (fail)
                all_goals go_wp2_with fail
                all_goals go_roundg (n + 1 - (k + 1))
                all_goals first | omega | (obtain ⟨z, hz⟩ := HDN.out _; exact ⟨k + 1, z, by simp, by omega, hz⟩)
            · obtain rfl : k = n + 1 := by omega
              have q1 : ¬ ((n + 1 : Nat) : Int) < ((n + 1 : Nat) : Int) := by omega
              have q2 : ¬ ((n : Int) + 1) < (n : Int) + 1 := by omega
              clear hlt hk HXl
              have H23 : Hid (FT w19 SS gA c gX g12 g14 n EB (w22.drewN d)) := H22.out.over (drw_bel _ _)
              clear H22
              generalize w22.drewN d = w23 at *
              have HC24 : Hid (Calls Try.prog 9 #[.pointer (some ⟨B, 0, none⟩), .slice (some ⟨gR, 0, none⟩) (n + 1) cR] w23 fun e w' => ∃ vC, e = .returned (.tuple #[vC, .int .i64 0]) ∧ Below w23.heap.size w23 w' ∧ w'.ownsRow w23.heap.size 3 1 vC c (natV cn)) := by
                have hA := HALL.out w23 H23.out.rs
                obtain ⟨nb, vb, vg, M, D, g1, _⟩ := hA.1.gm
                have h7 := Cone_ok w23 g1 (some ⟨gR, 0, none⟩) L cR hA.2.1 HL3.out.2 HL3.out.1 (by rw [HLL.out]; omega)
                rw [HLL.out, HCN.out, HCc.out] at h7
                exact h7
              go_wp2_with fail
              refine HC24.out.mono ?_
              rintro e w24 ⟨vE, rfl, hb24, hr24⟩
              obtain ⟨aE, cE, rfl, _, _⟩ := row_form hr24
              have H24 : Hid (FT w19 SS gA c gX g12 g14 n EB w24 ∧ Nts w24 aE cn) := ⟨H23.out.over hb24, nts_of hr24⟩
              clear H23 hb24 hr24 HC24
              have HC25 : Hid (Calls Try.prog 10 #[.pointer (some ⟨B, 0, none⟩), .slice (some ⟨O, 0, none⟩) q q, .slice (some ⟨gR, 0, none⟩) (n + 1) cR] w24 fun e w' => ∃ v, e = .returned (.tuple #[v, .int .i64 0]) ∧ Below w24.heap.size w24 w' ∧ w'.ownsRow w24.heap.size 4 1 v (n + 1) (blV EB)) := by
                have hA := HALL.out w24 H24.out.1.rs
                obtain ⟨nb, vb, vg, M, D, g1, _⟩ := hA.1.gm
                have h7 := Eval_ok w24 g1 (some ⟨O, 0, none⟩) rs q hA.2.2.2.1 (by rw [HLs.out, HQ.out]) (some ⟨gR, 0, none⟩) L cR hA.2.1 HL3.out.2 HL3.out.1 (by rw [HLL.out]; omega)
                rw [HLL.out, HLs.out, HEB.out] at h7
                exact h7
              go_wp2_with fail
              refine HC25.out.mono ?_
              rintro e w25 ⟨vF, rfl, hb25, hr25⟩
              obtain ⟨aF, cF, rfl, _, _⟩ := row_form hr25
              have H25 : Hid (FT w19 SS gA c gX g12 g14 n EB w25 ∧ Nts w25 aE cn ∧ Bls w25 aF EB) := ⟨H24.out.1.over hb25, H24.out.2.below hb25, bls_of hr25⟩
              clear H24 hb25 hr25 HC25
              have HD : Hid (∀ W d, Below w25.heap.size w25 W → Below w25.heap.size w25 (W.drewN d)) := fun W d hW => ag_next hW (drw_bel _ _)
              have HAW : Hid (∀ W, Below w25.heap.size w25 W → RS w19 W SS) := fun W hW => H25.out.1.rs.over hW
              have HNo : Hid (∀ W, Below w25.heap.size w25 W → Calls Try.prog 13 #[.int .i64 0] W fun e w' => e = .returned (.int .i64 0) ∧ Below w25.heap.size w25 w') := fun W hW => by
                refine (no_any 0 W).mono ?_
                rintro e w' ⟨rfl, rfl⟩
                exact ⟨rfl, hW⟩
              have HS1 : Hid (∀ W, Below w25.heap.size w25 W → Calls Try.prog 14 #[.slice aB c cB, .slice (some ⟨gP, 0, none⟩) c cP] W fun e w' => e = .returned (.bool true) ∧ Below w25.heap.size w25 w') := fun W hW => by
                have hA := HALL.out W (HAW.out W hW)
                have h7 := sameInts_eq W aB (some ⟨gP, 0, none⟩) cB cP cn hA.2.2.2.2.2.2.2.2.1 hA.2.2.2.2.2.2.2.2.2 (by rw [HCc.out]; omega)
                rw [HCc.out] at h7
                refine h7.mono ?_
                rintro e w' ⟨rfl, d, rfl⟩
                exact ⟨rfl, HD.out W d hW⟩
              have HS2 : Hid (∀ W, Below w25.heap.size w25 W → Calls Try.prog 14 #[.slice aE c cE, .slice (some ⟨gP, 0, none⟩) c cP] W fun e w' => e = .returned (.bool true) ∧ Below w25.heap.size w25 w') := fun W hW => by
                have hA := HALL.out W (HAW.out W hW)
                have h7 := sameInts_eq W aE (some ⟨gP, 0, none⟩) cE cP cn (H25.out.2.1.below hW) hA.2.2.2.2.2.2.2.2.2 (by rw [HCc.out]; omega)
                rw [HCc.out] at h7
                refine h7.mono ?_
                rintro e w' ⟨rfl, d, rfl⟩
                exact ⟨rfl, HD.out W d hW⟩
              have HS3 : Hid (∀ W, Below w25.heap.size w25 W → Calls Try.prog 15 #[.slice (some ⟨g17, 0, none⟩) (n + 1) c17, .slice (some ⟨gZ, 0, none⟩) (n + 1) cZ] W fun e w' => e = .returned (.bool true) ∧ Below w25.heap.size w25 w') := fun W hW => by
                have hA := HALL.out W (HAW.out W hW)
                have h7 := sameLits_eq W (some ⟨g17, 0, none⟩) (some ⟨gZ, 0, none⟩) c17 cZ xs17 hA.2.2.2.2.2.2.1 hA.2.2.2.2.2.2.2.1 (by rw [HX17.out]; omega)
                rw [HX17.out] at h7
                refine h7.mono ?_
                rintro e w' ⟨rfl, d, rfl⟩
                exact ⟨rfl, HD.out W d hW⟩
              have HS4 : Hid (∀ W, Below w25.heap.size w25 W → Calls Try.prog 15 #[.slice (some ⟨gR, 0, none⟩) (n + 1) cR, .slice (some ⟨gL, 0, none⟩) (n + 1) cL] W fun e w' => e = .returned (.bool true) ∧ Below w25.heap.size w25 w') := fun W hW => by
                have hA := HALL.out W (HAW.out W hW)
                have h7 := sameLits_eq W (some ⟨gR, 0, none⟩) (some ⟨gL, 0, none⟩) cR cL L hA.2.1 hA.2.2.1 (by rw [HLL.out]; omega)
                rw [HLL.out] at h7
                refine h7.mono ?_
                rintro e w' ⟨rfl, d, rfl⟩
                exact ⟨rfl, HD.out W d hW⟩
              have HS5 : Hid (∀ W, Below w25.heap.size w25 W → Calls Try.prog 16 #[.slice aF (n + 1) cF, .slice (some ⟨g13, 0, none⟩) (n + 1) c13] W fun e w' => e = .returned (.bool true) ∧ Below w25.heap.size w25 w') := fun W hW => by
                have hA := HALL.out W (HAW.out W hW)
                have h7 := sameBools_eq W aF (some ⟨g13, 0, none⟩) cF c13 EB (H25.out.2.2.below hW) hA.2.2.2.2.1 (by rw [HEl.out]; omega)
                rw [HEl.out] at h7
                refine h7.mono ?_
                rintro e w' ⟨rfl, d, rfl⟩
                exact ⟨rfl, HD.out W d hW⟩
              have HS6 : Hid (∀ W, Below w25.heap.size w25 W → Calls Try.prog 8 #[.pointer (some ⟨B, 0, none⟩)] W fun e w' => e = .returned (.int .i64 (q : Int)) ∧ Below w25.heap.size w25 w') := fun W hW => by
                have hA := HALL.out W (HAW.out W hW)
                obtain ⟨nb, vb, vg, M, D, g1, _⟩ := hA.1.gm
                have h7 := Inputs_any W g1
                rw [HQ.out] at h7
                refine h7.mono ?_
                rintro e w' ⟨rfl, d, rfl⟩
                exact ⟨rfl, HD.out W d hW⟩
              have HW25 : Hid (Below w25.heap.size w25 w25) := ⟨rfl, rfl, rfl, Nat.le_refl _, fun _ _ => rfl⟩
              have HEND : Hid (∀ W, Below w25.heap.size w25 W → (W.cell? ⟨gA, c, none⟩ = some (.int .i64 (-6)) ∧ W.cell? ⟨gX, n + 1, none⟩ = some (.int .u32 7) ∧ Below B w W)) := fun W hW => ⟨(H25.out.1.over hW).a.1, (H25.out.1.over hW).x.1, (HALL.out W (HAW.out W hW)).1.bel⟩
              clear HALL H25 HD HAW
              go_wp2_with fail
              refine (HNo.out _ HW25.out).mono ?_
              rintro e w26 ⟨rfl, hb⟩
              have HB26 : Hid (Below w25.heap.size w25 w26) := hb
              clear hb HW25
              go_wp2_with fail
              refine (HNo.out _ HB26.out).mono ?_
              rintro e w27 ⟨rfl, hb⟩
              have HB27 : Hid (Below w25.heap.size w25 w27) := hb
              clear hb HB26
              go_wp2_with fail
              refine (HS1.out _ HB27.out).mono ?_
              rintro e w28 ⟨rfl, hb⟩
              have HB28 : Hid (Below w25.heap.size w25 w28) := hb
              clear hb HB27
              go_wp2_with fail
              refine (HS2.out _ HB28.out).mono ?_
              rintro e w29 ⟨rfl, hb⟩
              have HB29 : Hid (Below w25.heap.size w25 w29) := hb
              clear hb HB28
              go_wp2_with fail
              refine (HS3.out _ HB29.out).mono ?_
              rintro e w30 ⟨rfl, hb⟩
              have HB30 : Hid (Below w25.heap.size w25 w30) := hb
              clear hb HB29
              go_wp2_with fail
              refine (HS4.out _ HB30.out).mono ?_
              rintro e w31 ⟨rfl, hb⟩
              have HB31 : Hid (Below w25.heap.size w25 w31) := hb
              clear hb HB30
              go_wp2_with fail
              refine (HS5.out _ HB31.out).mono ?_
              rintro e w32 ⟨rfl, hb⟩
              have HB32 : Hid (Below w25.heap.size w25 w32) := hb
              clear hb HB31
              go_wp2_with fail
              refine (HS6.out _ HB32.out).mono ?_
              rintro e w33 ⟨rfl, hb⟩
              obtain ⟨e1, e2, e3⟩ := HEND.out w33 hb
              have HE : Hid (Below B w w33) := e3
              clear hb HB32 e3
              go_wp2_with fail
              go_ret
              exact ⟨rfl, HE.out⟩
end Go.Proofs.Ytekdmdnnpcjaoaa
