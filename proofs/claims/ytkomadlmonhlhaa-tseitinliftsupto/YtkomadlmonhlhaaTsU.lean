import Derived.Test.YtkomadlmonhlhaaTsT
namespace Go.Proofs.Ytkomadlmonhlhaa
open Go.ChangeShapes Go.WideShapes Go.ChangeAt Go.RowKit Go.Lib Go.Ag Go.WideMaps Go.Maps Go.ChangeMaps Go.Cn

abbrev S3 := Int × Int × Int
def opM (ns : Nds) (kd : Int) (a b : Nat) : Option (Nat × Nds) := if kd = 1 then some (2 * (ns.length + 1), ns ++ [none]) else andN ns a b
/-- what a list of makings makes -/
def madeM (ns : Nds) (L : List Nat) : List S3 → Option (Nds × List Nat)
  | [] => some (ns, L)
  | s :: sc => (opM ns s.1 (pickN L s.2.1) (pickN L s.2.2)).bind fun x => madeM x.2 (L ++ [x.1]) sc
theorem madeM_snoc : ∀ (sc : List S3) (ns : Nds) (L : List Nat) (s : S3), madeM ns L (sc ++ [s]) = (madeM ns L sc).bind fun y => (opM y.1 s.1 (pickN y.2 s.2.1) (pickN y.2 s.2.2)).bind fun x => some (x.2, y.2 ++ [x.1])
  | [], ns, L, s => rfl
  | t :: sc, ns, L, s => by
    show (opM ns t.1 _ _).bind _ = ((opM ns t.1 _ _).bind _).bind _
    cases opM ns t.1 (pickN L t.2.1) (pickN L t.2.2) with
    | none => rfl
    | some x => exact madeM_snoc sc x.2 (L ++ [x.1]) s
def MD3 (w : World) (ad : Option Addr) (sc : List S3) : Prop := 0 < sc.length → ∃ b off, ad = some ⟨b, off, none⟩ ∧ b < w.heap.size ∧ ∀ j, j < sc.length → w.cell? ⟨b, off + j * 3, none⟩ = some (.int .i64 (sc.getD j (0, 0, 0)).1) ∧ w.cell? ⟨b, off + j * 3 + 1, none⟩ = some (.int .i64 (sc.getD j (0, 0, 0)).2.1) ∧ w.cell? ⟨b, off + j * 3 + 2, none⟩ = some (.int .i64 (sc.getD j (0, 0, 0)).2.2)
theorem MD3.below {w w' : World} {ad : Option Addr} {sc : List S3} (h : MD3 w ad sc) (hb : Below w.heap.size w w') : MD3 w' ad sc := fun h0 => by
  obtain ⟨b, off, e, hl, hc⟩ := h h0
  exact ⟨b, off, e, Nat.lt_of_lt_of_le hl hb.size, fun j hj => ⟨(hb.cell (p := ⟨b, _, none⟩) hl).trans (hc j hj).1, (hb.cell (p := ⟨b, _, none⟩) hl).trans (hc j hj).2.1, (hb.cell (p := ⟨b, _, none⟩) hl).trans (hc j hj).2.2⟩⟩
def bd3 (sc : List S3) : Prop := ∀ s ∈ sc, (-9223372036854775808 ≤ s.2.1 ∧ s.2.1 ≤ 9223372036854775807) ∧ (-9223372036854775808 ≤ s.2.2 ∧ s.2.2 ≤ 9223372036854775807)
theorem res_4 {P : Program} {fn : Func} {a b c d : Tmp} (h : fn.results = #[.tmp a, .tmp b, .tmp c, .tmp d]) (tmps : Array Value) (w : World) (x y z u : Value) (ha : tmps.getD a undef = x) (hb : tmps.getD b undef = y) (hc : tmps.getD c undef = z) (hd : tmps.getD d undef = u) :
    (results fn tmps).run P w = .ok (.tuple #[x, y, z, u]) w := by
  simp only [results, h]
  simp
  rw [show tmps[a]?.getD undef = tmps.getD a undef by simp, show tmps[b]?.getD undef = tmps.getD b undef by simp, show tmps[c]?.getD undef = tmps.getD c undef by simp, show tmps[d]?.getD undef = tmps.getD d undef by simp, ha, hb, hc, hd]
  exact ⟨rfl, rfl, rfl, rfl⟩
/-- the literals so far -/
structure MJ (ns : Nds) (L : List Nat) (k : Nat) : Prop where
  len : L.length = k + 1
  lit : ∀ l ∈ L, l / 2 ≤ ns.length
  few : ns.length ≤ k
  gs : GS ns
theorem andN_le1 {ns ns' : Nds} {a b l : Nat} (h : andN ns a b = some (l, ns')) (ha : a / 2 ≤ ns.length) (hb : b / 2 ≤ ns.length) : l / 2 ≤ ns'.length ∧ ns.length ≤ ns'.length ∧ ns'.length ≤ ns.length + 1 := by
  unfold andN at h
  cases hs : andS a b with
  | some x =>
    rw [hs] at h
    cases h
    refine ⟨?_, Nat.le_refl _, Nat.le_succ _⟩
    unfold andS at hs
    split at hs
    · cases hs; omega
    · split at hs
      · cases hs; exact hb
      · split at hs
        · cases hs; exact ha
        · cases hs
  | none =>
    rw [hs] at h
    cases hf : fnd ns (a, b) with
    | some x =>
      rw [hf] at h
      cases h
      obtain ⟨i, h1, h2, _⟩ := fnd_is hf
      exact ⟨by omega, Nat.le_refl _, Nat.le_succ _⟩
    | none =>
      rw [hf] at h
      have h' : (if 1073741823 ≤ ns.length then none else some (2 * (ns.length + 1), ns ++ [some (a, b)])) = some (l, ns') := h
      by_cases e : 1073741823 ≤ ns.length
      · rw [if_pos e] at h'; cases h'
      · rw [if_neg e] at h'
        cases h'
        rw [List.length_append]
        exact ⟨by show 2 * (ns.length + 1) / 2 ≤ ns.length + 1; omega, by omega, Nat.le_refl _⟩
theorem MJ.next {ns ns' : Nds} {L : List Nat} {k l : Nat} (h : MJ ns L k) (h1 : l / 2 ≤ ns'.length) (h2 : ns.length ≤ ns'.length) (h3 : ns'.length ≤ ns.length + 1) (h4 : GS ns') : MJ ns' (L ++ [l]) (k + 1) := by
  refine ⟨by rw [List.length_append, h.len]; rfl, fun x hx => ?_, by have := h.few; omega, h4⟩
  rcases List.mem_append.1 hx with hx | hx
  · have := h.lit x hx; omega
  · rw [List.mem_singleton] at hx; rw [hx]; exact h1
set_option maxHeartbeats 16000000 in
set_option maxRecDepth 100000 in
theorem made_two (w : World) (ad : Option Addr) (sc : List S3) (cp : Nat) (hsc : MD3 w ad sc) (hbd : bd3 sc) (hn : sc.length ≤ 1048576) :
    Calls Try.prog 6 #[.slice ad sc.length cp] w fun e w' => ∃ Rg Rr ns L vL, e = .returned (.tuple #[.pointer (some ⟨Rg, 0, none⟩), .pointer (some ⟨Rr, 0, none⟩), vL, .bool true]) ∧ madeM [] [0] sc = some (ns, L) ∧ MJ ns L sc.length ∧ TT w w' Rg Rr ns ns L vL := by
  generalize hPP : (fun (e : Ending) (w' : World) => ∃ Rg Rr ns L vL, e = .returned (.tuple #[.pointer (some ⟨Rg, 0, none⟩), .pointer (some ⟨Rr, 0, none⟩), vL, .bool true]) ∧ madeM [] [0] sc = some (ns, L) ∧ MJ ns L sc.length ∧ TT w w' Rg Rr ns ns L vL) = PP
  have HP : Hid (∀ Rg Rr ns L vL w', madeM [] [0] sc = some (ns, L) → MJ ns L sc.length → TT w w' Rg Rr ns ns L vL → PP (.returned (.tuple #[.pointer (some ⟨Rg, 0, none⟩), .pointer (some ⟨Rr, 0, none⟩), vL, .bool true])) w') := fun Rg Rr ns L vL w' h1 h2 h3 => by rw [← hPP]; exact ⟨Rg, Rr, ns, L, vL, rfl, h1, h2, h3⟩
  have HSC : Aside (MD3 w ad sc) := hsc
  have HBd : Aside (bd3 sc) := hbd
  clear hPP hsc hbd
  generalize hnn : sc.length = n at *
  have HL : Aside (sc.length = n) := hnn
  clear hnn
  have HN1 : Hid (Calls Try.prog 24 #[] w fun e w' => e = .returned (.pointer (some ⟨w.heap.size, 0, none⟩)) ∧ w' = w.alloc (.cells #[.int .i64 0, .slice none 0 0, .slice none 0 0, .map none] 91)) := new_any w
  obtain ⟨w1, hw1⟩ : ∃ w1, w.alloc (.cells #[.int .i64 0, .slice none 0 0, .slice none 0 0, .map none] 91) = w1 := ⟨_, rfl⟩
  have HG1 : Hid (Below w.heap.size w w1 ∧ GM w1 w.heap.size w.heap.size [] 0 (.slice none 0 0) (.slice none 0 0) none (.map [])) := by rw [← hw1]; exact ⟨ag_bel1 _ _, GM.new (heap_alloc_new _ _) (Nat.le_refl _)⟩
  rw [hw1] at HN1
  have HN2 : Hid (Calls Try.prog 25 #[] w1 fun e w' => ∃ R vL, e = .returned (.pointer (some ⟨R, 0, none⟩)) ∧ RG w' w1.heap.size R [] vL ∧ Below w1.heap.size w1 w' ∧ w1.heap.size ≤ w'.heap.size) := rnew_any w1
  obtain ⟨i0, hi, hz0, hz1, hz2⟩ := info_parts (P := Try.prog) (e := 42) (z := .int .u32 0) (size := 1) (bytes := 4) (by kernel_rfl)
  clear hw1
  go_enter Try.func6, Try.ntmps6
  go_wp2_with fail
  refine HN1.out.mono ?_
  rintro e wx ⟨rfl, hwx⟩
  subst wx
  go_wp2_with fail
  refine HN2.out.mono ?_
  rintro e w2 ⟨Rr, vR, rfl, hr2, hb2, hs2⟩
  have HM0 : Hid (TT w (w2.alloc (.cells #[.int .u32 0] 42)) w.heap.size Rr [] [] [0] (.slice (some ⟨w2.heap.size, 0, none⟩) 1 1)) := by
    have hb := ag_next HG1.out.1 hb2
    have hb3 := ag_next hb (ag_bel1 w2 (.cells #[.int .u32 0] 42))
    refine ⟨⟨0, _, _, _, _, (HG1.out.2.over hb2).over (ag_bel1 _ _), fun j hj => ?_⟩, ⟨vR, RG.over (w := w2) ⟨hr2.blk, row_low hr2.row HG1.out.1.size, Nat.le_trans HG1.out.1.size hr2.low⟩ (ag_bel1 _ _)⟩, ⟨rfl, Or.inr ⟨w2.heap.size, 1, #[.int .u32 0], rfl, hb.size, heap_alloc_new _ _, Nat.le_refl _, by unfold maxLen; omega, rfl, rfl⟩⟩, hb3⟩
    rcases hj with e | e | e | e
    · omega
    · cases e
    · cases e
    · cases e
  clear HN1 HN2 hr2 hb2 hs2 HG1
  go_wp2_with fail
  generalize w2.alloc (.cells #[.int .u32 0] 42) = w3 at *
  go_loopg [8, 9] n (fun gk v8 v9 wr => ∃ k ns L vL, v8 = vL ∧ v9 = .int .i64 ((k : Nat) : Int) ∧ k + gk = n ∧ Aside (madeM [] [0] (sc.take k) = some (ns, L)) ∧ Aside (MJ ns L k) ∧ Aside (TT w wr w.heap.size Rr ns ns L vL))
  case atStart => exact ⟨0, [], [0], _, rfl, rfl, by omega, by rw [List.take_zero]; rfl, ⟨rfl, by intro l hl; simp at hl; subst hl; decide, by decide, ⟨fun p g h => by simp at h, fun p p' g h => by simp at h⟩⟩, HM0.out⟩
  case round =>
    clear HM0
    obtain ⟨k, ns, L, vL, rfl, rfl, hk, HT, HI, HM⟩ := hrel
    obtain ⟨aL, cL, rfl, hcL, haL⟩ := row_form HM.out.row
    by_cases hlt : k < n
    · have q1 : (k : Int) < (n : Int) := by omega
      obtain ⟨b, off, rfl, hbb, hcc⟩ := HSC.out (by rw [HL.out]; omega)
      obtain ⟨c0, c1, c2⟩ := hcc k (by rw [HL.out]; exact hlt)
      have hkp : wr.heap[b]? = w.heap[b]? := HM.out.bel.block b hbb
      rw [← World.cell?_of_block (w' := wr) (a := ⟨b, off + k * 3, none⟩) hkp] at c0
      rw [← World.cell?_of_block (w' := wr) (a := ⟨b, off + k * 3 + 1, none⟩) hkp] at c1
      rw [← World.cell?_of_block (w' := wr) (a := ⟨b, off + k * 3 + 2, none⟩) hkp] at c2
      have hmem : sc.getD k (0, 0, 0) ∈ sc := by rw [List.getD_eq_getElem?_getD, List.getElem?_eq_getElem (by rw [HL.out]; exact hlt)]; exact List.getElem_mem _
      have hb5 := HBd.out _ hmem
      have HT2 : Hid (madeM [] [0] (sc.take (k + 1)) = (opM ns (sc.getD k (0, 0, 0)).1 (pickN L (sc.getD k (0, 0, 0)).2.1) (pickN L (sc.getD k (0, 0, 0)).2.2)).bind fun x => some (x.2, L ++ [x.1])) := by
        show _ = _
        rw [List.take_succ_eq_append_getElem (by rw [HL.out]; exact hlt), madeM_snoc, HT.out, List.getD_eq_getElem?_getD, List.getElem?_eq_getElem (by rw [HL.out]; exact hlt)]
        rfl
      clear hcc hmem HT hkp
      generalize sc.getD k (0, 0, 0) = s at *
      obtain ⟨kd, sa, sb⟩ := s
      simp only [] at c0 c1 c2 hb5 HT2
      have hL9 : L.length ≤ 1048577 := by rw [HI.out.len]; omega
      have hns : ns.length ≤ 1048576 := by have := HI.out.few; omega
      have hL0 : 0 < L.length := by rw [HI.out.len]; omega
      have hpa : pickN L sa / 2 ≤ ns.length := pickN_le HI.out.lit hL0
      have hpb : pickN L sb / 2 ≤ ns.length := pickN_le HI.out.lit hL0
      have HFIN : Hid (∀ l ns' W, opM ns kd (pickN L sa) (pickN L sb) = some (l, ns') → l / 2 ≤ ns'.length → ns.length ≤ ns'.length → ns'.length ≤ ns.length + 1 → GS ns' → TT w W w.heap.size Rr ns' ns' L (.slice aL L.length cL) → Hid (madeM [] [0] (sc.take (k + 1)) = some (ns', L ++ [l]) ∧ MJ ns' (L ++ [l]) (k + 1) ∧ TT w W w.heap.size Rr ns' ns' L (.slice aL L.length cL))) := fun l ns' W h1 h2 h3 h4 h5 h6 => ⟨by rw [HT2.out, h1]; rfl, HI.out.next h2 h3 h4 h5, h6⟩
      have HNo : Hid (∀ W, Calls Try.prog 11 #[.int .i64 0] W fun e w' => e = .returned (.int .i64 0) ∧ w' = W) := fun W => no_any 0 W
      by_cases e1 : kd = 1
      · subst kd
        have hgi := tt_gin HM.out (by omega)
        obtain ⟨l, hl⟩ : ∃ l, 2 * (ns.length + 1) = l := ⟨_, rfl⟩
        rw [hl] at hgi
        have HGI : Hid (Calls Try.prog 26 #[.pointer (some ⟨w.heap.size, 0, none⟩)] wr fun e w' => e = .returned (.tuple #[.int .u32 (l : Int), .int .i64 0]) ∧ TT w w' w.heap.size Rr (ns ++ [none]) ns L (.slice aL L.length cL)) := hgi
        have HLl : Hid (2 * (ns.length + 1) = l) := hl
        clear hgi hl
        go_wp2_with fail
        refine HGI.out.mono ?_
        rintro e w4 ⟨rfl, h4⟩
        have hri := tt_rin h4 (by omega)
        rw [HLl.out] at hri
        have HRI : Hid (Calls Try.prog 27 #[.pointer (some ⟨Rr, 0, none⟩)] w4 fun e w' => e = .returned (.tuple #[.int .u32 (l : Int), .int .i64 0]) ∧ TT w w' w.heap.size Rr (ns ++ [none]) (ns ++ [none]) L (.slice aL L.length cL)) := hri
        clear h4 hri
        go_wp2_with fail
        refine HRI.out.mono ?_
        rintro e w5 ⟨rfl, h5⟩
        have HF := HFIN.out l (ns ++ [none]) w5 (by unfold opM; rw [if_pos rfl, HLl.out]) (by have := HLl.out; rw [List.length_append]; show l / 2 ≤ ns.length + 1; omega) (by rw [List.length_append]; omega) (by rw [List.length_append]; exact Nat.le_refl _) HI.out.gs.input h5
        clear HGI HRI h5 HFIN HT2 HI HM c0 c1 c2
        have hr4 : Hid (w5.ownsRow w.heap.size 42 1 (.slice aL L.length cL) L.length (u32V L)) := HF.out.2.2.row
        have hw4 : w.heap.size ≤ w5.heap.size := HF.out.2.2.bel.size
        generalize ns ++ [none] = ns' at *
        go_wp2_with fail
        refine (HNo.out _).mono ?_
        rintro e wn ⟨rfl, hwn⟩; subst wn
        go_wp2_with (at_builtin; refine wpList_append_lies _ rfl _ _ 24 rfl w.heap.size 42 i0 (.int .u32 0) 1 4 Try.underlying24 hi hz0 hz1 hz2 rfl (by decide) _ _ _ rfl (hr4.out.alloc _) ⟨w5.heap.size, 0, none⟩ 1 1 [.int .u32 (l : Int)] rfl rfl (one_new _ _ _) (by intro u hu; simp at hu; subst hu; rfl) (by omega) (by unfold maxLen; omega) (by omega) (by simp; omega) (w5.heap.size + 1) (by simp) ?_; intro g6 cap6 w6 hown6 hgrow6 hat6 hlt6; have HM6 : Hid (TT w w6 w.heap.size Rr ns' ns' (L ++ [l]) (.slice (some ⟨g6, 0, none⟩) (L.length + 1) cap6)) := TT.push rfl HF.out.2.2 hown6 hgrow6; clear hown6 hgrow6 hat6 hlt6; refine Hid.out ?_)
        refine Lib.hid ?_
        go_wp2_with fail
        go_roundg (n - (k + 1))
        case measure => omega
        case rel => exact ⟨k + 1, ns', L ++ [l], _, rfl, by simp, by omega, HF.out.1, HF.out.2.1, HM6.out⟩
      · have z1 : (kd == 1) = false := by simp; omega
        have HPk : Hid (∀ i, (-9223372036854775808 ≤ i ∧ i ≤ 9223372036854775807) → Calls Try.prog 28 #[.slice aL L.length cL, .int .i64 i] wr fun e w' => e = .returned (.int .u32 ((pickN L i : Nat) : Int)) ∧ w' = wr) := fun i hi => pick_any wr aL L cL (u32s_of HM.out.row) hL0 (by omega) (fun l hl => by have h1 := HI.out.lit l hl; omega) i hi
        go_wp2_with fail
        refine (HPk.out sa hb5.1).mono ?_
        rintro e wn ⟨rfl, hwn⟩; subst wn
        go_wp2_with fail
        refine (HPk.out sb hb5.2).mono ?_
        rintro e wn ⟨rfl, hwn⟩; subst wn
        generalize hPA : pickN L sa = pa at *
        generalize hPB : pickN L sb = pb at *
        go_wp2_with fail
        refine (tt_gand HM.out pa pb hpa hpb (by omega)).mono ?_
        rintro e w4 ⟨l, ns', rfl, ha4, h4⟩
        have H4 : Hid (TT w w4 w.heap.size Rr ns' ns L (.slice aL L.length cL)) := h4
        clear h4
        go_wp2_with fail
        refine (tt_rand H4.out HI.out.gs pa pb hpa hpb (by omega)).mono ?_
        rintro e w5 ⟨l', ns'', rfl, ha5, h5⟩
        have e5 := ha4.symm.trans ha5
        cases e5
        have hle := andN_le1 ha4 hpa hpb
        have HF := HFIN.out l ns' w5 (by unfold opM; rw [if_neg e1]; exact ha4) hle.1 hle.2.1 hle.2.2 (andN_sem (inp := fun _ => false) HI.out.gs ha4 hpa hpb).1.gs h5
        clear H4 h5 HFIN HT2 HI HM c0 c1 c2 ha4 ha5 hle HPk
        have hr4 : Hid (w5.ownsRow w.heap.size 42 1 (.slice aL L.length cL) L.length (u32V L)) := HF.out.2.2.row
        have hw4 : w.heap.size ≤ w5.heap.size := HF.out.2.2.bel.size
        go_wp2_with fail
        refine (HNo.out _).mono ?_
        rintro e wn ⟨rfl, hwn⟩; subst wn
        go_wp2_with (at_builtin; refine wpList_append_lies _ rfl _ _ 24 rfl w.heap.size 42 i0 (.int .u32 0) 1 4 Try.underlying24 hi hz0 hz1 hz2 rfl (by decide) _ _ _ rfl (hr4.out.alloc _) ⟨w5.heap.size, 0, none⟩ 1 1 [.int .u32 (l : Int)] rfl rfl (one_new _ _ _) (by intro u hu; simp at hu; subst hu; rfl) (by omega) (by unfold maxLen; omega) (by omega) (by simp; omega) (w5.heap.size + 1) (by simp) ?_; intro g6 cap6 w6 hown6 hgrow6 hat6 hlt6; have HM6 : Hid (TT w w6 w.heap.size Rr ns' ns' (L ++ [l]) (.slice (some ⟨g6, 0, none⟩) (L.length + 1) cap6)) := TT.push rfl HF.out.2.2 hown6 hgrow6; clear hown6 hgrow6 hat6 hlt6; refine Hid.out ?_)
        refine Lib.hid ?_
        go_wp2_with fail
        go_roundg (n - (k + 1))
        case measure => omega
        case rel => exact ⟨k + 1, ns', L ++ [l], _, rfl, by simp, by omega, HF.out.1, HF.out.2.1, HM6.out⟩
    · obtain rfl : k = n := by omega
      have q1 : ¬ (k : Int) < (k : Int) := by omega
      have HZ : Hid (PP (.returned (.tuple #[.pointer (some ⟨w.heap.size, 0, none⟩), .pointer (some ⟨Rr, 0, none⟩), .slice aL L.length cL, .bool true])) wr) := HP.out _ _ ns L _ wr (by have h7 := HT.out; rw [List.take_of_length_le (by rw [HL.out]; exact Nat.le_refl _)] at h7; exact h7) HI.out HM.out
      clear HM HI HT HP
      go_wp2_with fail
      refine bodyPost_ret (res_4 (a := 2) (b := 3) (c := 4) (d := 5) rfl _ _ _ _ _ _ rfl rfl rfl rfl) rfl ?_
      exact HZ.out
end Go.Proofs.Ytkomadlmonhlhaa
