import Derived.Test.YtkpapgfbnledpaaGreatDoorEwU
import Derived.Test.YtkpapgfbnledpaaGreatDoorEvN
namespace Go.Proofs.YtkpapgfbnledpaaGreatDoor.GI
open Go.Proofs.YtkpapgfbnledpaaGreatDoor
open Go.ChangeShapes Go.WideShapes Go.ChangeAt Go.RowKit Go.Lib Go.Tm Go.Bw Go.Bn Go.WideMaps Go.Maps Go.ChangeMaps Go.Shelf
attribute [local go_sem] Oper.semAt_some

theorem UL.congr {w : World} {g n : Nat} {f f' : Nat → Nat} (h : UL w g n f) (e : ∀ i, i < n → f i = f' i) : UL w g n f' := by
  obtain ⟨A, hA, h1, h2⟩ := h.blk
  exact ⟨A, hA, h1, fun i hi => by rw [← e i hi]; exact h2 i hi⟩
set_option maxHeartbeats 4000000 in
set_option maxRecDepth 100000 in
/-- put for nothing: each root itself -/
theorem put_id {aO aR : Option Addr} {cO cR : Nat} {rs : List Int} {B0 B Mi : Nat} {lim : Int} {L : List Nd} {v : Value} {M1 M2 : Option Nat} (w : World) (hS : SM 78 w B0 B lim L v M1 M2) (hB0 : B0 ≤ w.heap.size) (hP : PARS L) (hl : L.length < 1000000000000) (hM : INS w Mi 0 (fun _ => none)) (hO : OR w aO (og L [] (toN rs))) (hI : IR w aR rs) (hr : ∀ x ∈ rs, isT L x = true) (hrl : rs.length ≤ 1000000000000) :
    Calls Tryz.prog 33 #[.agg #[.pointer (some ⟨B, 0, none⟩), .slice aO (og L [] (toN rs)).length cO], .slice aR rs.length cR, .map (some Mi)] w fun e w' => ∃ g2, e = .returned (.tuple #[.slice (some ⟨g2, 0, none⟩) rs.length rs.length, .nilIface]) ∧ UL w' g2 rs.length (fun j => (rs.getD j 0).toNat) ∧ Below w.heap.size w w' ∧ w.heap.size ≤ g2 := by
  have hb : ∀ r ∈ toN rs, 1 ≤ r ∧ r ≤ L.length ∧ True := fun r hr' => by
    obtain ⟨y, hy, rfl⟩ := List.mem_map.1 hr'
    have := (of_decide_eq_true (hr y hy) : 1 ≤ y ∧ y ≤ (L.length : Int))
    exact ⟨by omega, by omega, trivial⟩
  obtain ⟨hW, _, hroot, _⟩ := og_ok (R := fun _ => True) hP.1 (toN rs) [] (PW.nil L) ⟨fun _ _ _ _ => Or.inl trivial, fun _ _ _ _ => Or.inl trivial⟩ hb
  have htO : ∀ x ∈ rs, x.toNat ∈ og L [] (toN rs) := fun x hx => hroot _ (List.mem_map.2 ⟨x, hx, rfl⟩)
  have hx0 : ∀ x ∈ rs, 0 ≤ x := fun x hx => by have := (of_decide_eq_true (hr x hx) : 1 ≤ x ∧ x ≤ (L.length : Int)); omega
  clear hb hroot hr
  generalize og L [] (toN rs) = O at *
  have HR : Hid (∀ W cone cm, Below w.heap.size w W → W.cell? ⟨w.heap.size + 1, 0, none⟩ = some (.map (some Mi)) → W.cell? ⟨w.heap.size, 0, none⟩ = some (.pointer (some ⟨B, 0, none⟩)) → Calls Tryz.prog 41 #[.agg #[.pointer (some ⟨B, 0, none⟩), .slice aO O.length cone], .slice aR rs.length cm, .func (.func 58) #[] #[.pointer (some ⟨w.heap.size + 1, 0, none⟩), .pointer (some ⟨w.heap.size, 0, none⟩)]] W fun e w' => ∃ g2, e = .returned (.tuple #[.slice (some ⟨g2, 0, none⟩) rs.length rs.length, .nilIface]) ∧ UL w' g2 rs.length (fun j => (rs.getD j 0).toNat) ∧ Below w.heap.size w w' ∧ w.heap.size ≤ g2) := fun W cone cm hb h1 h2 => by
    have hH := rmh_id (O := O) W (hS.below hb) (Nat.le_trans hB0 hb.size) hP hl (hM.below hb) hW (hO.below hb) h1 h2
    refine (remade_any (cO := cone) (cR := cm) (idF L) (fun _ _ X => Below W.heap.size W X) W hH (hO.below hb) (fun q pre X hx => (hI.below hb).below hx) (fun x hx => ⟨hx0 x hx, by have := mxN_ge (htO x hx); omega⟩) hrl).mono ?_
    rintro e w' ⟨g2, f, q, rfl, hf, hu, hg, hq, hbw⟩
    refine ⟨g2, rfl, hu.congr (fun i hi => ?_), hb.trans (below_le' hbw hb.size), Nat.le_trans hb.size hg⟩
    have hm : rs.getD i 0 ∈ rs := by
      rw [List.getD_eq_getElem?_getD, List.getElem?_eq_getElem hi]
      exact List.getElem_mem _
    exact (idF_or L _ O.attach rfl f hf _).2 ⟨⟨_, htO _ hm⟩, List.mem_attach _ _, rfl⟩
  clear hS hB0 hP hl hM hO hI hrl hW htO hx0
  generalize O.length = n at *
  generalize rs.length = d at *
  generalize (fun j => (rs.getD j 0).toNat) = ff at *
  go_enter Tryz.func33, Tryz.ntmps33
  go_wp2_with fail
  refine (HR.out _ _ _ (bel2 w _ _) (blk_cell (heap2 w _ _) 0) (blk_cell ((Below.heap_alloc _ _ _ (by simp)).trans (heap_alloc_new w _)) 0)).mono ?_
  rintro e w3 ⟨g2, rfl, hu, hb, hg⟩
  have H3 : Hid (UL w3 g2 d ff ∧ Below w.heap.size w w3 ∧ w.heap.size ≤ g2) := ⟨hu, hb, hg⟩
  clear hu hb hg HR
  go_wp2_with fail
  first
    | exact ⟨g2, rfl, H3.out⟩
    | (go_ret2; exact ⟨g2, rfl, H3.out⟩)
set_option maxHeartbeats 4000000 in
set_option maxRecDepth 100000 in
theorem as_nil (v : Value) (w : World) : Calls Tryz.prog 59 #[.nilIface, v] w fun e w' => e = .returned (.bool false) ∧ w' = w := by
  have uE := Tryz.underlying84
  go_enter Tryz.func59, Tryz.ntmps59
  go_wp2
  first
    | exact ⟨rfl, rfl⟩
    | (go_ret; exact ⟨rfl, rfl⟩)
set_option maxHeartbeats 4000000 in
set_option maxRecDepth 100000 in
theorem code_nil (w : World) : Calls Tryz.prog 34 #[.nilIface] w fun e w' => e = .returned (.int .i64 0) ∧ Below w.heap.size w w' := by
  go_enter Tryz.func34, Tryz.ntmps34
  go_wp2_with fail
  refine (as_nil _ _).mono ?_
  rintro e w1 ⟨rfl, rfl⟩
  have HB : Hid (∀ o, Below w.heap.size w (w.alloc o)) := fun o => bel1 w o
  go_wp2_with fail
  first
    | exact ⟨rfl, HB.out _⟩
    | (go_ret; exact ⟨rfl, HB.out _⟩)
set_option maxHeartbeats 4000000 in
set_option maxRecDepth 100000 in
theorem terms_nil (v : Value) (w : World) : Calls Tryz.prog 30 #[v, .slice none 0 0] w fun e w' => e = .returned (.bool true) ∧ w' = w := by
  go_enter Tryz.func30, Tryz.ntmps30
  go_wp2_with fail
  go_loopg [11] 0 (fun gk s11 wr => s11 = .int .i64 0 ∧ wr = w)
  case atStart => exact ⟨rfl, rfl⟩
  case round =>
    obtain ⟨rfl, rfl⟩ := hrel
    go_wp2_with fail
    first
      | exact ⟨rfl, rfl⟩
      | (go_ret; exact ⟨rfl, rfl⟩)
theorem make_mp {t k e : TypeId} (ht : Tryz.prog.underlying t = some (.map k e)) (n : Int) (w : World) : (Instr.makeMap t (some (.int .i64 n))).run Tryz.prog w = .ok (.map (some w.heap.size)) (w.alloc (.map #[] 0)) := by
  simp [Instr.makeMap, run_underlying ht, asInt, asIntOf, Result.andThen]
set_option maxHeartbeats 4000000 in
set_option maxRecDepth 100000 in
theorem names_nil (w : World) : Calls Tryz.prog 31 #[.slice none 0 0] w fun e w' => e = .returned (.bool true) ∧ Below w.heap.size w w' := by
  have HB : Hid (∀ o, Below w.heap.size w (w.alloc o)) := fun o => bel1 w o
  go_enter Tryz.func31, Tryz.ntmps31
  have eM := make_mp Tryz.underlying136 0 w
  go_wp2_with fail
  obtain ⟨W1, hW1⟩ : ∃ W1, w.alloc (.map #[] 0) = W1 := ⟨_, rfl⟩
  have H1 : Hid (Below w.heap.size w W1) := by rw [← hW1]; exact HB.out _
  rw [hW1]
  clear hW1 HB eM
  go_loopg [13] 0 (fun gk s13 wr => s13 = .int .i64 0 ∧ wr = W1)
  case atStart => exact ⟨rfl, rfl⟩
  case round =>
    obtain ⟨rfl, rfl⟩ := hrel
    go_wp2_with fail
    first
      | exact ⟨rfl, H1.out⟩
      | (go_ret; exact ⟨rfl, H1.out⟩)
end Go.Proofs.YtkpapgfbnledpaaGreatDoor.GI
namespace Go.Proofs.YtkpapgfbnledpaaGreatDoor.GI
open Go.Proofs.YtkpapgfbnledpaaGreatDoor
open Go.ChangeShapes Go.WideShapes Go.ChangeAt Go.RowKit Go.Lib Go.Tm Go.Bw Go.Bn Go.WideMaps Go.Maps Go.ChangeMaps Go.Shelf
attribute [local go_sem] Oper.semAt_some

set_option maxHeartbeats 8000000 in
set_option maxRecDepth 100000 in
/-- Put of nothing: each root itself -/
theorem putfn_id {aR : Option Addr} {cR : Nat} {rs : List Int} {B0 B : Nat} {lim : Int} {L : List Nd} {v : Value} {M1 M2 : Option Nat} (w : World) (hS : SM 78 w B0 B lim L v M1 M2) (hB0 : B0 ≤ w.heap.size) (hP : PARS L) (hl : L.length < 1000000000000) (hI : IR w aR rs) (hr : ∀ x ∈ rs, isT L x = true) (hrl : rs.length ≤ 1000000000000) :
    Calls Tryz.prog 13 #[.pointer (some ⟨B, 0, none⟩), .slice aR rs.length cR, .slice none 0 0, .slice none 0 0] w fun e w' => ∃ g2, e = .returned (.tuple #[.slice (some ⟨g2, 0, none⟩) rs.length rs.length, .int .i64 0]) ∧ UL w' g2 rs.length (fun j => (rs.getD j 0).toNat) ∧ Below w.heap.size w w' ∧ w.heap.size ≤ g2 := by
  have HC : Hid (Calls Tryz.prog 26 #[.pointer (some ⟨B, 0, none⟩), .slice aR rs.length cR] w fun e w' => ∃ aO cO, e = .returned (.tuple #[.agg #[.pointer (some ⟨B, 0, none⟩), .slice aO (og L [] (toN rs)).length cO], .int .i64 0]) ∧ Below w.heap.size w w' ∧ OR w' aO (og L [] (toN rs))) := coneOf_ok (cp := cR) B0 B lim L v M1 M2 w hS hP.1 hI (by omega) hr
  have hb : ∀ r ∈ toN rs, 1 ≤ r ∧ r ≤ L.length ∧ True := fun r hr' => by
    obtain ⟨y, hy, rfl⟩ := List.mem_map.1 hr'
    have := (of_decide_eq_true (hr y hy) : 1 ≤ y ∧ y ≤ (L.length : Int))
    exact ⟨by omega, by omega, trivial⟩
  obtain ⟨hW, _, _, _⟩ := og_ok (R := fun _ => True) hP.1 (toN rs) [] (PW.nil L) ⟨fun _ _ _ _ => Or.inl trivial, fun _ _ _ _ => Or.inl trivial⟩ hb
  obtain ⟨g0, hSR, _, _⟩ := hS.sr
  have hlO : (og L [] (toN rs)).length ≤ L.length := by have := hW.len; simpa using this
  have HVS : Hid (∀ W (aO : Option Addr) cO, Below w.heap.size w W → OR W aO (og L [] (toN rs)) → Calls Tryz.prog 27 #[.agg #[.pointer (some ⟨B, 0, none⟩), .slice aO (og L [] (toN rs)).length cO]] W fun e w' => ∃ ad cp, e = .returned (.slice ad (varsF L (og L [] (toN rs))).length cp) ∧ VR w' ad (varsF L (og L [] (toN rs))) ∧ Below W.heap.size W w') := fun W aO cO h1 h2 => vars_any W (hSR.below h1) h2 hW.ob (by omega)
  have HPT : Hid (∀ W (aO : Option Addr) cO Mi, Below w.heap.size w W → OR W aO (og L [] (toN rs)) → INS W Mi 0 (fun _ => none) → Calls Tryz.prog 33 #[.agg #[.pointer (some ⟨B, 0, none⟩), .slice aO (og L [] (toN rs)).length cO], .slice aR rs.length cR, .map (some Mi)] W fun e w' => ∃ g2, e = .returned (.tuple #[.slice (some ⟨g2, 0, none⟩) rs.length rs.length, .nilIface]) ∧ UL w' g2 rs.length (fun j => (rs.getD j 0).toNat) ∧ Below W.heap.size W w' ∧ W.heap.size ≤ g2) := fun W aO cO Mi h1 h2 h3 => put_id W (hS.below h1) (Nat.le_trans hB0 h1.size) hP hl h3 h2 (hI.below h1) hr hrl
  have HNM : Hid (∀ x ∈ varsF L (og L [] (toN rs)), x.nm.size ≤ 140737488355328) := fun x hx => by
    unfold varsF at hx
    obtain ⟨t, ht, hx⟩ := List.mem_flatMap.1 hx
    unfold vrN at hx
    split at hx
    · rw [List.mem_singleton.1 hx]
      have hm : L.getD (t - 1) z0 ∈ L := by
        have := hW.ob t ht
        rw [List.getD_eq_getElem?_getD, List.getElem?_eq_getElem (by omega)]
        exact List.getElem_mem _
      exact Nat.le_trans (hP.2 _ hm).name (by omega)
    · cases hx
  have hvl : (varsF L (og L [] (toN rs))).length ≤ 1000000000000 := Nat.le_trans (varsF_len L _) (by omega)
  clear hS hB0 hP hl hI hr hrl hb hW hSR hlO
  generalize og L [] (toN rs) = O at *
  generalize varsF L O = vs at *
  generalize O.length = n at *
  obtain ⟨nv, hnv⟩ : ∃ nv, vs.length = nv := ⟨_, rfl⟩
  have HNV : Hid (vs.length = nv) := hnv
  rw [hnv] at HVS hvl
  clear hnv
  generalize rs.length = d at *
  generalize (fun j => (rs.getD j 0).toNat) = ff at *
  go_enter Tryz.func13, Tryz.ntmps13
  go_wp2_with fail
  refine HC.out.mono ?_
  rintro e w1 ⟨aO, cO, rfl, hb1, hO1⟩
  have H1 : Hid (Below w.heap.size w w1 ∧ OR w1 aO O) := ⟨hb1, hO1⟩
  clear hb1 hO1 HC
  go_wp2_with fail
  obtain ⟨Cb, hCb⟩ : ∃ Cb, w1.heap.size = Cb := ⟨_, rfl⟩
  obtain ⟨w2, hw2⟩ : ∃ w2, w1.alloc (Obj.cells #[.pointer (some ⟨B, 0, none⟩), .slice aO n cO] 68) = w2 := ⟨_, rfl⟩
  have H2 : Hid (Below w.heap.size w w2 ∧ OR w2 aO O ∧ w2.heap[Cb]? = some (Obj.cells #[.pointer (some ⟨B, 0, none⟩), .slice aO n cO] 68 (0, 0))) := by
    rw [← hw2, ← hCb]
    exact ⟨H1.out.1.trans (below_le' (bel1 w1 _) H1.out.1.size), H1.out.2.below (bel1 w1 _), heap_alloc_new w1 _⟩
  rw [hCb, hw2]
  clear hCb hw2 H1
  refine (terms_nil _ w2).mono ?_
  rintro e wn ⟨rfl, hwn⟩; subst wn
  go_wp2_with fail
  refine (names_nil w2).mono ?_
  rintro e w3 ⟨rfl, hb3⟩
  have H3 : Hid (Below w.heap.size w w3 ∧ OR w3 aO O ∧ w3.heap[Cb]? = some (Obj.cells #[.pointer (some ⟨B, 0, none⟩), .slice aO n cO] 68 (0, 0))) := ⟨H2.out.1.trans (below_le' hb3 H2.out.1.size), H2.out.2.1.below hb3, (hb3.block _ (Array.getElem?_eq_some_iff.1 H2.out.2.2).1).trans H2.out.2.2⟩
  clear hb3 H2
  have eM := make_mp Tryz.underlying76 0 w3
  go_wp2_with fail
  clear eM
  obtain ⟨Mi, hMi⟩ : ∃ Mi, w3.heap.size = Mi := ⟨_, rfl⟩
  obtain ⟨w4, hw4⟩ : ∃ w4, w3.alloc (.map #[] 0) = w4 := ⟨_, rfl⟩
  have H4 : Hid (Below w.heap.size w w4 ∧ OR w4 aO O ∧ w4.heap[Cb]? = some (Obj.cells #[.pointer (some ⟨B, 0, none⟩), .slice aO n cO] 68 (0, 0)) ∧ INS w4 Mi 0 (fun _ => none)) := by
    have hb : Below w3.heap.size w3 w4 := by rw [← hw4]; exact bel1 w3 _
    refine ⟨H3.out.1.trans (below_le' hb H3.out.1.size), H3.out.2.1.below hb, (hb.block _ (Array.getElem?_eq_some_iff.1 H3.out.2.2).1).trans H3.out.2.2, ?_⟩
    rw [← hw4, ← hMi]
    exact INS.made (heap_alloc_new w3 _)
  rw [hw4]
  try rw [hMi]
  clear hw4 hMi H3
  have HGO : Hid (∀ X Y, (Below w.heap.size w X ∧ OR X aO O ∧ X.heap[Cb]? = some (Obj.cells #[.pointer (some ⟨B, 0, none⟩), .slice aO n cO] 68 (0, 0)) ∧ INS X Mi 0 (fun _ => none)) → Below X.heap.size X Y → (Below w.heap.size w Y ∧ OR Y aO O ∧ Y.heap[Cb]? = some (Obj.cells #[.pointer (some ⟨B, 0, none⟩), .slice aO n cO] 68 (0, 0)) ∧ INS Y Mi 0 (fun _ => none))) := fun X Y h hb => ⟨h.1.trans (below_le' hb h.1.size), h.2.1.below hb, (hb.block _ (Array.getElem?_eq_some_iff.1 h.2.2.1).1).trans h.2.2.1, h.2.2.2.below hb⟩
  go_loopg [51] 0 (fun gk s51 wr => s51 = .int .i64 0 ∧ wr = w4)
  case atStart => exact ⟨rfl, rfl⟩
  case round =>
    obtain ⟨rfl, hwr⟩ := hrel
    subst hwr
    have k0 : wr.cell? ⟨Cb, 0, none⟩ = some (.pointer (some ⟨B, 0, none⟩)) := blk_cell H4.out.2.2.1 0
    have k1 : wr.cell? ⟨Cb, 1, none⟩ = some (.slice aO n cO) := blk_cell H4.out.2.2.1 1
    go_wp2_with fail
    refine (HVS.out wr aO cO H4.out.1 H4.out.2.1).mono ?_
    rintro e w5 ⟨aS, cS, rfl, hv5, hb5⟩
    have H5 : Hid ((Below w.heap.size w w5 ∧ OR w5 aO O ∧ w5.heap[Cb]? = some (Obj.cells #[.pointer (some ⟨B, 0, none⟩), .slice aO n cO] 68 (0, 0)) ∧ INS w5 Mi 0 (fun _ => none))) := HGO.out _ _ H4.out hb5
    have HV5 : Hid (VR w5 aS vs) := hv5
    clear k0 k1 hv5 hb5 H4 HVS
    go_wp2_with fail
    go_loopg [66] nv (fun gk s66 wq => ∃ i : Nat, s66 = .int .i64 (i : Int) ∧ i + gk = nv ∧ Below w5.heap.size w5 wq)
    case atStart => exact ⟨0, rfl, by omega, Below.refl _ _⟩
    case round =>
      obtain ⟨i, rfl, hi, hbq⟩ := hrel
      have HQ : Hid (Below w5.heap.size w5 wr) := hbq
      clear hbq
      by_cases hlt : i < nv
      · have hlx : i < vs.length := by rw [HNV.out]; exact hlt
        obtain ⟨b, o, rfl, hbl, hc⟩ := (HV5.out.below HQ.out) (by rw [HNV.out]; omega)
        obtain ⟨c1, c2, c3⟩ := hc i hlx
        have q1 : (i : Int) < (nv : Int) := by omega
        have hxm : vs.getD i vZ ∈ vs := by rw [List.getD_eq_getElem?_getD, List.getElem?_eq_getElem hlx]; exact List.getElem_mem _
        have hs1 := HNM.out _ hxm
        have HLK : Hid (∀ X, Below wr.heap.size wr X → (Instr.lookup 76 (.map (some Mi)) (.string (vs.getD i vZ).nm) true).run Tryz.prog X = .ok (.tuple #[.int .i64 0, .bool false]) X) := fun X hb => ((HGO.out _ _ (HGO.out _ _ H5.out HQ.out) hb).2.2.2.look _ hs1)
        clear hc hxm hs1
        generalize vs.getD i vZ = x at *
        obtain ⟨nm, xw, xn⟩ := x
        dsimp only at c1 c2 c3 HLK
        have hlk := HLK.out _ (bel1 wr (Obj.cells #[.string nm, .int .i64 xw, .int .u64 xn] 38 (0, 0)))
        have HE : Hid (∀ o, Below w5.heap.size w5 (wr.alloc o)) := fun o => HQ.out.trans (below_le' (bel1 wr o) HQ.out.size)
        go_wp2_with fail
        refine sq_start (fun _ => True) [4] [0, 1, 2, 3, 5, 6, 4, 7, 8] (by kernel_rfl) (by kernel_rfl) trivial ?_
        repeat (first
          | (refine sq_skip (by rfl) (by rfl) ?_; simp only [Act.put, List.setIfInBounds_toArray, List.set_cons_zero, List.set_cons_succ])
          | (refine sq_op (v := ?_) (by rfl) (by rfl) (by rfl) ?_ ?_; rotate_left; (focus (intro w _; go_simp <;> with_reducible rfl)); simp only [Act.put, List.setIfInBounds_toArray, List.set_cons_zero, List.set_cons_succ]))
        refine sq_end (fun _ => ?_)
        have HE2 : Hid (∀ o, Below w5.heap.size w5 (wr.alloc o).drew) := fun o => (HE.out o).trans ⟨rfl, rfl, rfl, Nat.le_refl _, fun _ _ => rfl⟩
        go_wp2_with fail
        go_roundg (nv - (i + 1))
        case measure => omega
        case rel => exact ⟨i + 1, by simp, by omega, HE2.out _⟩
      · have hik : i = nv := by omega
        subst hik
        have HZ : Hid ((Below w.heap.size w wr ∧ OR wr aO O ∧ wr.heap[Cb]? = some (Obj.cells #[.pointer (some ⟨B, 0, none⟩), .slice aO n cO] 68 (0, 0)) ∧ INS wr Mi 0 (fun _ => none))) := HGO.out _ _ H5.out HQ.out
        have k0 : wr.cell? ⟨Cb, 0, none⟩ = some (.pointer (some ⟨B, 0, none⟩)) := blk_cell HZ.out.2.2.1 0
        have k1 : wr.cell? ⟨Cb, 1, none⟩ = some (.slice aO n cO) := blk_cell HZ.out.2.2.1 1
        go_wp2_with fail
        refine (HPT.out wr aO cO Mi HZ.out.1 HZ.out.2.1 HZ.out.2.2.2).mono ?_
        rintro e w6 ⟨g2, rfl, hu6, hb6, hg6⟩
        have H6 : Hid (UL w6 g2 d ff ∧ Below w.heap.size w w6 ∧ w.heap.size ≤ g2) := ⟨hu6, HZ.out.1.trans (below_le' hb6 HZ.out.1.size), Nat.le_trans HZ.out.1.size hg6⟩
        clear hu6 hb6 hg6 HPT
        go_wp2_with fail
        refine (code_nil w6).mono ?_
        rintro e w7 ⟨rfl, hb7⟩
        have H7 : Hid (UL w7 g2 d ff ∧ Below w.heap.size w w7 ∧ w.heap.size ≤ g2) := ⟨H6.out.1.below hb7, H6.out.2.1.trans (below_le' hb7 H6.out.2.1.size), H6.out.2.2⟩
        clear hb7 H6 k0 k1
        go_wp2_with fail
        first
          | exact ⟨g2, rfl, H7.out⟩
          | (go_ret2; exact ⟨g2, rfl, H7.out⟩)
end Go.Proofs.YtkpapgfbnledpaaGreatDoor.GI
