import Derived.Test.YtdgmilmhdcmbgaaGreatDoorGvR
import Derived.Test.YtdgmilmhdcmbgaaGreatDoorTmOb
namespace Go.Proofs.YtdgmilmhdcmbgaaGreatDoor.G2
open Go.Proofs.YtdgmilmhdcmbgaaGreatDoor
open Go.ChangeShapes Go.WideShapes Go.ChangeAt Go.RowKit Go.Lib Go.Tm Go.Bw Go.Bn Go.WideMaps Go.Maps Go.ChangeMaps Go.Shelf

/-- what the law's calls answer, once a text's store stands -/
structure HNG (w2 : World) (B q : Nat) (aR : Option Addr) (cR : Nat) (rs : List Int) (vs ds : List Vl) (ow : Nat → List Vl) (vf : Nat → Nat) (aN : Option Addr) (m cN : Nat) (more : Int) : Prop where
  va : ∀ W, Below w2.heap.size w2 W → Calls Tryz.prog 12 #[.pointer (some ⟨B, 0, none⟩), .slice aR q cR] W fun e w' => ∃ aS cS, e = .returned (.tuple #[.slice aS vs.length cS, .int .i64 0]) ∧ VR w' aS vs ∧ Below W.heap.size W w'
  v1 : ∀ W i b o c, i < q → Below w2.heap.size w2 W → IR W (some ⟨b, o, none⟩) [rs.getD i 0] → Calls Tryz.prog 12 #[.pointer (some ⟨B, 0, none⟩), .slice (some ⟨b, o, none⟩) 1 c] W fun e w' => ∃ aS cS, e = .returned (.tuple #[.slice aS (ow i).length cS, .int .i64 0]) ∧ VR w' aS (ow i) ∧ Below W.heap.size W w'
  dr : ∀ W aS cS, Below w2.heap.size w2 W → VR W aS vs → Calls Tryz.prog 13 #[.slice aS vs.length cS, .slice aN m cN] W fun e w' => ∃ aX cX, e = .returned (.slice aX ds.length cX) ∧ VR w' aX ds ∧ Below W.heap.size W w'
  vl : ∀ W aX cX, Below w2.heap.size w2 W → VR W aX ds → Calls Tryz.prog 14 #[.pointer (some ⟨B, 0, none⟩), .slice aR q cR, .slice aX ds.length cX] W fun e w' => ∃ g2, e = .returned (.tuple #[.slice (some ⟨g2, 0, none⟩) q q, .int .i64 0]) ∧ UL w' g2 q vf ∧ Below W.heap.size W w'
  sp : ∀ W aS cS, VR W aS vs → Calls Tryz.prog 15 #[.slice aS vs.length cS] W fun e w' => ∃ n, n ≤ 1000000000000 ∧ e = .returned (.string (spN n)) ∧ (∀ x ∈ vs, ¬ x.nm = spN n) ∧ Below W.heap.size W w'
  v2 : ∀ W i n aX cX k, i < q → n ≤ 1000000000000 → (∀ x ∈ vs, ¬ x.nm = spN n) → Below w2.heap.size w2 W → VR W aX (tdL ds (ow i).reverse ++ [(⟨spN n, 64, more⟩ : Vl)]) → (tdL ds (ow i).reverse ++ [(⟨spN n, 64, more⟩ : Vl)]).length = k → Calls Tryz.prog 16 #[.pointer (some ⟨B, 0, none⟩), .int .i64 (rs.getD i 0), .slice aX k cX] W fun e w' => e = .returned (.tuple #[.int .u64 ((vf i : Nat) : Int), .int .i64 0]) ∧ Below W.heap.size W w'
  ir : IR w2 aR rs
  rq : rs.length = q
  cap : q ≤ cR
  unq : UNQ ds
  dn : ds.length ≤ 1000000000000
  on : ∀ i, (ow i).length ≤ 1000000000000
theorem ldG_len (lim : Int) : ∀ (ls : List (List UInt8)) (L : List Nd) (ts : List Int), (ldG lim ls L ts).1.length ≤ L.length + ls.length
  | [], L, ts => by rw [ldG_nil]; simp
  | l :: r, L, ts => by
    have hmk : ∀ n, (mk lim L n).1.length ≤ L.length + 1 := fun n => by
      unfold mk
      split
      · dsimp only; omega
      · split
        · dsimp only; omega
        · split
          · dsimp only; omega
          · simp
    rw [ldG_cons, List.length_cons]
    cases hw : wds l with
    | nil => dsimp only; omega
    | cons u us =>
      dsimp only
      split
      · cases e : rtO ts us with
        | none => dsimp only; omega
        | some rs =>
          dsimp only
          split
          · dsimp only; omega
          · dsimp only; omega
      · cases e : lnO ts L (u :: us) with
        | none => dsimp only; omega
        | some n =>
          dsimp only
          have h1 := hmk n
          split
          · have := ldG_len lim r (mk lim L n).1 (ts ++ [(mk lim L n).2.1])
            omega
          · dsimp only; omega
theorem lgo_num : ∀ (l cur : List UInt8), (lgo cur l).length ≤ l.length + 1
  | [], cur => by unfold lgo; split <;> simp
  | c :: r, cur => by
    unfold lgo
    split
    · have := lgo_num r []; simp; omega
    · have := lgo_num r (cur ++ [c]); simp; omega
theorem hng_of {w w2 : World} {B : Nat} {aR aN : Option Addr} {cR cN : Nat} {L : List Nd} {rs : List Int} {nums : List Nat} {more : Int} (hw : Below w.heap.size w w2) (h : LDD w w2 B aR cR L rs) (hSt : STO L) (hr : ∀ x ∈ rs, isT L x = true) (hrl : rs.length ≤ 1048576) (hL6 : L.length ≤ 1048576) (hN : NR w aN nums) (hnl : nums.length ≤ 1000000000000) (hnu : ∀ x ∈ nums, x ≤ 18446744073709551615) (hm : U more) : ∃ vs ds ow vf, HNG w2 B rs.length aR cR rs vs ds ow vf aN nums.length cN more := by
  obtain ⟨v1, M1, M2, hS⟩ := h.sm
  obtain ⟨g0, hSR, _, _⟩ := hS.sr
  obtain ⟨V, hV⟩ := V_ex B g0 L hSt.pars.1 hSt.pars.2 hS.okL
  have hP := hSt.pars.1
  have hLl := hS.len
  have hb : ∀ r ∈ toN rs, 1 ≤ r ∧ r ≤ L.length := fun r hr' => by
    obtain ⟨y, hy, rfl⟩ := List.mem_map.1 hr'
    have := (of_decide_eq_true (hr y hy) : 1 ≤ y ∧ y ≤ (L.length : Int))
    exact ⟨by omega, by omega⟩
  obtain ⟨hw0, _, _, _⟩ := og_ok (R := fun _ => True) hP (toN rs) [] (PW.nil L) ⟨fun _ _ _ _ => Or.inl trivial, fun _ _ _ _ => Or.inl trivial⟩ (fun r hr' => ⟨(hb r hr').1, (hb r hr').2, trivial⟩)
  have hOl : (og L [] (toN rs)).length ≤ 1000000000000 := by have h1 := hw0.len; simp at h1; omega
  have hvl := varsF_len L (og L [] (toN rs))
  have hT := drawn_tld hSt hw0 hOl hnu
  have hin : ∀ i, i < rs.length → rs.getD i 0 ∈ rs := fun i hi => by
    rw [List.getD_eq_getElem?_getD, List.getElem?_eq_getElem hi]
    exact List.getElem_mem _
  have hin2 : ∀ i, i < rs.length → (rs.getD i 0).toNat ∈ toN rs := fun i hi => List.mem_map.2 ⟨_, hin i hi, rfl⟩
  have hw1 : ∀ r, r ∈ toN rs → PW L (og L [] [r]) [] := fun r hr' => (og_ok (R := fun _ => True) hP [r] [] (PW.nil L) ⟨fun _ _ _ _ => Or.inl trivial, fun _ _ _ _ => Or.inl trivial⟩ (fun x hx => by
    rw [List.mem_singleton] at hx
    subst hx
    exact ⟨(hb x hr').1, (hb x hr').2, trivial⟩)).1
  have hol : ∀ r, r ∈ toN rs → (varsF L (og L [] [r])).length ≤ 1048576 := fun r hr' => by
    have h1 := (hw1 r hr').len
    have h2 := varsF_len L (og L [] [r])
    simp at h1
    omega
  refine ⟨varsF L (og L [] (toN rs)), drL nums (varsF L (og L [] (toN rs))) (varsF L (og L [] (toN rs))).length, fun i => if i < rs.length then varsF L (og L [] [(rs.getD i 0).toNat]) else [], fun j => folN (gG V L (tellF (drL nums (varsF L (og L [] (toN rs))) (varsF L (og L [] (toN rs))).length))) 0 (og L [] (toN rs)) (rs.getD j 0).toNat, ?_⟩
  have hsp : ∀ n, (∀ x ∈ varsF L (og L [] (toN rs)), ¬ x.nm = spN n) → ∀ y ∈ drL nums (varsF L (og L [] (toN rs))) (varsF L (og L [] (toN rs))).length, ¬ y.nm = spN n := fun n hn y hy e => by
    obtain ⟨j, hj, rfl⟩ := drL_in.1 hy
    have hm2 : (varsF L (og L [] (toN rs))).getD j vZ ∈ varsF L (og L [] (toN rs)) := by
      rw [List.getD_eq_getElem?_getD, List.getElem?_eq_getElem hj]
      exact List.getElem_mem _
    exact hn _ hm2 e
  refine ⟨fun W hW => ?_, fun W i b o c hi hW hI => ?_, fun W aS cS hW hX => ?_, fun W aX cX hW hX => ?_, fun W aS cS hX => spare_any W hX (by omega), fun W i n aX cX k hi hn hnx hW hX hk => ?_, h.ir, rfl, h.cap, hT.unq, hT.len, fun i => ?_⟩
  · exact varsfn_ok (cp := cR) w.heap.size B 0 L v1 M1 M2 W (hS.below hW) hP (h.ir.below hW) (by omega) hr
  · have h1 := varsfn_ok (xs := [rs.getD i 0]) (cp := c) w.heap.size B 0 L v1 M1 M2 W (hS.below hW) hP hI (by rw [List.length_singleton]; omega) (fun x hx => by rw [List.mem_singleton.1 hx]; exact hr _ (hin i hi))
    rw [if_pos hi]
    exact h1
  · refine (drawn_any (cV := cS) (cN := cN) W hX ((hN.below hw).below hW) (by omega) hnl hnu (fun x hx => ?_)).mono ?_
    · obtain ⟨t, ht, h4, rfl⟩ := vars_in.1 hx
      have h5 := hw0.ob t ht
      exact (hSt.pars.2 _ (getD_in (by omega))).w
    · rintro e w' ⟨v, rfl, hv⟩
      obtain ⟨ad, c, rfl, hvr⟩ := hv.vr
      exact ⟨ad, c, rfl, hvr, hv.bel⟩
  · exact vals_ok (cR := cR) (cV := cX) w.heap.size B g0 0 L v1 M1 M2 W (hS.below hW) hSt hV (hSR.below hW) (h.ir.below hW) hr (by omega) hX hT
  · subst hk
    rw [if_pos hi] at hX ⊢
    have hT2 := told_tld (O2 := og L [] [(rs.getD i 0).toNat]) (os := (varsF L (og L [] [(rs.getD i 0).toNat])).reverse) (n := n) (more := more) hT (og_sub hP hb (hin2 i hi)) (vars_unq hSt (hw1 _ (hin2 i hi)).ob (hw1 _ (hin2 i hi)).on).rev (by have := hol _ (hin2 i hi); rw [List.length_reverse]; omega) hn (hsp n hnx) hnx hm
    have h1 := value_ok (cV := cX) (t := rs.getD i 0) w.heap.size B g0 0 L v1 M1 M2 W (hS.below hW) hSt hV (hSR.below hW) (hr _ (hin i hi)) hX hT2
    rw [hangs_same hSt hb (hin2 i hi) hT (fun x hx => ?_) (fun x => List.mem_reverse) (hsp n hnx) hT2] at h1
    · exact h1
    · obtain ⟨j, hj, e⟩ := List.getElem_of_mem hx
      refine ⟨drV nums (varsF L (og L [] (toN rs))) j, drL_in.2 ⟨j, hj, rfl⟩, ?_⟩
      show ((varsF L (og L [] (toN rs))).getD j vZ).nm = x.nm
      rw [List.getD_eq_getElem?_getD, List.getElem?_eq_getElem hj, e]
      rfl
  · split
    · rename_i hi
      exact Nat.le_trans (hol _ (hin2 i hi)) (by omega)
    · simp
end Go.Proofs.YtdgmilmhdcmbgaaGreatDoor.G2
namespace Go.Proofs.YtdgmilmhdcmbgaaGreatDoor.G2
open Go.Proofs.YtdgmilmhdcmbgaaGreatDoor
open Go.ChangeShapes Go.WideShapes Go.ChangeAt Go.RowKit Go.Lib Go.Tm Go.Bw Go.Bn Go.WideMaps Go.Maps Go.ChangeMaps Go.Shelf

theorem ir_one {w : World} {b o i : Nat} {rs : List Int} (h : IR w (some ⟨b, o, none⟩) rs) (hi : i < rs.length) : IR w (some ⟨b, o + i, none⟩) [rs.getD i 0] := fun _ => by
  obtain ⟨b', o', e, hb, hc⟩ := h (by omega)
  cases e
  refine ⟨b, o + i, rfl, hb, fun j hj => ?_⟩
  obtain rfl : j = 0 := by simpa using hj
  exact hc i hi
theorem drop_vl {l : List Vl} {k : Nat} (h : k < l.length) : l.drop k = l.getD k vZ :: l.drop (k + 1) := by
  rw [List.drop_eq_getElem_cons h, List.getD_eq_getElem?_getD, List.getElem?_eq_getElem h]
  rfl
set_option maxHeartbeats 8000000 in
set_option maxRecDepth 100000 in
theorem hangs_any (s : ByteArray) {aN : Option Addr} {m cN : Nat} {more : Int} {q : Nat} {rs : List Int} (w : World) (hq : q ≤ 1048576)
    (hLv : Calls Tryz.prog 5 #[] w fun e w' => e = .returned (.bool true) ∧ Below w.heap.size w w')
    (hLd : ∀ W, Below w.heap.size w W → Calls Tryz.prog 11 #[.string s] W fun e w' => Below W.heap.size W w' ∧ ((∃ v1 v2, e = .returned (.tuple #[v1, v2, .bool false])) ∨ ∃ B aR cR vs ds ow vf, e = .returned (.tuple #[.pointer (some ⟨B, 0, none⟩), .slice aR q cR, .bool true]) ∧ HNG w' B q aR cR rs vs ds ow vf aN m cN more)) :
    Calls Tryz.prog 4 #[.string s, .slice aN m cN, .int .u64 more] w fun e w' => e = .returned (.bool true) ∧ Below w.heap.size w w' := by
  have HNo : Hid (∀ (e : Int) (W : World), Calls Tryz.prog 8 #[.int .i64 e] W fun E w' => E = .returned (.int .i64 e) ∧ w' = W) := no_any
  have HLv : Hid (Calls Tryz.prog 5 #[] w fun e w' => e = .returned (.bool true) ∧ Below w.heap.size w w') := hLv
  have HLd := Lib.hid hLd
  generalize hPP : (fun (e : Ending) (w' : World) => e = .returned (.bool true) ∧ Below w.heap.size w w') = PP
  have HPP : Hid (∀ w', Below w.heap.size w w' → PP (.returned (.bool true)) w') := fun w' h => by rw [← hPP]; exact ⟨rfl, h⟩
  clear hPP hLv hLd
  obtain ⟨i0, hti, hz0, hz1, hz2⟩ := info_parts (P := Tryz.prog) (e := 47) (z := vV vZ) (size := 3) (bytes := 32) (by kernel_rfl)
  go_enter Tryz.func4, Tryz.ntmps4
  go_wp2_with fail
  refine HLv.out.mono ?_
  rintro e w1 ⟨rfl, hb1⟩
  have H1 : Hid (Below w.heap.size w w1) := hb1
  clear hb1 HLv
  go_wp2_with fail
  refine (HLd.out w1 H1.out).mono ?_
  rintro e w2 ⟨hb2, ⟨v1, v2, rfl⟩ | ⟨B, aR, cR, vs, ds, ow, vf, rfl, hng⟩⟩
  · have H2 : Hid (Below w.heap.size w w2) := H1.out.trans (below_le' hb2 H1.out.size)
    clear hb2 HLd H1
    go_wp2_with fail
    first
      | exact HPP.out _ H2.out
      | (go_ret; exact HPP.out _ H2.out)
  · have H2 : Hid (Below w.heap.size w w2) := H1.out.trans (below_le' hb2 H1.out.size)
    have HG : Hid (HNG w2 B q aR cR rs vs ds ow vf aN m cN more) := hng
    clear hb2 hng HLd H1
    obtain ⟨n, hn⟩ : ∃ n, ds.length = n := ⟨_, rfl⟩
    have HN : Hid (ds.length = n) := hn
    obtain ⟨nv, hnv⟩ : ∃ nv, vs.length = nv := ⟨_, rfl⟩
    have hnl : n ≤ 1000000000000 := by rw [← hn]; exact HG.out.dn
    have HVA : Hid (∀ W, Below w2.heap.size w2 W → Calls Tryz.prog 12 #[.pointer (some ⟨B, 0, none⟩), .slice aR q cR] W fun e w' => ∃ aS cS, e = .returned (.tuple #[.slice aS nv cS, .int .i64 0]) ∧ VR w' aS vs ∧ Below W.heap.size W w') := by rw [← hnv]; exact HG.out.va
    have HDR : Hid (∀ W aS cS, Below w2.heap.size w2 W → VR W aS vs → Calls Tryz.prog 13 #[.slice aS nv cS, .slice aN m cN] W fun e w' => ∃ aX cX, e = .returned (.slice aX n cX) ∧ VR w' aX ds ∧ Below W.heap.size W w') := by rw [← hnv, ← hn]; exact HG.out.dr
    have HVL : Hid (∀ W aX cX, Below w2.heap.size w2 W → VR W aX ds → Calls Tryz.prog 14 #[.pointer (some ⟨B, 0, none⟩), .slice aR q cR, .slice aX n cX] W fun e w' => ∃ g2, e = .returned (.tuple #[.slice (some ⟨g2, 0, none⟩) q q, .int .i64 0]) ∧ UL w' g2 q vf ∧ Below W.heap.size W w') := by rw [← hn]; exact HG.out.vl
    have HSP : Hid (∀ W aS cS, VR W aS vs → Calls Tryz.prog 15 #[.slice aS nv cS] W fun e w' => ∃ n, n ≤ 1000000000000 ∧ e = .returned (.string (spN n)) ∧ (∀ x ∈ vs, ¬ x.nm = spN n) ∧ Below W.heap.size W w') := by rw [← hnv]; exact HG.out.sp
    clear hn hnv
    go_wp2_with fail
    refine (HVA.out w2 (Below.refl _ _)).mono ?_
    rintro e w3 ⟨aS, cS, rfl, hv3, hb3⟩
    have H3 : Hid (Below w2.heap.size w2 w3 ∧ VR w3 aS vs) := ⟨hb3, hv3⟩
    clear hb3 hv3 HVA
    go_wp2_with fail
    refine (HNo.out 0 w3).mono ?_
    rintro e wn ⟨rfl, hwn⟩; subst wn
    go_wp2_with fail
    refine (HDR.out _ aS cS H3.out.1 H3.out.2).mono ?_
    rintro e w4 ⟨aX, cX, rfl, hx4, hb4⟩
    have H4 : Hid (Below w2.heap.size w2 w4 ∧ VR w4 aS vs ∧ VR w4 aX ds) := ⟨H3.out.1.trans (below_le' hb4 H3.out.1.size), H3.out.2.below hb4, hx4⟩
    clear hb4 hx4 H3 HDR
    go_wp2_with fail
    refine (HVL.out w4 aX cX H4.out.1 H4.out.2.2).mono ?_
    rintro e w5 ⟨g2, rfl, hu5, hb5⟩
    have H5 : Hid (Below w2.heap.size w2 w5 ∧ VR w5 aS vs ∧ VR w5 aX ds ∧ UL w5 g2 q vf) := ⟨H4.out.1.trans (below_le' hb5 H4.out.1.size), H4.out.2.1.below hb5, H4.out.2.2.below hb5, hu5⟩
    clear hb5 hu5 H4 HVL
    go_wp2_with fail
    refine (HNo.out 0 w5).mono ?_
    rintro e wn ⟨rfl, hwn⟩; subst wn
    go_wp2_with fail
    go_loopg [14] q (fun gk s14 wr => ∃ i : Nat, s14 = .int .i64 (i : Int) ∧ i + gk = q ∧ Below w5.heap.size w5 wr)
    case atStart => exact ⟨0, rfl, by omega, Below.refl _ _⟩
    case round =>
      obtain ⟨i, rfl, hi, hb⟩ := hrel
      have HB : Hid (Below w5.heap.size w5 wr) := hb
      clear hb
      by_cases hlt : i < q
      · have HW2 : Hid (Below w2.heap.size w2 wr) := H5.out.1.trans (below_le' HB.out H5.out.1.size)
        have hli : i < rs.length := by rw [HG.out.rq]; exact hlt
        obtain ⟨b, o, rfl, hbl, hc⟩ := (HG.out.ir.below HW2.out) (by omega)
        have HI1 : Hid (IR wr (some ⟨b, o + i, none⟩) [rs.getD i 0]) := ir_one (HG.out.ir.below HW2.out) hli
        have q1 : (i : Int) < (q : Int) := by omega
        have hcap := HG.out.cap
        have q2 : (i : Int) + 1 ≤ (cR : Int) := by omega
        clear hc
        obtain ⟨nu, hnu⟩ : ∃ nu, (ow i).length = nu := ⟨_, rfl⟩
        have HNU : Hid ((ow i).length = nu) := hnu
        have hnul : nu ≤ 1000000000000 := by rw [← hnu]; exact HG.out.on i
        have HV1 : Hid (∀ c, Calls Tryz.prog 12 #[.pointer (some ⟨B, 0, none⟩), .slice (some ⟨b, o + i, none⟩) 1 c] wr fun e w' => ∃ aS cS, e = .returned (.tuple #[.slice aS nu cS, .int .i64 0]) ∧ VR w' aS (ow i) ∧ Below wr.heap.size wr w') := fun c => by rw [← hnu]; exact HG.out.v1 wr i b (o + i) c hlt HW2.out HI1.out
        clear hnu
        go_wp2_with fail
        refine (HV1.out _).mono ?_
        rintro e w6 ⟨aO, cO, rfl, hv6, hb6⟩
        have H6 : Hid (Below w5.heap.size w5 w6 ∧ VR w6 aO (ow i) ∧ Below w2.heap.size w2 w6) := ⟨HB.out.trans (below_le' hb6 HB.out.size), hv6, HW2.out.trans (below_le' hb6 HW2.out.size)⟩
        clear hv6 hb6 HV1 HI1
        go_wp2_with fail
        refine (HNo.out 0 w6).mono ?_
        rintro e wn ⟨rfl, hwn⟩; subst wn
        go_wp2_with fail
        go_loopg [17, 18] nu (fun gk s17 s18 wr => ∃ (u : Nat) (z : Int) (aT : Option Addr) (cT k : Nat), s17 = .slice aT k cT ∧ s18 = .int .i64 z ∧ z + 1 = (u : Int) ∧ gk = u ∧ u ≤ nu ∧ (tdL ds ((ow i).drop u).reverse).length = k ∧ VN w6 (tdL ds ((ow i).drop u).reverse) (.slice aT k cT) wr)
        case atStart =>
          refine ⟨nu, _, none, 0, 0, rfl, rfl, by omega, rfl, Nat.le_refl _, ?_, ?_⟩
          · rw [← HNU.out, List.drop_length]; rfl
          · rw [← HNU.out, List.drop_length]; exact VN.nil w6
        case round =>
          obtain ⟨u, z, aT, cT, k, rfl, rfl, hz, hgk, hu, hk, hvn⟩ := hrel
          have HR : Hid (VN w6 (tdL ds ((ow i).drop u).reverse) (.slice aT k cT) wr) := hvn
          have HKL : Hid ((tdL ds ((ow i).drop u).reverse).length = k) := hk
          have hkl : k ≤ 1000000000000 := by
            rw [← hk]
            refine Nat.le_trans (tdL_len HG.out.unq _) ?_
            rw [List.length_reverse, List.length_drop]
            have := HNU.out
            omega
          clear hvn hk
          cases u with
          | zero =>
            obtain rfl : z = -1 := by omega
            have HR0 : Hid (VN w6 (tdL ds (ow i).reverse) (.slice aT k cT) wr) := HR.out
            have HK0 : Hid ((tdL ds (ow i).reverse).length = k) := HKL.out
            have h6s := H6.out.1.size
            have hww := HR0.out.bel.size
            have HB5 : Hid (Below w5.heap.size w5 wr) := H6.out.1.trans (below_le' HR0.out.bel H6.out.1.size)
            have HS1 := HSP.out wr aS cS (H5.out.2.1.below HB5.out)
            clear HR HKL
            go_wp2_with fail
            refine HS1.mono ?_
            rintro e w7 ⟨ns, hns, rfl, hnx, hb7⟩
            have HR7 : Hid (VN w6 (tdL ds (ow i).reverse) (.slice aT k cT) w7) := HR0.out.over hb7
            have HX7 : Hid (∀ x ∈ vs, ¬ x.nm = spN ns) := hnx
            have HB7 : Hid (Below w5.heap.size w5 w7) := HB5.out.trans (below_le' hb7 HB5.out.size)
            have h7w := hb7.size
            clear hb7 hnx HS1
            obtain ⟨sn, hsn⟩ : ∃ sn, spN ns = sn := ⟨_, rfl⟩
            have HSN : Hid (spN ns = sn) := hsn
            rw [hsn]
            clear hsn
            have HRW : Hid (∀ a, World.ownsRow (w7.alloc a) w6.heap.size 47 3 (.slice aT k cT) k (flatV (tdL ds (ow i).reverse))) := fun a => by
              have h1 := (HR7.out.over (bel1 w7 a)).row
              rw [HK0.out] at h1
              exact h1
            go_wp2_with (at_builtin; refine wpList_append_lies _ rfl _ _ 40 rfl w6.heap.size 47 i0 (vV vZ) 3 32 Tryz.underlying40 hti hz0 hz1 hz2 rfl (by decide) _ _ _ rfl (HRW.out _) ⟨w7.heap.size, 0, none⟩ 1 1 [.string sn, .int .i64 64, .int .u64 more] rfl rfl (cells_new3 _ _ _) (by intro u hu; simp at hu; rcases hu with rfl | rfl | rfl <;> rfl) (by omega) (by unfold maxLen; omega) (by omega) (by simp; omega) (w7.heap.size + 1) (by simp) ?_; intro g5 cap5 w8 hown5 hgrow5 hat5 hlt5; have HM5 : Hid (VN w6 (tdL ds (ow i).reverse ++ [(⟨sn, 64, more⟩ : Vl)]) (.slice (some ⟨g5, 0, none⟩) (k + 1) cap5) w8) := VN.push HK0.out HR7.out hown5 hgrow5; clear hown5 hgrow5 hat5 hlt5; refine Hid.out ?_)
            refine Lib.hid ?_
            have HB8 : Hid (Below w5.heap.size w5 w8) := H6.out.1.trans (below_le' HM5.out.bel H6.out.1.size)
            have HW8 : Hid (Below w2.heap.size w2 w8) := H5.out.1.trans (below_le' HB8.out H5.out.1.size)
            obtain ⟨b9, o9, e9, hb9, hc9⟩ := (HG.out.ir.below HW8.out) (by omega)
            cases e9
            have c9 := hc9 i hli
            have HVX : Hid (Calls Tryz.prog 16 #[.pointer (some ⟨B, 0, none⟩), .int .i64 (rs.getD i 0), .slice (some ⟨g5, 0, none⟩) (k + 1) cap5] w8 fun e w' => e = .returned (.tuple #[.int .u64 ((vf i : Nat) : Int), .int .i64 0]) ∧ Below w8.heap.size w8 w') := by
              have hM := HM5.out
              rw [← HSN.out] at hM
              obtain ⟨ad, c, e, hvr⟩ := hM.vr
              have hlen : (tdL ds (ow i).reverse ++ [(⟨spN ns, 64, more⟩ : Vl)]).length = k + 1 := by rw [List.length_append, HK0.out]; rfl
              rw [hlen] at e
              cases e
              exact HG.out.v2 w8 i ns _ cap5 (k + 1) hlt hns HX7.out HW8.out hvr hlen
            clear hc9
            generalize rs.getD i 0 = ri at *
            have HUL : Hid (UL w5 g2 q vf) := H5.out.2.2.2
            go_wp2_with fail
            refine HVX.out.mono ?_
            rintro e w9 ⟨rfl, hb9'⟩
            have HB9 : Hid (Below w5.heap.size w5 w9) := HB8.out.trans (below_le' hb9' HB8.out.size)
            obtain ⟨u9, -⟩ := ((HUL.out.below HB9.out).at_ hlt)
            clear hb9' HVX
            generalize ((vf i : Nat) : Int) = vi at *
            go_wp2_with fail
            refine (HNo.out 0 w9).mono ?_
            rintro e wn ⟨rfl, hwn⟩; subst wn
            go_wp2_with fail
            go_roundg (q - (i + 1))
            case measure => omega
            case rel => exact ⟨i + 1, by simp, by omega, HB9.out⟩
          | succ u =>
            obtain rfl : z = (u : Int) := by omega
            have hul : u < (ow i).length := by rw [HNU.out]; omega
            obtain ⟨b2, o2, rfl, hb2, hc2⟩ := H6.out.2.1 (by omega)
            obtain ⟨d1, -, -⟩ := hc2 u hul
            have HDR : Hid (tdL ds ((ow i).drop u).reverse = tdL ds ((ow i).drop (u + 1)).reverse ++ pkL ds ((ow i).getD u vZ).nm) := by
              show _ = _
              rw [drop_vl hul, List.reverse_cons, tdL_snoc]
            have HKP : Hid ((tdL ds ((ow i).drop (u + 1)).reverse).length ≤ 1000000000000) := by
              show _ ≤ _
              refine Nat.le_trans (tdL_len HG.out.unq _) ?_
              rw [List.length_reverse, List.length_drop]
              have := HNU.out
              omega
            have HP1 : Hid ((pkL ds ((ow i).getD u vZ).nm).length ≤ 1) := pkL_one HG.out.unq _
            clear hc2
            generalize ((ow i).getD u vZ).nm = s2 at *
            generalize tdL ds ((ow i).drop (u + 1)).reverse = P at *
            have q3 : (u : Int) < (nu : Int) := by omega
            go_wp2_with fail
            go_loopg [17, 19] n (fun gk s17 s19 wq => ∃ (j : Nat) (aT : Option Addr) (cT k : Nat), s17 = .slice aT k cT ∧ s19 = .int .i64 (j : Int) ∧ j + gk = n ∧ (P ++ pkL (ds.take j) s2).length = k ∧ VN w6 (P ++ pkL (ds.take j) s2) (.slice aT k cT) wq)
            case atStart =>
              refine ⟨0, aT, cT, k, rfl, rfl, by omega, ?_, ?_⟩
              · rw [List.take_zero]; show (P ++ []).length = k; rw [List.append_nil]; exact HKL.out
              · rw [List.take_zero]; show VN w6 (P ++ []) _ _; rw [List.append_nil]; exact HR.out
            case round =>
              obtain ⟨j, aT2, cT2, k2, rfl, rfl, hj, hk2, hvn2⟩ := hrel
              have HR2 : Hid (VN w6 (P ++ pkL (ds.take j) s2) (.slice aT2 k2 cT2) wr) := hvn2
              have HK2 : Hid ((P ++ pkL (ds.take j) s2).length = k2) := hk2
              have hk2l : k2 ≤ 2000000000000 := by
                have h1 := pkL_one (ys := ds.take j) (List.Pairwise.sublist (List.take_sublist _ _) HG.out.unq) s2
                have h2 := HK2.out
                have h3 := HKP.out
                rw [List.length_append] at h2
                omega
              have h6s := H6.out.1.size
              have hww := HR2.out.bel.size
              clear hvn2 hk2
              by_cases hlj : j < n
              · have hljd : j < ds.length := by rw [HN.out]; exact hlj
                have HRB : Hid (Below w5.heap.size w5 wr) := H6.out.1.trans (below_le' HR2.out.bel H6.out.1.size)
                obtain ⟨b3, o3, rfl, hb3, hc3⟩ := (H5.out.2.2.1.below HRB.out) (by omega)
                obtain ⟨e1, e2, e3⟩ := hc3 j hljd
                have d2 : wr.cell? ⟨b2, o2 + u * 3, none⟩ = some (.string s2) := (World.cell?_of_block (a := ⟨b2, o2 + u * 3, none⟩) (HR2.out.bel.block b2 hb2)).trans d1
                have HTS : Hid (pkL (ds.take (j + 1)) s2 = pkL (ds.take j) s2 ++ (if pkB s2 (ds.getD j vZ) = true then [ds.getD j vZ] else [])) := by
                  show _ = _
                  rw [take_vl hljd, pkL_snoc]
                have q4 : (j : Int) < (n : Int) := by omega
                clear hc3
                generalize ds.getD j vZ = y at *
                obtain ⟨ym, yw, yn⟩ := y
                dsimp only at e1 e2 e3
                by_cases he : ym = s2
                · have he2 : (ym.toList == s2.toList) = true := by rw [ba_beq, decide_eq_true he]
                  by_cases h0 : yn = 0
                  · subst h0
                    go_wp2_with fail
                    go_quiet (fail)
                    have HN1 : Hid (pkL (ds.take (j + 1)) s2 = pkL (ds.take j) s2) := by
                      show _ = _
                      rw [HTS.out, if_neg (by unfold pkB; rw [decide_eq_false (show ¬ ((0 : Int) ≠ 0) by simp)]; simp), List.append_nil]
                    have HRd : Hid (VN w6 (P ++ pkL (ds.take j) s2) (.slice aT2 k2 cT2) (wr.drewN nq)) := HR2.out.over (bel_drewN _ _ _)
                    generalize wr.drewN nq = wd at *
                    go_wp2_with fail
                    go_roundg (gk - 1)
                    case measure => omega
                    case rel => exact ⟨j + 1, aT2, cT2, k2, rfl, by simp, by omega, by rw [HN1.out]; exact HK2.out, by rw [HN1.out]; exact HRd.out⟩
                  · have he3 : (yn == 0) = false := by simpa using h0
                    go_wp2_with fail
                    go_quiet (fail)
                    have HN1 : Hid (P ++ pkL (ds.take (j + 1)) s2 = (P ++ pkL (ds.take j) s2) ++ [(⟨s2, yw, yn⟩ : Vl)]) := by
                      show _ = _
                      rw [HTS.out, if_pos (by unfold pkB; rw [decide_eq_true he, decide_eq_true (show (yn : Int) ≠ 0 from h0)]; rfl), List.append_assoc, he]
                    have HRd : Hid (VN w6 (P ++ pkL (ds.take j) s2) (.slice aT2 k2 cT2) (wr.drewN nq)) := HR2.out.over (bel_drewN _ _ _)
                    have g1 : (wr.drewN nq).cell? ⟨b3, o3 + j * 3, none⟩ = some (.string ym) := e1
                    have g2' : (wr.drewN nq).cell? ⟨b3, o3 + j * 3 + 1, none⟩ = some (.int .i64 yw) := e2
                    have g3 : (wr.drewN nq).cell? ⟨b3, o3 + j * 3 + 2, none⟩ = some (.int .u64 yn) := e3
                    have hdw : wr.heap.size = (wr.drewN nq).heap.size := rfl
                    generalize wr.drewN nq = wd at *
                    have HRW : Hid (∀ a, World.ownsRow (wd.alloc a) w6.heap.size 47 3 (.slice aT2 k2 cT2) k2 (flatV (P ++ pkL (ds.take j) s2))) := fun a => by
                      have h1 := (HRd.out.over (bel1 wd a)).row
                      rw [HK2.out] at h1
                      exact h1
                    go_wp2_with (at_builtin; refine wpList_append_lies _ rfl _ _ 40 rfl w6.heap.size 47 i0 (vV vZ) 3 32 Tryz.underlying40 hti hz0 hz1 hz2 rfl (by decide) _ _ _ rfl (HRW.out _) ⟨wd.heap.size, 0, none⟩ 1 1 [.string s2, .int .i64 yw, .int .u64 yn] rfl rfl (cells_new3 _ _ _) (by intro u hu; simp at hu; rcases hu with rfl | rfl | rfl <;> rfl) (by omega) (by unfold maxLen; omega) (by omega) (by simp; omega) (wd.heap.size + 1) (by simp) ?_; intro g5 cap5 w7 hown5 hgrow5 hat5 hlt5)
                    have HM5 : Hid (VN w6 (P ++ pkL (ds.take (j + 1)) s2) (.slice (some ⟨g5, 0, none⟩) (k2 + 1) cap5) w7) := by (rw [HN1.out]; exact VN.push HK2.out HRd.out hown5 hgrow5)
                    clear hown5 hgrow5 hat5 hlt5
                    go_roundg (gk - 1)
                    case measure => omega
                    case rel => exact ⟨j + 1, _, _, k2 + 1, rfl, by simp, by omega, by rw [HN1.out, List.length_append, HK2.out]; rfl, HM5.out⟩
                · have he2 : (ym.toList == s2.toList) = false := by rw [ba_beq, decide_eq_false he]
                  go_wp2_with fail
                  go_quiet (fail)
                  have HN1 : Hid (pkL (ds.take (j + 1)) s2 = pkL (ds.take j) s2) := by
                    show _ = _
                    rw [HTS.out, if_neg (by unfold pkB; rw [decide_eq_false he]; simp), List.append_nil]
                  have HRd : Hid (VN w6 (P ++ pkL (ds.take j) s2) (.slice aT2 k2 cT2) (wr.drewN nq)) := HR2.out.over (bel_drewN _ _ _)
                  generalize wr.drewN nq = wd at *
                  go_wp2_with fail
                  go_roundg (gk - 1)
                  case measure => omega
                  case rel => exact ⟨j + 1, aT2, cT2, k2, rfl, by simp, by omega, by rw [HN1.out]; exact HK2.out, by rw [HN1.out]; exact HRd.out⟩
              · obtain rfl : j = n := by omega
                have HTS : Hid (ds.take j = ds) := by show _ = _; rw [← HN.out, List.take_length]
                rw [HTS.out] at HR2 HK2
                go_wp2_with fail
                go_roundg u
                case measure => omega
                case rel => exact ⟨u, _, aT2, cT2, k2, rfl, rfl, by omega, rfl, by omega, by rw [HDR.out]; exact HK2.out, by rw [HDR.out]; exact HR2.out⟩
      · obtain rfl : i = q := by omega
        have HF := HPP.out _ (H2.out.trans (below_le' (H5.out.1.trans (below_le' HB.out H5.out.1.size)) H2.out.size))
        go_wp2_with fail
        first
          | exact HF
          | (go_ret; exact HF)
end Go.Proofs.YtdgmilmhdcmbgaaGreatDoor.G2
