import Derived.Test.YtnknbijbhidpnaaGreatDoorPsP
namespace Go.Proofs.YtnknbijbhidpnaaGreatDoor
open Go.ChangeShapes Go.WideShapes Go.ChangeAt Go.RowKit Go.Lib Go.Cn

def hdN (r : RS) : Option Int → Option Int → Except Int RS
  | some a, some b => if 1048576 < a then .error 21 else if 1048576 < b then .error 23 else .ok ⟨true, a.toNat, b.toNat, r.cls, r.op, r.lits⟩
  | _, _ => .error 3
theorem hdN_l (r : RS) (o : Option Int) : hdN r none o = .error 3 := rfl
theorem hdN_r (r : RS) (o : Option Int) : hdN r o none = .error 3 := by cases o <;> rfl
theorem numU_nil : numU [] = none := rfl
theorem hd4_words (r : RS) (l : List UInt8) : hd4 r (wordsOf l) = if fW l = [112] ∧ fW (fR l) = [99, 110, 102] ∧ fW (fR (fR (fR (fR l)))) = [] then hdN r (numU (fW (fR (fR l)))) (numU (fW (fR (fR (fR l))))) else .error 3 := by
  rw [words_step l]
  by_cases ha : fW l = []
  · rw [if_pos ha, if_neg (by rw [ha]; simp)]
    rfl
  rw [if_neg ha, words_step (fR l)]
  by_cases hb : fW (fR l) = []
  · rw [if_pos hb, if_neg (by rw [hb]; simp)]
    rfl
  rw [if_neg hb, words_step (fR (fR l))]
  by_cases hc : fW (fR (fR l)) = []
  · rw [if_pos hc, hc, numU_nil, hdN_l]
    simp [hd4]
  rw [if_neg hc, words_step (fR (fR (fR l)))]
  by_cases hd : fW (fR (fR (fR l))) = []
  · rw [if_pos hd, hd, numU_nil, hdN_r]
    simp [hd4]
  rw [if_neg hd, words_step (fR (fR (fR (fR l))))]
  by_cases hm : fW (fR (fR (fR (fR l)))) = []
  · rw [if_pos hm]
    by_cases h1 : fW l = [112] ∧ fW (fR l) = [99, 110, 102]
    · rw [if_pos ⟨h1.1, h1.2, hm⟩, hd4, if_pos h1]
      cases numU (fW (fR (fR l))) <;> cases numU (fW (fR (fR (fR l)))) <;> rfl
    · rw [if_neg (fun h => h1 ⟨h.1, h.2.1⟩), hd4, if_neg h1]
  · rw [if_neg hm, if_neg (fun h => hm h.2.2)]
    rfl
theorem RD.three {w W : World} {R Q : Nat} {r : RS} {vc vo : Value} {L : List Value} (h : RD w W R Q r vc vo L) (x y : Nat) : RD w (((W.setCell ⟨R, 0, none⟩ (.bool true)).setCell ⟨R, 1, none⟩ (.int .i64 (x : Int))).setCell ⟨R, 2, none⟩ (.int .i64 (y : Int))) R Q ⟨true, x, y, r.cls, r.op, r.lits⟩ vc vo L := by
  have hq : Q ≠ R := fun e => by have h1 := h.res; rw [e, h.blk] at h1; cases h1
  have h1 := heap_setCell_same W R 0 _ _ (.bool true) h.blk
  have h2 := heap_setCell_same _ R 1 _ _ (.int .i64 (x : Int)) h1
  refine ⟨?_, ?_, ?_, h.low, h.lowq⟩
  · rw [heap_setCell_same _ R 2 _ _ _ h2]
    rfl
  · rw [heap_setCell_other _ _ _ _ hq, heap_setCell_other _ _ _ _ hq, heap_setCell_other _ _ _ _ hq]
    exact h.res
  · exact ((h.rc.set 0 _ h.blk (by decide) (by decide) h.low).set 1 _ h1 (by decide) (by decide) h.low).set 2 _ h2 (by decide) (by decide) h.low
theorem numU_some {l : List UInt8} {x : Int} (h : numU l = some x) : numW l = some x ∧ 0 ≤ x := by
  unfold numU at h
  cases hn : numW l with
  | none => rw [hn] at h; cases h
  | some z =>
    rw [hn] at h
    simp at h
    exact ⟨by rw [h.2], by omega⟩
theorem numU_none {l : List UInt8} (h : numU l = none) : numW l = none ∨ ∃ z, numW l = some z ∧ z < 0 := by
  unfold numU at h
  cases hn : numW l with
  | none => exact Or.inl rfl
  | some z =>
    rw [hn] at h
    simp at h
    exact Or.inr ⟨z, rfl, h⟩
theorem ps_drewN {w W : World} {R Q : Nat} {r : RS} {vc vo : Value} {L : List Value} (h : RD w W R Q r vc vo L) (m : Nat) : RD w (W.drewN m) R Q r vc vo L := h.over ⟨rfl, rfl, rfl, Nat.le_refl _, fun _ _ => rfl⟩
set_option maxHeartbeats 4000000 in
set_option maxRecDepth 100000 in
theorem head_any (w W : World) (R Q : Nat) (r : RS) (vc vo : Value) (L : List Value) (s : ByteArray) (hs : s.size ≤ 4000000000) (h : RD w W R Q r vc vo L) (hS : SENT W) :
    Calls Tryz.prog 20 #[.pointer (some ⟨R, 0, none⟩), .string s] W (TKP w R Q (hd4 r (wordsOf s.data.toList))) := by
  have HCW : Hid (∀ (S : ByteArray) (W : World), S.size ≤ 4000000000 → Calls Tryz.prog 19 #[.string S] W fun e w' => ∃ Wd R : ByteArray, e = .returned (.tuple #[.string Wd, .string R]) ∧ Wd.data.toList = fW S.data.toList ∧ R.data.toList = fR S.data.toList ∧ Wd.size ≤ 4000000000 ∧ R.size ≤ 4000000000 ∧ ∃ m, w' = W.drewN m) := fun S W h => (cutW_any S W (by omega)).mono fun e w' ⟨Wd, R, h1, h2, h3, h4⟩ => by
    have h5 := fWR_len S.data.toList
    rw [← h2, ← h3, ← Lib.size_eq, ← Lib.size_eq, ← Lib.size_eq] at h5
    exact ⟨Wd, R, h1, h2, h3, by omega, by omega, h4⟩
  have HNU : Hid (∀ (S : ByteArray) (W' : World), S.size ≤ 4000000000 → Below W.heap.size W W' → Calls Tryz.prog 39 #[.string S] W' fun e w' => e = numE (numW S.data.toList) ∧ Below W'.heap.size W' w') := fun S W' h1 h2 => number_any S W' (by omega) (hS.below h2)
  have HRD : Hid (RD w W R Q r vc vo L) := h
  have HX : Hid (hd4 r (wordsOf s.data.toList) = if fW s.data.toList = [112] ∧ fW (fR s.data.toList) = [99, 110, 102] ∧ fW (fR (fR (fR (fR s.data.toList)))) = [] then hdN r (numU (fW (fR (fR s.data.toList)))) (numU (fW (fR (fR (fR s.data.toList))))) else .error 3) := hd4_words r _
  clear h hS
  generalize hd4 r (wordsOf s.data.toList) = X at *
  go_enter Tryz.func20, Tryz.ntmps20
  go_wp2_with fail
  refine (HCW.out s _ hs).mono ?_
  rintro e w1 ⟨A, S1, rfl, hA, hS1, zA, zS1, m1, rfl⟩
  go_wp2_with fail
  refine (HCW.out S1 _ zS1).mono ?_
  rintro e w1 ⟨B, S2, rfl, hB, hS2, zB, zS2, m2, rfl⟩
  go_wp2_with fail
  refine (HCW.out S2 _ zS2).mono ?_
  rintro e w1 ⟨C, S3, rfl, hC, hS3, zC, zS3, m3, rfl⟩
  go_wp2_with fail
  refine (HCW.out S3 _ zS3).mono ?_
  rintro e w1 ⟨D, S4, rfl, hD, hS4, zD, zS4, m4, rfl⟩
  go_wp2_with fail
  refine (HCW.out S4 _ zS4).mono ?_
  rintro e w1 ⟨M, S5, rfl, hM, hS5, zM, zS5, m5, rfl⟩
  have HR5 : Hid (RD w ((W.drewN (m1 + m2 + m3 + m4)).drewN m5) R Q r vc vo L) := ps_drewN (ps_drewN HRD.out _) _
  have HB5 : Hid (Below W.heap.size W ((W.drewN (m1 + m2 + m3 + m4)).drewN m5)) := ⟨rfl, rfl, rfl, Nat.le_refl _, fun _ _ => rfl⟩
  generalize (W.drewN (m1 + m2 + m3 + m4)).drewN m5 = W5 at *
  rw [hS1] at hB hS2
  rw [hS2] at hC hS3
  rw [hS3] at hD hS4
  rw [hS4] at hM
  rw [← hA, ← hB, ← hC, ← hD, ← hM] at HX
  clear hA hB hC hD hM hS1 hS2 hS3 hS4 hS5 HCW HRD zA zS1 zB zS2 zS3 zS4 zM zS5
  by_cases hg : A.data.toList = [112] ∧ B.data.toList = [99, 110, 102] ∧ M.data.toList = []
  · obtain ⟨h1, h2, h3⟩ := hg
    rw [if_pos ⟨h1, h2, h3⟩] at HX
    have e1 := bytes_of h1
    have e2 := bytes_of h2
    have e3 := bytes_of h3
    subst e1
    subst e2
    subst e3
    clear h1 h2 h3
    have HNC := HNU.out C W5 zC HB5.out
    have HNC2 : Hid (Calls Tryz.prog 39 #[.string C] W5 fun e w' => e = numE (numW C.data.toList) ∧ Below W5.heap.size W5 w') := HNC
    clear HNC
    cases hc : numU C.data.toList with
    | none =>
      rw [hc, hdN_l] at HX
      rcases numU_none hc with hn | ⟨z, hn, hz⟩
      · rw [hn] at HNC2
        clear HNU hc hn
        go_wp2_with fail
        refine HNC2.out.mono ?_
        rintro e w6 ⟨he, hb⟩
        have he2 : e = .returned (.tuple #[.int .i64 0, .bool false]) := he
        subst he2
        have HFI : Hid (TKP w R Q X (.returned (.int .i64 3)) w6) := TKP.err HX.out (HR5.out.over hb)
        clear he hb HR5 HB5 HX
        go_wp2
        first | exact HFI.out | (go_ret; exact HFI.out)
      · rw [hn] at HNC2
        clear HNU hc hn
        go_wp2_with fail
        refine HNC2.out.mono ?_
        rintro e w6 ⟨he, hb⟩
        have he2 : e = .returned (.tuple #[.int .i64 z, .bool true]) := he
        subst he2
        have HFI : Hid (TKP w R Q X (.returned (.int .i64 3)) w6) := TKP.err HX.out (HR5.out.over hb)
        clear he hb HR5 HB5 HX
        go_wp2
        first | exact HFI.out | (go_ret; exact HFI.out)
    | some x =>
      obtain ⟨hn, hx0⟩ := numU_some hc
      rw [hn] at HNC2
      rw [hc] at HX
      have q0 : ¬ x < 0 := by omega
      clear hc hn
      go_wp2_with fail
      refine HNC2.out.mono ?_
      rintro e w6 ⟨he, hb⟩
      have he2 : e = .returned (.tuple #[.int .i64 x, .bool true]) := he
      subst he2
      have HR6 : Hid (RD w w6 R Q r vc vo L) := HR5.out.over hb
      have HND : Hid (Calls Tryz.prog 39 #[.string D] w6 fun e w' => e = numE (numW D.data.toList) ∧ Below w6.heap.size w6 w') := HNU.out D w6 zD (HB5.out.trans (hb.mono HB5.out.size))
      clear he hb HR5 HB5 HNU HNC2
      cases hd : numU D.data.toList with
      | none =>
        rw [hd, hdN_r] at HX
        rcases numU_none hd with hn | ⟨z, hn, hz⟩
        · rw [hn] at HND
          clear hd hn
          go_wp2_with fail
          refine HND.out.mono ?_
          rintro e w7 ⟨he, hb⟩
          have he2 : e = .returned (.tuple #[.int .i64 0, .bool false]) := he
          subst he2
          have HFI : Hid (TKP w R Q X (.returned (.int .i64 3)) w7) := TKP.err HX.out (HR6.out.over hb)
          clear he hb HR6 HX
          go_wp2
          first | exact HFI.out | (go_ret; exact HFI.out)
        · rw [hn] at HND
          clear hd hn
          go_wp2_with fail
          refine HND.out.mono ?_
          rintro e w7 ⟨he, hb⟩
          have he2 : e = .returned (.tuple #[.int .i64 z, .bool true]) := he
          subst he2
          have HFI : Hid (TKP w R Q X (.returned (.int .i64 3)) w7) := TKP.err HX.out (HR6.out.over hb)
          clear he hb HR6 HX
          go_wp2
          first | exact HFI.out | (go_ret; exact HFI.out)
      | some y =>
        obtain ⟨hn, hy0⟩ := numU_some hd
        rw [hn] at HND
        rw [hd] at HX
        have q1 : ¬ y < 0 := by omega
        clear hd hn
        go_wp2_with fail
        refine HND.out.mono ?_
        rintro e w7 ⟨he, hb⟩
        have he2 : e = .returned (.tuple #[.int .i64 y, .bool true]) := he
        subst he2
        have HR7 : Hid (RD w w7 R Q r vc vo L) := HR6.out.over hb
        clear he hb HR6 HND
        by_cases hx : 1048576 < x
        · have HFI : Hid (TKP w R Q X (.returned (.int .i64 21)) w7) := TKP.err (by rw [HX.out, hdN, if_pos hx]) HR7.out
          clear HR7 HX
          go_wp2
          first | exact HFI.out | (go_ret; exact HFI.out)
        · by_cases hy : 1048576 < y
          · have HFI : Hid (TKP w R Q X (.returned (.int .i64 23)) w7) := TKP.err (by rw [HX.out, hdN, if_neg hx, if_pos hy]) HR7.out
            clear HR7 HX
            go_wp2
            first | exact HFI.out | (go_ret; exact HFI.out)
          · obtain ⟨x', rfl⟩ := Int.eq_ofNat_of_zero_le hx0
            obtain ⟨y', rfl⟩ := Int.eq_ofNat_of_zero_le hy0
            have HFI : Hid (TKP w R Q X (.returned (.int .i64 0)) (((w7.setCell ⟨R, 0, none⟩ (.bool true)).setCell ⟨R, 1, none⟩ (.int .i64 (x' : Int))).setCell ⟨R, 2, none⟩ (.int .i64 (y' : Int)))) := TKP.ok (by rw [HX.out, hdN, if_neg hx, if_neg hy]; rfl) (HR7.out.three x' y')
            have d0 : w7.cell? ⟨R, 0, none⟩ = some (.bool r.hd) := ps_cell HR7.out.blk 0
            have d1 : w7.cell? ⟨R, 1, none⟩ = some (.int .i64 (r.vars : Int)) := ps_cell HR7.out.blk 1
            have d2 : w7.cell? ⟨R, 2, none⟩ = some (.int .i64 (r.cnt : Int)) := ps_cell HR7.out.blk 2
            have f0 : w7.frozen? ⟨R, 0, none⟩ = false := ps_fz HR7.out.blk 0
            have f1 : w7.frozen? ⟨R, 1, none⟩ = false := ps_fz HR7.out.blk 1
            have f2 : w7.frozen? ⟨R, 2, none⟩ = false := ps_fz HR7.out.blk 2
            clear HR7 HX
            go_wp2
            first | exact HFI.out | (go_ret; exact HFI.out)
  · rw [if_neg hg] at HX
    have HFI : Hid (TKP w R Q X (.returned (.int .i64 3)) W5) := TKP.err HX.out HR5.out
    clear HX HR5 HNU HB5
    by_cases h1 : A.data.toList = [112]
    · have e1 := bytes_of h1
      subst e1
      by_cases h2 : B.data.toList = [99, 110, 102]
      · have e2 := bytes_of h2
        subst e2
        have n3 : M.toList.isEmpty = false := by
          rw [Lib.toList_data]
          cases hh : M.data.toList with
          | nil => exact absurd ⟨h1, h2, hh⟩ hg
          | cons a b => rfl
        clear h1 h2 hg
        go_wp2
        first | exact HFI.out | (go_ret; exact HFI.out)
      · have n2 := bytes_is h2
        clear h1 h2 hg
        go_wp2
        first | exact HFI.out | (go_ret; exact HFI.out)
    · have n1 := bytes_is h1
      clear h1 hg
      go_wp2
      first | exact HFI.out | (go_ret; exact HFI.out)
end Go.Proofs.YtnknbijbhidpnaaGreatDoor
