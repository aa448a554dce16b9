import Derived.Test.YtldpkkbdhohcmaaGreatDoorNmN
namespace Go.Proofs.YtldpkkbdhohcmaaGreatDoor
open Go.ChangeShapes Go.WideShapes Go.ChangeAt Go.RowKit Go.Bd

def dI (o : Option Nat) : Int := match o with | some d => d | none => -1
theorem ret_i {k : IntKind} {a b : Int} (h : a = b) : Ending.returned (.int k a) = .returned (.int k b) := by rw [h]

theorem digit_10 (c : UInt8) (w : World) :
    Calls Tryz.prog 85 #[.int .u8 c.toNat,.int .u64 10] w fun e w' => e = .returned (.int .i64 (dI (dv 10 c))) /\ w' = w := by
  have hc256 : c.toNat < 256 := c.toNat_lt
  by_cases h0 : 48 <= c.toNat /\ c.toNat <= 57
  · have hv : Hid (dI (dv 10 c) = (c.toNat : Int) - 48) := by rw [Hid]; unfold dv; rw [if_pos h0,if_pos (by omega)]; show ((c.toNat - 48 : Nat) : Int) = _; omega
    obtain ⟨h1,h2⟩ := h0
    go_enter Tryz.func85,Tryz.ntmps85
    go_wp2
    go_ret
    exact ⟨ret_i hv.out.symm,rfl⟩
  by_cases h3 : 97 <= c.toNat /\ c.toNat <= 102
  · have hv : Hid (dI (dv 10 c) = -1) := by rw [Hid]; unfold dv; rw [if_neg h0,if_pos h3,if_neg (by omega)]; rfl
    obtain ⟨h1,h2⟩ := h3; clear h0
    go_enter Tryz.func85,Tryz.ntmps85
    go_wp2
    go_ret
    exact ⟨ret_i hv.out.symm,rfl⟩
  by_cases h4 : 65 <= c.toNat /\ c.toNat <= 70
  · have hv : Hid (dI (dv 10 c) = -1) := by rw [Hid]; unfold dv; rw [if_neg h0,if_neg h3,if_pos h4,if_neg (by omega)]; rfl
    obtain ⟨h1,h2⟩ := h4; clear h0 h3
    go_enter Tryz.func85,Tryz.ntmps85
    go_wp2
    go_ret
    exact ⟨ret_i hv.out.symm,rfl⟩
  have hv : Hid (dI (dv 10 c) = -1) := by rw [Hid]; unfold dv; rw [if_neg h0,if_neg h3,if_neg h4]; rfl
  go_enter Tryz.func85,Tryz.ntmps85
  go_wp2
  all_goals go_ret
  all_goals exact ⟨ret_i hv.out.symm,rfl⟩

theorem digit_16 (c : UInt8) (w : World) :
    Calls Tryz.prog 85 #[.int .u8 c.toNat,.int .u64 16] w fun e w' => e = .returned (.int .i64 (dI (dv 16 c))) /\ w' = w := by
  have hc256 : c.toNat < 256 := c.toNat_lt
  by_cases h0 : 48 <= c.toNat /\ c.toNat <= 57
  · have hv : Hid (dI (dv 16 c) = (c.toNat : Int) - 48) := by rw [Hid]; unfold dv; rw [if_pos h0,if_pos (by omega)]; show ((c.toNat - 48 : Nat) : Int) = _; omega
    obtain ⟨h1,h2⟩ := h0
    go_enter Tryz.func85,Tryz.ntmps85
    go_wp2
    go_ret
    exact ⟨ret_i hv.out.symm,rfl⟩
  by_cases h3 : 97 <= c.toNat /\ c.toNat <= 102
  · have hv : Hid (dI (dv 16 c) = (c.toNat : Int) - 97 + 10) := by rw [Hid]; unfold dv; rw [if_neg h0,if_pos h3,if_pos (by omega)]; show ((c.toNat - 87 : Nat) : Int) = _; omega
    obtain ⟨h1,h2⟩ := h3; clear h0
    go_enter Tryz.func85,Tryz.ntmps85
    go_wp2
    go_ret
    exact ⟨ret_i hv.out.symm,rfl⟩
  by_cases h4 : 65 <= c.toNat /\ c.toNat <= 70
  · have hv : Hid (dI (dv 16 c) = (c.toNat : Int) - 65 + 10) := by rw [Hid]; unfold dv; rw [if_neg h0,if_neg h3,if_pos h4,if_pos (by omega)]; show ((c.toNat - 55 : Nat) : Int) = _; omega
    obtain ⟨h1,h2⟩ := h4; clear h0 h3
    go_enter Tryz.func85,Tryz.ntmps85
    go_wp2
    go_ret
    exact ⟨ret_i hv.out.symm,rfl⟩
  have hv : Hid (dI (dv 16 c) = -1) := by rw [Hid]; unfold dv; rw [if_neg h0,if_neg h3,if_neg h4]; rfl
  go_enter Tryz.func85,Tryz.ntmps85
  go_wp2
  all_goals go_ret
  all_goals exact ⟨ret_i hv.out.symm,rfl⟩

end Go.Proofs.YtldpkkbdhohcmaaGreatDoor
namespace Go.Proofs.YtldpkkbdhohcmaaGreatDoor
open Go.ChangeShapes Go.WideShapes Go.ChangeAt Go.RowKit Go.Bd

theorem pre_yes (s : ByteArray) (h : 2 <= s.size) (h0 : (s[0]'(by omega)).toNat = 48) (h1 : (s[1]'(by omega)).toNat = 120) : numO s.data.toList = pV 16 (s.data.toList.drop 2) := by
  have hl : s.data.toList.length = s.size := (Lib.size_eq s).symm; have e0 : s[0]'(by omega) = s.data.toList[0]'(by omega) := rfl; have e1 : s[1]'(by omega) = s.data.toList[1]'(by omega) := rfl; rw [e0] at h0; rw [e1] at h1
  match hm : s.data.toList,hl with
  | [],hl => simp at hl; omega
  | [_],hl => simp at hl; omega
  | a :: b :: r,hl =>
    simp only [hm,List.getElem_cons_zero,List.getElem_cons_succ] at h0 h1; have ea : a = 48 := UInt8.toNat_inj.mp h0; have eb : b = 120 := UInt8.toNat_inj.mp h1; subst ea eb; unfold numO Lib.trimPrefix Lib.hasPrefix
    simp
theorem pre_no (s : ByteArray) (h : ¬ (∃ h : 2 <= s.size,(s[0]'(by omega)).toNat = 48 /\ (s[1]'(by omega)).toNat = 120)) : numO s.data.toList = pV 10 s.data.toList := by
  have hl : s.data.toList.length = s.size := (Lib.size_eq s).symm; have hp : Lib.hasPrefix s.data.toList [48,120] = false := by
    rw [Bool.eq_false_iff]; intro hp
    apply h
    unfold Lib.hasPrefix at hp
    match hm : s.data.toList,hl,hp with
    | [],_,hp => simp at hp
    | [_],_,hp => simp at hp
    | a :: b :: r,hl,hp =>
      have h2 : 2 <= s.size := by simp at hl; omega
      simp at hp
      refine ⟨h2,?_,?_⟩
      · have e0 : s[0]'(by omega) = s.data.toList[0]'(by rw [hm]; simp) := rfl
        rw [e0]; simp only [hm,List.getElem_cons_zero]; rw [<- hp.1]; rfl
      have e1 : s[1]'(by omega) = s.data.toList[1]'(by rw [hm]; simp) := rfl; rw [e1]; simp only [hm,List.getElem_cons_succ,List.getElem_cons_zero]; rw [<- hp.2]; rfl
  unfold numO; rw [hp]; rfl
theorem ret2_n {o : Option Nat} {x e : Int} (hx : x = nV o) (he : e = nE o) : Ending.returned (.tuple #[.int .u64 x,.int .i64 e]) = .returned (.tuple #[.int .u64 (nV o),.int .i64 (nE o)]) := by rw [hx,he]
theorem over_iff (v d b : Int) (_hv : 0 <= v) (hb : 0 < b) : (18446744073709551615 - d) / b < v ↔ 18446744073709551616 <= v * b + d := by
  rw [Int.ediv_lt_iff_lt_mul hb]; omega
theorem quo_d (d b : Int) (h0 : 0 <= d) (h1 : d <= 15) (hb : 0 < b) : IntKind.u64.wrap ((18446744073709551615 - d).tdiv b) = (18446744073709551615 - d) / b := by
  have hn : 0 <= (18446744073709551615 - d) / b := Int.ediv_nonneg (by omega) (Int.le_of_lt hb); have hl : (18446744073709551615 - d) / b <= 18446744073709551615 - d := Int.ediv_le_self _ (by omega); rw [Int.tdiv_eq_ediv_of_nonneg (by omega),IntKind.wrap_u64]; exact Int.emod_eq_of_lt hn (by omega)
theorem wrap_d (d : Int) (h0 : 0 <= d) (h1 : d <= 15) : IntKind.u64.wrap (18446744073709551615 - d) = 18446744073709551615 - d := by
  rw [IntKind.wrap_u64]; omega
theorem wrap_n (n : Int) (h0 : 0 <= n) (h1 : n < 18446744073709551616) : IntKind.u64.wrap n = n := by
  rw [IntKind.wrap_u64]; omega
theorem dv_lt (b : Nat) (c : UInt8) (d : Nat) (hb : b <= 16) (h : dv b c = some d) : d <= 15 /\ d < b := by
  unfold dv at h
  split at h
  · split at h
    · simp at h; omega
    simp at h
  split at h
  · split at h
    · simp at h; omega
    simp at h
  split at h
  · split at h
    · simp at h; omega
    simp at h
  simp at h

set_option maxHeartbeats 4000000 in
set_option maxRecDepth 100000 in
theorem rnum_hex (s : ByteArray) (w : World) (hs : s.size <= 9223372036854775806) (h2 : 2 <= s.size) (h0 : (s[0]'(by omega)).toNat = 48) (h1 : (s[1]'(by omega)).toNat = 120) :
    Calls Tryz.prog 56 #[.string s] w fun e w' => e = .returned (.tuple #[.int .u64 (nV (numO s.data.toList)),.int .i64 (nE (numO s.data.toList))]) /\ w' = w := by
  have hn := pre_yes s h2 h0 h1
  by_cases h3 : s.size = 2
  · have HE : Hid (numO s.data.toList = none) := by
      rw [Hid,hn]; unfold pV; rw [List.drop_eq_nil_of_le (by rw [<- Lib.size_eq]; omega)]; rfl
    clear hn
    go_enter Tryz.func56,Tryz.ntmps56
    go_wp2
    go_ret2
    exact ⟨ret2_n (by rw [HE.out]; rfl) (by rw [HE.out]; rfl),rfl⟩
  have HV : Hid (numO s.data.toList = pU 16 0 (s.data.toList.drop 2)) := by
    rw [Hid,hn]; unfold pV; rw [if_neg]; intro e; have : (s.data.toList.drop 2).length = 0 := by rw [e]; rfl
    rw [List.length_drop,<- Lib.size_eq] at this; omega
  clear hn; have hsz : ((2 : Int) == (s.size : Int)) = false := by simp; omega
  go_enter Tryz.func56,Tryz.ntmps56
  go_wp2
  clear h0 h1
  go_loop [5,6] (fun vk vn => ∃ (k acc : Nat) (a : Int),vk = .int .i64 k /\ vn = .int .u64 a /\ k <= s.size /\ 0 <= a /\ Hid (a = (acc : Int) /\ acc < 18446744073709551616 /\ pU 16 0 (s.data.toList.drop 2) = pU 16 acc (s.data.toList.drop k)))
    (fun vk _ => s.size - (intOf vk).toNat)
  case atStart => exact ⟨2,0,0,rfl,rfl,by omega,by omega,rfl,by omega,rfl⟩
  case round =>
    obtain ⟨k,acc,a,rfl,rfl,hk,ha0,hh⟩ := hrel
    by_cases hkn : k < s.size
    · obtain ⟨ha,hacc,hdec⟩ := hh.out
      clear hh; have hl : s.data.toList.length = s.size := (Lib.size_eq s).symm; have hdrop : s.data.toList.drop k = (s[k]'hkn) :: s.data.toList.drop (k + 1) := List.drop_eq_getElem_cons (by omega); rw [hdrop] at hdec; cases hd : dv 16 (s[k]'hkn) with
      | none =>
        have HE : Hid (numO s.data.toList = none) := by rw [Hid,HV.out,hdec]; exact pU_none _ _ _ _ hd
        have DC : Hid (∀ w,Calls Tryz.prog 85 #[.int .u8 (s[k]'hkn).toNat,.int .u64 16] w fun e w' => e = .returned (.int .i64 (-1)) /\ w' = w) := by
          intro w; have h := digit_16 (s[k]'hkn) w; rw [hd] at h; exact h
        clear hd hdec hdrop hl ha hacc
        go_wp2_with (go_at_call 85; refine (DC.out _).mono ?_; rintro e w' ⟨rfl,rfl⟩)
        go_ret2
        exact ⟨ret2_n (by rw [HE.out]; rfl) (by rw [HE.out]; rfl),rfl⟩
      | some d =>
        have hd15 := dv_lt 16 _ d (by omega) hd; obtain ⟨dd,hdd⟩ : ∃ dd : Int,(d : Int) = dd := ⟨_,rfl⟩; have DC : Hid (∀ w,Calls Tryz.prog 85 #[.int .u8 (s[k]'hkn).toNat,.int .u64 16] w fun e w' => e = .returned (.int .i64 dd) /\ w' = w) := by
          intro w; have h := digit_16 (s[k]'hkn) w; rw [hd] at h; rw [<- hdd]; exact h
        have d0 : 0 <= dd := by omega
        have d1 : dd <= 15 := by omega
        have hq := quo_d dd 16 d0 d1 (by omega); have hs := wrap_d dd d0 d1; have ho := over_iff a dd 16 ha0 (by omega)
        by_cases hov : 18446744073709551616 <= acc * 16 + d
        · have HE : Hid (numO s.data.toList = none) := by rw [Hid,HV.out,hdec]; exact pU_big _ _ _ _ _ hd hov
          have hgt : (18446744073709551615 - dd) / 16 < a := ho.mpr (by omega); obtain ⟨Q,hQ⟩ : ∃ Q : Int,(18446744073709551615 - dd) / 16 = Q := ⟨_,rfl⟩; rw [hQ] at hq hgt; clear hd hdec hdrop hl ha hacc ho hov hQ hdd hd15
          go_wp2_with (go_at_call 85; refine (DC.out _).mono ?_; rintro e w' ⟨rfl,rfl⟩)
          go_ret2
          exact ⟨ret2_n (by rw [HE.out]; rfl) (by rw [HE.out]; rfl),rfl⟩
        have hle : a <= (18446744073709551615 - dd) / 16 := by have h3 := ho.mp; omega
        have HN : Hid (a * 16 + dd = ((acc * 16 + d : Nat) : Int) /\ acc * 16 + d < 18446744073709551616 /\ pU 16 0 (s.data.toList.drop 2) = pU 16 (acc * 16 + d) (s.data.toList.drop (k + 1))) := ⟨by omega,by omega,hdec.trans (pU_more _ _ _ _ _ hd hov)⟩; obtain ⟨Q,hQ⟩ : ∃ Q : Int,(18446744073709551615 - dd) / 16 = Q := ⟨_,rfl⟩; rw [hQ] at hq hle; have hw1 := wrap_n (a * 16) (by omega) (by omega); have hw2 := wrap_n (a * 16 + dd) (by omega) (by omega); clear hd hdec hdrop hl ha hacc ho hov hQ hdd hd15
        go_wp2_with (go_at_call 85; refine (DC.out _).mono ?_; rintro e w' ⟨rfl,rfl⟩)
        go_round
        case rel => exact ⟨k + 1,acc * 16 + d,a * 16 + dd,by go_num,rfl,by omega,by omega,HN⟩
        case measure => simp [intOf]; omega
    obtain ⟨ha,hacc,hdec⟩ := hh.out; have HE : Hid (numO s.data.toList = some acc) := by
      rw [Hid,HV.out,hdec,List.drop_eq_nil_of_le (by rw [<- Lib.size_eq]; omega)]; rfl
    have HA : Hid (a = (acc : Int)) := ha; clear hh hdec ha hacc
    go_wp2
    go_ret2
    exact ⟨ret2_n (by rw [HE.out]; exact HA.out) (by rw [HE.out]; rfl),rfl⟩


set_option maxHeartbeats 4000000 in
set_option maxRecDepth 100000 in
theorem rnum_short (s : ByteArray) (w : World) (hs : s.size <= 9223372036854775806) (hp : Hid (numO s.data.toList = pV 10 s.data.toList)) (hc : s.size < 2) :
    Calls Tryz.prog 56 #[.string s] w fun e w' => e = .returned (.tuple #[.int .u64 (nV (numO s.data.toList)),.int .i64 (nE (numO s.data.toList))]) /\ w' = w := by
  by_cases h3 : s.size = 0
  · have HE : Hid (numO s.data.toList = none) := by
      have e0 : s.data.toList = [] := List.length_eq_zero_iff.mp (by rw [<- Lib.size_eq]; exact h3); rw [Hid,hp.out]; unfold pV; rw [if_pos e0]
    go_enter Tryz.func56,Tryz.ntmps56
    go_wp2
    go_ret2
    exact ⟨ret2_n (by rw [HE.out]; rfl) (by rw [HE.out]; rfl),rfl⟩
  have HV : Hid (numO s.data.toList = pU 10 0 (s.data.toList.drop 0)) := by
    rw [Hid,hp.out,List.drop_zero]; unfold pV; rw [if_neg]; intro e; have : s.data.toList.length = 0 := by rw [e]; rfl
    rw [<- Lib.size_eq] at this; omega
  have hsz : ((0 : Int) == (s.size : Int)) = false := by simp; omega
  go_enter Tryz.func56,Tryz.ntmps56
  go_wp2
  go_loop [5,6] (fun vk vn => ∃ (k acc : Nat) (a : Int),vk = .int .i64 k /\ vn = .int .u64 a /\ k <= s.size /\ 0 <= a /\ Hid (a = (acc : Int) /\ acc < 18446744073709551616 /\ pU 10 0 (s.data.toList.drop 0) = pU 10 acc (s.data.toList.drop k)))
    (fun vk _ => s.size - (intOf vk).toNat)
  case atStart => exact ⟨0,0,0,rfl,rfl,by omega,by omega,rfl,by omega,rfl⟩
  case round =>
    obtain ⟨k,acc,a,rfl,rfl,hk,ha0,hh⟩ := hrel
    by_cases hkn : k < s.size
    · obtain ⟨ha,hacc,hdec⟩ := hh.out
      clear hh; have hl : s.data.toList.length = s.size := (Lib.size_eq s).symm; have hdrop : s.data.toList.drop k = (s[k]'hkn) :: s.data.toList.drop (k + 1) := List.drop_eq_getElem_cons (by omega); rw [hdrop] at hdec; cases hd : dv 10 (s[k]'hkn) with
      | none =>
        have HE : Hid (numO s.data.toList = none) := by rw [Hid,HV.out,hdec]; exact pU_none _ _ _ _ hd
        have DC : Hid (∀ w,Calls Tryz.prog 85 #[.int .u8 (s[k]'hkn).toNat,.int .u64 10] w fun e w' => e = .returned (.int .i64 (-1)) /\ w' = w) := by
          intro w; have h := digit_10 (s[k]'hkn) w; rw [hd] at h; exact h
        clear hd hdec hdrop hl ha hacc
        go_wp2_with (go_at_call 85; refine (DC.out _).mono ?_; rintro e w' ⟨rfl,rfl⟩)
        go_ret2
        exact ⟨ret2_n (by rw [HE.out]; rfl) (by rw [HE.out]; rfl),rfl⟩
      | some d =>
        have hd15 := dv_lt 10 _ d (by omega) hd; obtain ⟨dd,hdd⟩ : ∃ dd : Int,(d : Int) = dd := ⟨_,rfl⟩; have DC : Hid (∀ w,Calls Tryz.prog 85 #[.int .u8 (s[k]'hkn).toNat,.int .u64 10] w fun e w' => e = .returned (.int .i64 dd) /\ w' = w) := by
          intro w; have h := digit_10 (s[k]'hkn) w; rw [hd] at h; rw [<- hdd]; exact h
        have d0 : 0 <= dd := by omega
        have d1 : dd <= 15 := by omega
        have hq := quo_d dd 10 d0 d1 (by omega); have hs := wrap_d dd d0 d1; have ho := over_iff a dd 10 ha0 (by omega)
        by_cases hov : 18446744073709551616 <= acc * 10 + d
        · have HE : Hid (numO s.data.toList = none) := by rw [Hid,HV.out,hdec]; exact pU_big _ _ _ _ _ hd hov
          have hgt : (18446744073709551615 - dd) / 10 < a := ho.mpr (by omega); obtain ⟨Q,hQ⟩ : ∃ Q : Int,(18446744073709551615 - dd) / 10 = Q := ⟨_,rfl⟩; rw [hQ] at hq hgt; clear hd hdec hdrop hl ha hacc ho hov hQ hdd hd15
          go_wp2_with (go_at_call 85; refine (DC.out _).mono ?_; rintro e w' ⟨rfl,rfl⟩)
          go_ret2
          exact ⟨ret2_n (by rw [HE.out]; rfl) (by rw [HE.out]; rfl),rfl⟩
        have hle : a <= (18446744073709551615 - dd) / 10 := by have h3 := ho.mp; omega
        have HN : Hid (a * 10 + dd = ((acc * 10 + d : Nat) : Int) /\ acc * 10 + d < 18446744073709551616 /\ pU 10 0 (s.data.toList.drop 0) = pU 10 (acc * 10 + d) (s.data.toList.drop (k + 1))) := ⟨by omega,by omega,hdec.trans (pU_more _ _ _ _ _ hd hov)⟩; obtain ⟨Q,hQ⟩ : ∃ Q : Int,(18446744073709551615 - dd) / 10 = Q := ⟨_,rfl⟩; rw [hQ] at hq hle; have hw1 := wrap_n (a * 10) (by omega) (by omega); have hw2 := wrap_n (a * 10 + dd) (by omega) (by omega); clear hd hdec hdrop hl ha hacc ho hov hQ hdd hd15
        go_wp2_with (go_at_call 85; refine (DC.out _).mono ?_; rintro e w' ⟨rfl,rfl⟩)
        go_round
        case rel => exact ⟨k + 1,acc * 10 + d,a * 10 + dd,by go_num,rfl,by omega,by omega,HN⟩
        case measure => simp [intOf]; omega
    obtain ⟨ha,hacc,hdec⟩ := hh.out; have HE : Hid (numO s.data.toList = some acc) := by
      rw [Hid,HV.out,hdec,List.drop_eq_nil_of_le (by rw [<- Lib.size_eq]; omega)]; rfl
    have HA : Hid (a = (acc : Int)) := ha; clear hh hdec ha hacc
    go_wp2
    go_ret2
    exact ⟨ret2_n (by rw [HE.out]; exact HA.out) (by rw [HE.out]; rfl),rfl⟩


set_option maxHeartbeats 4000000 in
set_option maxRecDepth 100000 in
theorem rnum_zero (s : ByteArray) (w : World) (hs : s.size <= 9223372036854775806) (hp : Hid (numO s.data.toList = pV 10 s.data.toList)) (h2 : 2 <= s.size) (hc : ((s[0]'(by omega)).toNat : Int) ≠ 48) :
    Calls Tryz.prog 56 #[.string s] w fun e w' => e = .returned (.tuple #[.int .u64 (nV (numO s.data.toList)),.int .i64 (nE (numO s.data.toList))]) /\ w' = w := by
  have hcb : (((s[0]'(by omega)).toNat : Int) == 48) = false := by simpa using hc
  clear hc
  by_cases h3 : s.size = 0
  · have HE : Hid (numO s.data.toList = none) := by
      have e0 : s.data.toList = [] := List.length_eq_zero_iff.mp (by rw [<- Lib.size_eq]; exact h3); rw [Hid,hp.out]; unfold pV; rw [if_pos e0]
    go_enter Tryz.func56,Tryz.ntmps56
    go_wp2
    go_ret2
    exact ⟨ret2_n (by rw [HE.out]; rfl) (by rw [HE.out]; rfl),rfl⟩
  have HV : Hid (numO s.data.toList = pU 10 0 (s.data.toList.drop 0)) := by
    rw [Hid,hp.out,List.drop_zero]; unfold pV; rw [if_neg]; intro e; have : s.data.toList.length = 0 := by rw [e]; rfl
    rw [<- Lib.size_eq] at this; omega
  have hsz : ((0 : Int) == (s.size : Int)) = false := by simp; omega
  go_enter Tryz.func56,Tryz.ntmps56
  go_wp2
  clear hcb
  go_loop [5,6] (fun vk vn => ∃ (k acc : Nat) (a : Int),vk = .int .i64 k /\ vn = .int .u64 a /\ k <= s.size /\ 0 <= a /\ Hid (a = (acc : Int) /\ acc < 18446744073709551616 /\ pU 10 0 (s.data.toList.drop 0) = pU 10 acc (s.data.toList.drop k)))
    (fun vk _ => s.size - (intOf vk).toNat)
  case atStart => exact ⟨0,0,0,rfl,rfl,by omega,by omega,rfl,by omega,rfl⟩
  case round =>
    obtain ⟨k,acc,a,rfl,rfl,hk,ha0,hh⟩ := hrel
    by_cases hkn : k < s.size
    · obtain ⟨ha,hacc,hdec⟩ := hh.out
      clear hh; have hl : s.data.toList.length = s.size := (Lib.size_eq s).symm; have hdrop : s.data.toList.drop k = (s[k]'hkn) :: s.data.toList.drop (k + 1) := List.drop_eq_getElem_cons (by omega); rw [hdrop] at hdec; cases hd : dv 10 (s[k]'hkn) with
      | none =>
        have HE : Hid (numO s.data.toList = none) := by rw [Hid,HV.out,hdec]; exact pU_none _ _ _ _ hd
        have DC : Hid (∀ w,Calls Tryz.prog 85 #[.int .u8 (s[k]'hkn).toNat,.int .u64 10] w fun e w' => e = .returned (.int .i64 (-1)) /\ w' = w) := by
          intro w; have h := digit_10 (s[k]'hkn) w; rw [hd] at h; exact h
        clear hd hdec hdrop hl ha hacc
        go_wp2_with (go_at_call 85; refine (DC.out _).mono ?_; rintro e w' ⟨rfl,rfl⟩)
        go_ret2
        exact ⟨ret2_n (by rw [HE.out]; rfl) (by rw [HE.out]; rfl),rfl⟩
      | some d =>
        have hd15 := dv_lt 10 _ d (by omega) hd; obtain ⟨dd,hdd⟩ : ∃ dd : Int,(d : Int) = dd := ⟨_,rfl⟩; have DC : Hid (∀ w,Calls Tryz.prog 85 #[.int .u8 (s[k]'hkn).toNat,.int .u64 10] w fun e w' => e = .returned (.int .i64 dd) /\ w' = w) := by
          intro w; have h := digit_10 (s[k]'hkn) w; rw [hd] at h; rw [<- hdd]; exact h
        have d0 : 0 <= dd := by omega
        have d1 : dd <= 15 := by omega
        have hq := quo_d dd 10 d0 d1 (by omega); have hs := wrap_d dd d0 d1; have ho := over_iff a dd 10 ha0 (by omega)
        by_cases hov : 18446744073709551616 <= acc * 10 + d
        · have HE : Hid (numO s.data.toList = none) := by rw [Hid,HV.out,hdec]; exact pU_big _ _ _ _ _ hd hov
          have hgt : (18446744073709551615 - dd) / 10 < a := ho.mpr (by omega); obtain ⟨Q,hQ⟩ : ∃ Q : Int,(18446744073709551615 - dd) / 10 = Q := ⟨_,rfl⟩; rw [hQ] at hq hgt; clear hd hdec hdrop hl ha hacc ho hov hQ hdd hd15
          go_wp2_with (go_at_call 85; refine (DC.out _).mono ?_; rintro e w' ⟨rfl,rfl⟩)
          go_ret2
          exact ⟨ret2_n (by rw [HE.out]; rfl) (by rw [HE.out]; rfl),rfl⟩
        have hle : a <= (18446744073709551615 - dd) / 10 := by have h3 := ho.mp; omega
        have HN : Hid (a * 10 + dd = ((acc * 10 + d : Nat) : Int) /\ acc * 10 + d < 18446744073709551616 /\ pU 10 0 (s.data.toList.drop 0) = pU 10 (acc * 10 + d) (s.data.toList.drop (k + 1))) := ⟨by omega,by omega,hdec.trans (pU_more _ _ _ _ _ hd hov)⟩; obtain ⟨Q,hQ⟩ : ∃ Q : Int,(18446744073709551615 - dd) / 10 = Q := ⟨_,rfl⟩; rw [hQ] at hq hle; have hw1 := wrap_n (a * 10) (by omega) (by omega); have hw2 := wrap_n (a * 10 + dd) (by omega) (by omega); clear hd hdec hdrop hl ha hacc ho hov hQ hdd hd15
        go_wp2_with (go_at_call 85; refine (DC.out _).mono ?_; rintro e w' ⟨rfl,rfl⟩)
        go_round
        case rel => exact ⟨k + 1,acc * 10 + d,a * 10 + dd,by go_num,rfl,by omega,by omega,HN⟩
        case measure => simp [intOf]; omega
    obtain ⟨ha,hacc,hdec⟩ := hh.out; have HE : Hid (numO s.data.toList = some acc) := by
      rw [Hid,HV.out,hdec,List.drop_eq_nil_of_le (by rw [<- Lib.size_eq]; omega)]; rfl
    have HA : Hid (a = (acc : Int)) := ha; clear hh hdec ha hacc
    go_wp2
    go_ret2
    exact ⟨ret2_n (by rw [HE.out]; exact HA.out) (by rw [HE.out]; rfl),rfl⟩


set_option maxHeartbeats 4000000 in
set_option maxRecDepth 100000 in
theorem rnum_one (s : ByteArray) (w : World) (hs : s.size <= 9223372036854775806) (hp : Hid (numO s.data.toList = pV 10 s.data.toList)) (h2 : 2 <= s.size) (hz : ((s[0]'(by omega)).toNat : Int) = 48) (hc : ((s[1]'(by omega)).toNat : Int) ≠ 120) :
    Calls Tryz.prog 56 #[.string s] w fun e w' => e = .returned (.tuple #[.int .u64 (nV (numO s.data.toList)),.int .i64 (nE (numO s.data.toList))]) /\ w' = w := by
  have hzb : (((s[0]'(by omega)).toNat : Int) == 48) = true := by simpa using hz
  have hcb : (((s[1]'(by omega)).toNat : Int) == 120) = false := by simpa using hc
  clear hc hz
  by_cases h3 : s.size = 0
  · have HE : Hid (numO s.data.toList = none) := by
      have e0 : s.data.toList = [] := List.length_eq_zero_iff.mp (by rw [<- Lib.size_eq]; exact h3); rw [Hid,hp.out]; unfold pV; rw [if_pos e0]
    go_enter Tryz.func56,Tryz.ntmps56
    go_wp2
    go_ret2
    exact ⟨ret2_n (by rw [HE.out]; rfl) (by rw [HE.out]; rfl),rfl⟩
  have HV : Hid (numO s.data.toList = pU 10 0 (s.data.toList.drop 0)) := by
    rw [Hid,hp.out,List.drop_zero]; unfold pV; rw [if_neg]; intro e; have : s.data.toList.length = 0 := by rw [e]; rfl
    rw [<- Lib.size_eq] at this; omega
  have hsz : ((0 : Int) == (s.size : Int)) = false := by simp; omega
  go_enter Tryz.func56,Tryz.ntmps56
  go_wp2
  clear hzb hcb
  go_loop [5,6] (fun vk vn => ∃ (k acc : Nat) (a : Int),vk = .int .i64 k /\ vn = .int .u64 a /\ k <= s.size /\ 0 <= a /\ Hid (a = (acc : Int) /\ acc < 18446744073709551616 /\ pU 10 0 (s.data.toList.drop 0) = pU 10 acc (s.data.toList.drop k)))
    (fun vk _ => s.size - (intOf vk).toNat)
  case atStart => exact ⟨0,0,0,rfl,rfl,by omega,by omega,rfl,by omega,rfl⟩
  case round =>
    obtain ⟨k,acc,a,rfl,rfl,hk,ha0,hh⟩ := hrel
    by_cases hkn : k < s.size
    · obtain ⟨ha,hacc,hdec⟩ := hh.out
      clear hh; have hl : s.data.toList.length = s.size := (Lib.size_eq s).symm; have hdrop : s.data.toList.drop k = (s[k]'hkn) :: s.data.toList.drop (k + 1) := List.drop_eq_getElem_cons (by omega); rw [hdrop] at hdec; cases hd : dv 10 (s[k]'hkn) with
      | none =>
        have HE : Hid (numO s.data.toList = none) := by rw [Hid,HV.out,hdec]; exact pU_none _ _ _ _ hd
        have DC : Hid (∀ w,Calls Tryz.prog 85 #[.int .u8 (s[k]'hkn).toNat,.int .u64 10] w fun e w' => e = .returned (.int .i64 (-1)) /\ w' = w) := by
          intro w; have h := digit_10 (s[k]'hkn) w; rw [hd] at h; exact h
        clear hd hdec hdrop hl ha hacc
        go_wp2_with (go_at_call 85; refine (DC.out _).mono ?_; rintro e w' ⟨rfl,rfl⟩)
        go_ret2
        exact ⟨ret2_n (by rw [HE.out]; rfl) (by rw [HE.out]; rfl),rfl⟩
      | some d =>
        have hd15 := dv_lt 10 _ d (by omega) hd; obtain ⟨dd,hdd⟩ : ∃ dd : Int,(d : Int) = dd := ⟨_,rfl⟩; have DC : Hid (∀ w,Calls Tryz.prog 85 #[.int .u8 (s[k]'hkn).toNat,.int .u64 10] w fun e w' => e = .returned (.int .i64 dd) /\ w' = w) := by
          intro w; have h := digit_10 (s[k]'hkn) w; rw [hd] at h; rw [<- hdd]; exact h
        have d0 : 0 <= dd := by omega
        have d1 : dd <= 15 := by omega
        have hq := quo_d dd 10 d0 d1 (by omega); have hs := wrap_d dd d0 d1; have ho := over_iff a dd 10 ha0 (by omega)
        by_cases hov : 18446744073709551616 <= acc * 10 + d
        · have HE : Hid (numO s.data.toList = none) := by rw [Hid,HV.out,hdec]; exact pU_big _ _ _ _ _ hd hov
          have hgt : (18446744073709551615 - dd) / 10 < a := ho.mpr (by omega); obtain ⟨Q,hQ⟩ : ∃ Q : Int,(18446744073709551615 - dd) / 10 = Q := ⟨_,rfl⟩; rw [hQ] at hq hgt; clear hd hdec hdrop hl ha hacc ho hov hQ hdd hd15
          go_wp2_with (go_at_call 85; refine (DC.out _).mono ?_; rintro e w' ⟨rfl,rfl⟩)
          go_ret2
          exact ⟨ret2_n (by rw [HE.out]; rfl) (by rw [HE.out]; rfl),rfl⟩
        have hle : a <= (18446744073709551615 - dd) / 10 := by have h3 := ho.mp; omega
        have HN : Hid (a * 10 + dd = ((acc * 10 + d : Nat) : Int) /\ acc * 10 + d < 18446744073709551616 /\ pU 10 0 (s.data.toList.drop 0) = pU 10 (acc * 10 + d) (s.data.toList.drop (k + 1))) := ⟨by omega,by omega,hdec.trans (pU_more _ _ _ _ _ hd hov)⟩; obtain ⟨Q,hQ⟩ : ∃ Q : Int,(18446744073709551615 - dd) / 10 = Q := ⟨_,rfl⟩; rw [hQ] at hq hle; have hw1 := wrap_n (a * 10) (by omega) (by omega); have hw2 := wrap_n (a * 10 + dd) (by omega) (by omega); clear hd hdec hdrop hl ha hacc ho hov hQ hdd hd15
        go_wp2_with (go_at_call 85; refine (DC.out _).mono ?_; rintro e w' ⟨rfl,rfl⟩)
        go_round
        case rel => exact ⟨k + 1,acc * 10 + d,a * 10 + dd,by go_num,rfl,by omega,by omega,HN⟩
        case measure => simp [intOf]; omega
    obtain ⟨ha,hacc,hdec⟩ := hh.out; have HE : Hid (numO s.data.toList = some acc) := by
      rw [Hid,HV.out,hdec,List.drop_eq_nil_of_le (by rw [<- Lib.size_eq]; omega)]; rfl
    have HA : Hid (a = (acc : Int)) := ha; clear hh hdec ha hacc
    go_wp2
    go_ret2
    exact ⟨ret2_n (by rw [HE.out]; exact HA.out) (by rw [HE.out]; rfl),rfl⟩


theorem rnumber_any (s : ByteArray) (w : World) (hs : s.size <= 9223372036854775806) :
    Calls Tryz.prog 56 #[.string s] w fun e w' => e = .returned (.tuple #[.int .u64 (nV (numO s.data.toList)),.int .i64 (nE (numO s.data.toList))]) /\ w' = w := by
  by_cases h : ∃ h : 2 <= s.size,(s[0]'(by omega)).toNat = 48 /\ (s[1]'(by omega)).toNat = 120
  · obtain ⟨h2,h0,h1⟩ := h
    exact rnum_hex s w hs h2 h0 h1
  have hp := pre_no s h
  by_cases h2 : 2 <= s.size
  · by_cases h0 : (s[0]'(by omega)).toNat = 48
    · exact rnum_one s w hs hp h2 (by omega) (fun h1 => h ⟨h2,h0,by omega⟩)
    exact rnum_zero s w hs hp h2 (by omega)
  exact rnum_short s w hs hp (by omega)
end Go.Proofs.YtldpkkbdhohcmaaGreatDoor
