import Derived.Test.YtbfaoepglifmfaaGreatDoorPsS
import Derived.Test.YtbfaoepglifmfaaGreatDoorPsQ
namespace Go.Proofs.YtbfaoepglifmfaaGreatDoor
open Go.ChangeShapes Go.WideShapes Go.ChangeAt Go.RowKit Go.Lib Go.Cn

theorem str_cell {w : World} {B : Nat} {v : Value} {ws : List (List UInt8)} {n : Nat} (h : w.ownsRow B 9 1 v n (ws.map strV)) (hn : 0 < n) : ∃ g cap, v = .slice (some ⟨g, 0, none⟩) n cap ∧ ∀ j, j < n → w.cell? ⟨g, j, none⟩ = some (strV (ws.getD j [])) := by
  have hl : ws.length = n := by have := h.1; simp at this; exact this
  rcases h.2 with ⟨_, h0⟩ | ⟨g, cap, cur, e, _⟩
  · omega
  · subst e
    refine ⟨g, cap, rfl, fun j hj => ?_⟩
    rw [h.cellAt j (by omega), List.getElem?_map, List.getElem?_eq_getElem (by omega), List.getD_eq_getElem?_getD, List.getElem?_eq_getElem (by omega)]
    rfl
theorem hd4_len {r : RS} {ws : List (List UInt8)} (h : ws.length ≠ 4) : hd4 r ws = .error 3 := by
  unfold hd4
  split
  · simp at h
  · rfl
theorem hd4_four (r : RS) (a b c d : List UInt8) : hd4 r [a, b, c, d] = if a = [112] ∧ b = [99, 110, 102] then hdN r (numU c) (numU d) else .error 3 := by
  rw [hd4]
  split
  · cases numU c <;> cases numU d <;> rfl
  · rfl
theorem strV_toList (u : List UInt8) : (⟨u.toArray⟩ : ByteArray).data.toList = u := rfl
theorem strV_ne {u : List UInt8} {l : List UInt8} (h : u ≠ l) : ((⟨u.toArray⟩ : ByteArray).toList == l) = false := bytes_is (s := ⟨u.toArray⟩) h
set_option maxHeartbeats 4000000 in
set_option maxRecDepth 100000 in
theorem begin_any (w W : World) (R Q : Nat) (r : RS) (vc vo : Value) (L : List Value) (v : Value) (ws : List (List UInt8)) (B : Nat) (h : RG w W R Q r vc vo L) (hw : W.ownsRow B 9 1 v ws.length (ws.map strV)) (hlen : ws.length ≤ 1048576) (hsz : ∀ u ∈ ws, u.length ≤ 1048576) :
    Calls Tryz.prog 15 #[.pointer (some ⟨R, 0, none⟩), v] W (WKP w W R Q (hd4 r ws)) := by
  have HNU : Hid (∀ (u : List UInt8) (W' : World), u ∈ ws → Calls Tryz.prog 26 #[.string ⟨u.toArray⟩, .bool false] W' fun e w' => e = numE (numU u) ∧ w' = W') := fun u W' hu => rnumber_any ⟨u.toArray⟩ false W' (by have := hsz u hu; rw [Lib.size_eq]; simp; omega)
  have HRG : Hid (RG w W R Q r vc vo L) := h
  generalize hPP : WKP w W R Q (hd4 r ws) = PP
  have HPE : Hid (∀ k m, hd4 r ws = .error k → PP (.returned (.int .i64 k)) (W.drewN m)) := fun k m h1 => by rw [← hPP]; exact WKP.err h1 (HRG.out.over ⟨rfl, rfl, rfl, Nat.le_refl _, fun _ _ => rfl⟩)
  have HPO : Hid (∀ r' W', hd4 r ws = .ok r' → Stays W W' → RG w W' R Q r' vc vo L → PP (.returned (.int .i64 0)) W') := fun r' W' h1 h2 h3 => by rw [← hPP]; exact WKP.ok h1 h2 h3
  clear hPP h
  by_cases h4 : ws.length = 4
  · obtain ⟨g, cap, rfl, hc⟩ := str_cell hw (by omega)
    have k0 := hc 0 (by omega)
    have k1 := hc 1 (by omega)
    have k2 := hc 2 (by omega)
    have k3 := hc 3 (by omega)
    obtain ⟨a, b, c, d, rfl⟩ : ∃ a b c d, ws = [a, b, c, d] := by
      match ws, h4 with
      | [a, b, c, d], _ => exact ⟨a, b, c, d, rfl⟩
    have j0 : W.cell? ⟨g, 0, none⟩ = some (.string ⟨a.toArray⟩) := k0
    have j1 : W.cell? ⟨g, 1, none⟩ = some (.string ⟨b.toArray⟩) := k1
    have j2 : W.cell? ⟨g, 2, none⟩ = some (.string ⟨c.toArray⟩) := k2
    have j3 : W.cell? ⟨g, 3, none⟩ = some (.string ⟨d.toArray⟩) := k3
    clear k0 k1 k2 k3 hc hw hlen hsz
    rw [hd4_four] at HPE HPO
    have HNC : Hid (∀ W', Calls Tryz.prog 26 #[.string ⟨c.toArray⟩, .bool false] W' fun e w' => e = numE (numU c) ∧ w' = W') := fun W' => HNU.out c W' (by simp)
    have HND : Hid (∀ W', Calls Tryz.prog 26 #[.string ⟨d.toArray⟩, .bool false] W' fun e w' => e = numE (numU d) ∧ w' = W') := fun W' => HNU.out d W' (by simp)
    clear HNU h4
    by_cases ha : a = [112]
    · by_cases hb : b = [99, 110, 102]
      · subst ha
        subst hb
        rw [if_pos ⟨rfl, rfl⟩] at HPE HPO
        have i0 : W.cell? ⟨g, 0, none⟩ = some (.string ⟨#[112]⟩) := j0
        have i1 : W.cell? ⟨g, 1, none⟩ = some (.string ⟨#[99, 110, 102]⟩) := j1
        clear j0 j1
        generalize (⟨c.toArray⟩ : ByteArray) = C at *
        generalize (⟨d.toArray⟩ : ByteArray) = D at *
        cases hc : numU c with
        | none =>
          rw [hc] at HNC HPE HPO
          have HFI : Hid (PP (.returned (.int .i64 3)) (W.drewN 0)) := HPE.out 3 0 (hdN_l r _)
          clear HPE HPO HRG hc
          cases hd : numU d with
          | none =>
            rw [hd] at HND
            go_enter Tryz.func15, Tryz.ntmps15
            go_wp2_with fail
            refine (HNC.out _).mono ?_
            rintro e w1 ⟨he, hw⟩
            have he2 : e = .returned (.tuple #[.int .i64 0, .bool false]) := he
            subst he2
            obtain rfl := hw.symm
            clear he
            go_wp2_with fail
            refine (HND.out _).mono ?_
            rintro e w1 ⟨he, hw⟩
            have he2 : e = .returned (.tuple #[.int .i64 0, .bool false]) := he
            subst he2
            obtain rfl := hw.symm
            clear he
            go_wp2
            first | exact HFI.out | (go_ret; exact HFI.out)
          | some y =>
            rw [hd] at HND
            go_enter Tryz.func15, Tryz.ntmps15
            go_wp2_with fail
            refine (HNC.out _).mono ?_
            rintro e w1 ⟨he, hw⟩
            have he2 : e = .returned (.tuple #[.int .i64 0, .bool false]) := he
            subst he2
            obtain rfl := hw.symm
            clear he
            go_wp2_with fail
            refine (HND.out _).mono ?_
            rintro e w1 ⟨he, hw⟩
            have he2 : e = .returned (.tuple #[.int .i64 y, .bool true]) := he
            subst he2
            obtain rfl := hw.symm
            clear he
            go_wp2
            first | exact HFI.out | (go_ret; exact HFI.out)
        | some x =>
          rw [hc] at HNC HPE HPO
          cases hd : numU d with
          | none =>
            rw [hd] at HND HPE HPO
            have HFI : Hid (PP (.returned (.int .i64 3)) (W.drewN 0)) := HPE.out 3 0 (hdN_r r _)
            clear HPE HPO HRG hc hd
            go_enter Tryz.func15, Tryz.ntmps15
            go_wp2_with fail
            refine (HNC.out _).mono ?_
            rintro e w1 ⟨he, hw⟩
            have he2 : e = .returned (.tuple #[.int .i64 x, .bool true]) := he
            subst he2
            obtain rfl := hw.symm
            clear he
            go_wp2_with fail
            refine (HND.out _).mono ?_
            rintro e w1 ⟨he, hw⟩
            have he2 : e = .returned (.tuple #[.int .i64 0, .bool false]) := he
            subst he2
            obtain rfl := hw.symm
            clear he
            go_wp2
            first | exact HFI.out | (go_ret; exact HFI.out)
          | some y =>
            have hx0 := (numU_some hc).2
            have hy0 := (numU_some hd).2
            rw [hd] at HND HPE HPO
            clear hc hd
            by_cases hx : 1048576 < x
            · have HFI : Hid (PP (.returned (.int .i64 21)) (W.drewN 0)) := HPE.out 21 0 (by rw [hdN, if_pos hx])
              clear HPE HPO HRG
              go_enter Tryz.func15, Tryz.ntmps15
              go_wp2_with fail
              refine (HNC.out _).mono ?_
              rintro e w1 ⟨he, hw⟩
              have he2 : e = .returned (.tuple #[.int .i64 x, .bool true]) := he
              subst he2
              obtain rfl := hw.symm
              clear he
              go_wp2_with fail
              refine (HND.out _).mono ?_
              rintro e w1 ⟨he, hw⟩
              have he2 : e = .returned (.tuple #[.int .i64 y, .bool true]) := he
              subst he2
              obtain rfl := hw.symm
              clear he
              go_wp2
              first | exact HFI.out | (go_ret; exact HFI.out)
            · by_cases hy : 1048576 < y
              · have HFI : Hid (PP (.returned (.int .i64 23)) (W.drewN 0)) := HPE.out 23 0 (by rw [hdN, if_neg hx, if_pos hy])
                clear HPE HPO HRG
                go_enter Tryz.func15, Tryz.ntmps15
                go_wp2_with fail
                refine (HNC.out _).mono ?_
                rintro e w1 ⟨he, hw⟩
                have he2 : e = .returned (.tuple #[.int .i64 x, .bool true]) := he
                subst he2
                obtain rfl := hw.symm
                clear he
                go_wp2_with fail
                refine (HND.out _).mono ?_
                rintro e w1 ⟨he, hw⟩
                have he2 : e = .returned (.tuple #[.int .i64 y, .bool true]) := he
                subst he2
                obtain rfl := hw.symm
                clear he
                go_wp2
                first | exact HFI.out | (go_ret; exact HFI.out)
              · obtain ⟨x', rfl⟩ := Int.eq_ofNat_of_zero_le hx0
                obtain ⟨y', rfl⟩ := Int.eq_ofNat_of_zero_le hy0
                have HFI : Hid (PP (.returned (.int .i64 0)) (((W.setCell ⟨R, 5, none⟩ (.bool true)).setCell ⟨R, 0, none⟩ (.int .i64 (x' : Int))).setCell ⟨R, 3, none⟩ (.int .i64 (y' : Int)))) := HPO.out ⟨true, x', y', r.cls, r.op, r.lits⟩ _ (by rw [hdN, if_neg hx, if_neg hy]; rfl) (Stays.three (Stays.refl W) HRG.out.blk) (RG.three HRG.out.blk HRG.out.res HRG.out.rc HRG.out.low HRG.out.lowq 5 0 3 _ _ _ _ rfl rfl rfl)
                have e5 : W.cell? ⟨R, 5, none⟩ = some (.bool r.hd) := rg_cell HRG.out.blk 5
                have e0 : W.cell? ⟨R, 0, none⟩ = some (.int .i64 (r.vars : Int)) := rg_cell HRG.out.blk 0
                have e3 : W.cell? ⟨R, 3, none⟩ = some (.int .i64 (r.cnt : Int)) := rg_cell HRG.out.blk 3
                have f5 : W.frozen? ⟨R, 5, none⟩ = false := rg_fz HRG.out.blk 5
                have f0 : W.frozen? ⟨R, 0, none⟩ = false := rg_fz HRG.out.blk 0
                have f3 : W.frozen? ⟨R, 3, none⟩ = false := rg_fz HRG.out.blk 3
                clear HPE HPO HRG
                go_enter Tryz.func15, Tryz.ntmps15
                go_wp2_with fail
                refine (HNC.out _).mono ?_
                rintro e w1 ⟨he, hw⟩
                have he2 : e = .returned (.tuple #[.int .i64 (x' : Int), .bool true]) := he
                subst he2
                obtain rfl := hw.symm
                clear he
                go_wp2_with fail
                refine (HND.out _).mono ?_
                rintro e w1 ⟨he, hw⟩
                have he2 : e = .returned (.tuple #[.int .i64 (y' : Int), .bool true]) := he
                subst he2
                obtain rfl := hw.symm
                clear he
                go_wp2
                first | exact HFI.out | (go_ret; exact HFI.out)
      · subst ha
        have HFI : Hid (PP (.returned (.int .i64 3)) (W.drewN 0)) := HPE.out 3 0 (by rw [if_neg (fun h => hb h.2)])
        have i0 : W.cell? ⟨g, 0, none⟩ = some (.string ⟨#[112]⟩) := j0
        have n1 := strV_ne hb
        clear HPE HPO HRG HNC HND j0 hb
        generalize (⟨b.toArray⟩ : ByteArray) = Bb at *
        go_enter Tryz.func15, Tryz.ntmps15
        go_wp2
        first | exact HFI.out | (go_ret; exact HFI.out)
    · have HFI : Hid (PP (.returned (.int .i64 3)) (W.drewN 0)) := HPE.out 3 0 (by rw [if_neg (fun h => ha h.1)])
      have n1 := strV_ne ha
      clear HPE HPO HRG HNC HND ha
      generalize (⟨a.toArray⟩ : ByteArray) = Aa at *
      go_enter Tryz.func15, Tryz.ntmps15
      go_wp2
      first | exact HFI.out | (go_ret; exact HFI.out)
  · have HFI : Hid (PP (.returned (.int .i64 3)) (W.drewN 0)) := HPE.out 3 0 (hd4_len h4)
    have q1 : ((ws.length : Int) != 4) = true := by simp; omega
    obtain ⟨ad, cp, rfl, _⟩ := ps_form hw
    clear HPE HPO HRG HNU hw hsz
    generalize ws.length = n at *
    go_enter Tryz.func15, Tryz.ntmps15
    go_wp2
    first | exact HFI.out | (go_ret; exact HFI.out)
end Go.Proofs.YtbfaoepglifmfaaGreatDoor
