import Derived.Test.YtdgmilmhdcmbgaaGreatDoorGvQ
import Derived.Maps.AppendAt
import Derived.Shelf.RegionOpen
namespace Go.Proofs.YtdgmilmhdcmbgaaGreatDoor.G2
open Go.Proofs.YtdgmilmhdcmbgaaGreatDoor
open Go.ChangeShapes Go.WideShapes Go.ChangeAt Go.RowKit Go.Lib Go.Tm Go.Bw Go.Bn Go.WideMaps Go.Maps Go.ChangeMaps Go.Shelf

theorem row_below {w w' : World} {B e k n : Nat} {v : Value} {xs : List Value} (h : w.ownsRow B e k v n xs) (hb : Below w.heap.size w w') : w'.ownsRow B e k v n xs :=
  ⟨h.1, h.2.imp id fun ⟨g, cap, cur, e, h2, h3, h4⟩ => ⟨g, cap, cur, e, h2, (hb.block g (Array.getElem?_eq_some_iff.1 h3).1).trans h3, h4⟩⟩
/-- values told one behind the other -/
structure VN (w0 : World) (xs : List Vl) (v : Value) (W : World) : Prop where
  row : W.ownsRow w0.heap.size 47 3 v xs.length (flatV xs)
  bel : Below w0.heap.size w0 W
theorem VN.over {w0 w w' : World} {xs : List Vl} {v : Value} (h : VN w0 xs v w) (hb : Below w.heap.size w w') : VN w0 xs v w' := ⟨row_below h.row hb, h.bel.trans (below_le' hb h.bel.size)⟩
theorem VN.nil (w : World) : VN w [] (.slice none 0 0) w := ⟨World.ownsRow_nil _ _ _ _, Below.refl _ _⟩
theorem VN.push {w0 w w4 : World} {xs : List Vl} {v : Value} {x : Vl} {g4 cap4 n : Nat} {ob : Obj} (hn : xs.length = n) (h : VN w0 xs v w) (hown : w4.ownsRow w0.heap.size 47 3 (.slice (some ⟨g4, 0, none⟩) (n + 1) cap4) (n + 1) (flatV xs ++ vC x)) (hg : (w.alloc ob).grownBy w4 v.ownBlock) : VN w0 (xs ++ [x]) (.slice (some ⟨g4, 0, none⟩) (n + 1) cap4) w4 := by
  subst hn
  have h5 := h.over (bel1 w ob)
  refine ⟨by rw [flatV_app, List.length_append]; exact hown, ⟨hg.os.trans h5.bel.os, hg.tape.trans h5.bel.tape, hg.output.trans h5.bel.output, Nat.le_trans h5.bel.size hg.size, fun j hj => (hg.block j (Nat.lt_of_lt_of_le hj h5.bel.size) (fun e => ?_)).trans (h5.bel.block j hj)⟩⟩
  rcases h.row.2 with ⟨e0, _⟩ | ⟨g, cap, cur, e0, hb, _⟩
  · rw [e0] at e; cases e
  · rw [e0] at e
    have e2 : j = g := by simpa [Value.ownBlock] using e
    omega
theorem VN.vr {w0 w : World} {xs : List Vl} {v : Value} (h : VN w0 xs v w) : ∃ ad c, v = .slice ad xs.length c ∧ VR w ad xs := vr_row h.row
theorem VN.form {w0 w : World} {xs : List Vl} {v : Value} {n : Nat} (h : VN w0 xs v w) (hn : xs.length = n) : ∃ ad c, v = .slice ad n c := by
  obtain ⟨ad, c, e, _⟩ := h.vr
  exact ⟨ad, c, by rw [e, hn]⟩
/-- a list of words, as it is read -/
def NR (w : World) (ad : Option Addr) (xs : List Nat) : Prop := 0 < xs.length → ∃ b o, ad = some ⟨b, o, none⟩ ∧ b < w.heap.size ∧ ∀ j, j < xs.length → w.cell? ⟨b, o + j, none⟩ = some (.int .u64 ((xs.getD j 0 : Nat) : Int))
theorem NR.below {w w' : World} {ad : Option Addr} {xs : List Nat} (h : NR w ad xs) (hb : Below w.heap.size w w') : NR w' ad xs := fun h0 => by
  obtain ⟨b, o, e, hbl, hc⟩ := h h0
  exact ⟨b, o, e, Nat.lt_of_lt_of_le hbl hb.size, fun j hj => (World.cell?_of_block (hb.block b hbl)).trans (hc j hj)⟩
theorem cells_at (W : World) (ob : Obj) (cs : List Value) (t : TypeId) {s : Nat} (hs : s = W.heap.size + 1) : ∀ j u, cs[j]? = some u → ((W.alloc ob).alloc (.cells cs.toArray t)).cell? ((⟨s, 0, none⟩ : Addr).add j) = some u := fun j u h => by
  subst hs
  have h1 := cells_new3 (W.alloc ob) cs t j u h
  rw [World.size_alloc] at h1
  exact h1
set_option maxHeartbeats 4000000 in
set_option maxRecDepth 100000 in
theorem drawn_any {aV aN : Option Addr} {cV cN : Nat} {vs : List Vl} {nums : List Nat} (w : World) (hV : VR w aV vs) (hN : NR w aN nums) (hvl : vs.length ≤ 1000000000000) (hnl : nums.length ≤ 1000000000000) (hnu : ∀ x ∈ nums, x ≤ 18446744073709551615) (hw : ∀ x ∈ vs, 0 ≤ x.w ∧ x.w ≤ 64) :
    Calls Tryz.prog 13 #[.slice aV vs.length cV, .slice aN nums.length cN] w fun e w' => ∃ v, e = .returned v ∧ VN w (drL nums vs vs.length) v w' := by
  generalize hPP : (fun (e : Ending) (w' : World) => ∃ v, e = .returned v ∧ VN w (drL nums vs vs.length) v w') = PP
  obtain ⟨k, hk⟩ : ∃ k, vs.length = k := ⟨_, rfl⟩
  have HK : Hid (vs.length = k) := hk
  have HPP : Hid (∀ v w', VN w (drL nums vs k) v w' → PP (.returned v) w') := fun v w' h1 => by rw [← hPP]; subst hk; exact ⟨v, rfl, h1⟩
  clear hPP
  obtain ⟨m, hm⟩ : ∃ m, nums.length = m := ⟨_, rfl⟩
  have HM : Hid (nums.length = m) := hm
  have HV : Hid (VR w aV vs) := hV
  have HN : Hid (NR w aN nums) := hN
  have HU : Hid (∀ x ∈ nums, x ≤ 18446744073709551615) := hnu
  have HW : Hid (∀ x ∈ vs, 0 ≤ x.w ∧ x.w ≤ 64) := hw
  rw [hk] at hvl ⊢
  rw [hm] at hnl ⊢
  clear hk hm hV hN hnu hw
  obtain ⟨i0, hi, hz0, hz1, hz2⟩ := info_parts (P := Tryz.prog) (e := 47) (z := vV vZ) (size := 3) (bytes := 32) (by kernel_rfl)
  go_enter Tryz.func13, Tryz.ntmps13
  go_wp2_with fail
  go_loopg [5, 6] k (fun gk s5 s6 wr => ∃ (i : Nat) (aL : Option Addr) (cL : Nat), s5 = .slice aL i cL ∧ s6 = .int .i64 (i : Int) ∧ i + gk = k ∧ VN w (drL nums vs i) (.slice aL i cL) wr)
  case atStart => exact ⟨0, none, 0, rfl, rfl, by omega, VN.nil w⟩
  case round =>
    obtain ⟨i, aL, cL, rfl, rfl, hik, hvn⟩ := hrel
    have HR : Hid (VN w (drL nums vs i) (.slice aL i cL) wr) := hvn
    clear hvn
    by_cases hlt : i < k
    · have hlx : i < vs.length := by rw [HK.out]; exact hlt
      obtain ⟨b, o, rfl, hbl, hc⟩ := (HV.out.below HR.out.bel) (by omega)
      obtain ⟨c1, c2, c3⟩ := hc i hlx
      have q1 : (i : Int) < (k : Int) := by omega
      have hxw := HW.out (vs.getD i vZ) (by rw [List.getD_eq_getElem?_getD, List.getElem?_eq_getElem hlx]; exact List.getElem_mem _)
      have HS : Hid (drL nums vs (i + 1) = drL nums vs i ++ [⟨(vs.getD i vZ).nm, (vs.getD i vZ).w, drN nums i (vs.getD i vZ).w⟩]) := drL_snoc nums vs i
      clear hc
      generalize vs.getD i vZ = x at *
      obtain ⟨nm, xw, xn⟩ := x
      dsimp only at c1 c2 c3 hxw HS
      obtain ⟨W, rfl⟩ : ∃ W : Nat, xw = (W : Int) := ⟨xw.toNat, by omega⟩
      have hW64 : W ≤ 64 := by omega
      have HRW : Hid (∀ a b, World.ownsRow ((wr.alloc a).alloc b) w.heap.size 47 3 (.slice aL i cL) i (flatV (drL nums vs i))) := fun a b => by
        have h1 := (HR.out.over (bel2 wr a b)).row
        rw [drL_len] at h1
        exact h1
      have hww := HR.out.bel.size
      by_cases hm0 : m = 0
      · subst hm0
        have hdr : ∀ a, drN nums i a = trimI (if a = 0 then 1 else a) 0 := fun a => by
          have h0 : ¬ 0 < nums.length := by rw [HM.out]; omega
          unfold drN
          rw [if_neg h0]
        have hU0 : U 0 := by unfold U; omega
        by_cases hw0 : (W : Int) = 0
        · have hE0 : drN nums i (W : Int) = bits .and .u64 0 1 := by rw [hdr, if_pos hw0]; exact (trim_mask 1 0 (by decide) (by decide) hU0).symm
          skip
          have HE : Hid (drN nums i (W : Int) = bits .and .u64 0 1) := hE0
          rw [HE.out] at HS
          rw [hw0] at HS
          go_wp2_with (at_builtin; refine wpList_append_lies _ rfl _ _ 40 rfl w.heap.size 47 i0 (vV vZ) 3 32 Tryz.underlying40 hi hz0 hz1 hz2 rfl (by decide) _ _ _ rfl (HRW.out _ _) ⟨(wr.heap.size + 1), 0, none⟩ 1 1 [.string nm, .int .i64 0, .int .u64 (bits .and .u64 0 1)] rfl rfl (cells_at _ _ _ _ rfl) (by intro u hu; simp at hu; rcases hu with rfl | rfl | rfl <;> rfl) (by omega) (by unfold maxLen; omega) (by omega) (by simp; omega) (wr.heap.size + 1 + 1) (by simp) ?_; intro g5 cap5 w5 hown5 hgrow5 hat5 hlt5)
          have HM5 : Hid (VN w (drL nums vs (i + 1)) (.slice (some ⟨g5, 0, none⟩) (i + 1) cap5) w5) := by (rw [HS.out]; exact VN.push (drL_len nums vs i) (HR.out.over (bel1 _ _)) hown5 hgrow5)
          clear hown5 hgrow5 hat5 hlt5
          go_roundg (gk - 1)
          case measure => omega
          case rel => exact ⟨i + 1, _, _, rfl, by simp, by omega, HM5.out⟩
        · by_cases hw64 : (W : Int) < 64
          · have hwp := wrap_pow W (by omega)
            have hE0 : drN nums i (W : Int) = bits .and .u64 0 (IntKind.u64.wrap (2 ^ W - 1)) := by rw [hdr, if_neg hw0]; exact (trim_mask (W : Int) 0 (by omega) hw64 hU0).symm
            skip
            have HE : Hid (drN nums i (W : Int) = bits .and .u64 0 (IntKind.u64.wrap (2 ^ W - 1))) := hE0
            rw [HE.out] at HS
            go_wp2_with (at_builtin; refine wpList_append_lies _ rfl _ _ 40 rfl w.heap.size 47 i0 (vV vZ) 3 32 Tryz.underlying40 hi hz0 hz1 hz2 rfl (by decide) _ _ _ rfl (HRW.out _ _) ⟨(wr.heap.size + 1), 0, none⟩ 1 1 [.string nm, .int .i64 (W : Int), .int .u64 (bits .and .u64 0 (IntKind.u64.wrap (2 ^ W - 1)))] rfl rfl (cells_at _ _ _ _ rfl) (by intro u hu; simp at hu; rcases hu with rfl | rfl | rfl <;> rfl) (by omega) (by unfold maxLen; omega) (by omega) (by simp; omega) (wr.heap.size + 1 + 1) (by simp) ?_; intro g5 cap5 w5 hown5 hgrow5 hat5 hlt5)
            have HM5 : Hid (VN w (drL nums vs (i + 1)) (.slice (some ⟨g5, 0, none⟩) (i + 1) cap5) w5) := by (rw [HS.out]; exact VN.push (drL_len nums vs i) (HR.out.over (bel1 _ _)) hown5 hgrow5)
            clear hown5 hgrow5 hat5 hlt5
            go_roundg (gk - 1)
            case measure => omega
            case rel => exact ⟨i + 1, _, _, rfl, by simp, by omega, HM5.out⟩
          · have hE0 : drN nums i (W : Int) = 0 := by rw [hdr, if_neg hw0]; exact trim_all _ _ (by omega)
            skip
            have HE : Hid (drN nums i (W : Int) = 0) := hE0
            rw [HE.out] at HS
            go_wp2_with (at_builtin; refine wpList_append_lies _ rfl _ _ 40 rfl w.heap.size 47 i0 (vV vZ) 3 32 Tryz.underlying40 hi hz0 hz1 hz2 rfl (by decide) _ _ _ rfl (HRW.out _ _) ⟨(wr.heap.size + 1), 0, none⟩ 1 1 [.string nm, .int .i64 (W : Int), .int .u64 (0)] rfl rfl (cells_at _ _ _ _ rfl) (by intro u hu; simp at hu; rcases hu with rfl | rfl | rfl <;> rfl) (by omega) (by unfold maxLen; omega) (by omega) (by simp; omega) (wr.heap.size + 1 + 1) (by simp) ?_; intro g5 cap5 w5 hown5 hgrow5 hat5 hlt5)
            have HM5 : Hid (VN w (drL nums vs (i + 1)) (.slice (some ⟨g5, 0, none⟩) (i + 1) cap5) w5) := by (rw [HS.out]; exact VN.push (drL_len nums vs i) (HR.out.over (bel1 _ _)) hown5 hgrow5)
            clear hown5 hgrow5 hat5 hlt5
            go_roundg (gk - 1)
            case measure => omega
            case rel => exact ⟨i + 1, _, _, rfl, by simp, by omega, HM5.out⟩
      · obtain ⟨bn, on, rfl, hbn, hcn⟩ := (HN.out.below HR.out.bel) (by rw [HM.out]; omega)
        have hjm : i % m < m := Nat.mod_lt _ (by omega)
        have n0 := hcn (i % m) (by rw [HM.out]; exact hjm)
        have n1 : (wr.alloc (Obj.cells #[.string nm, .int .i64 (W : Int), .int .u64 0] 47)).cell? ⟨bn, on + i % m, none⟩ = some (.int .u64 ((nums.getD (i % m) 0 : Nat) : Int)) := (World.cell?_of_block ((bel1 wr _).block bn hbn)).trans n0
        have qmm : (i : Int) % (m : Int) = ((i % m : Nat) : Int) := by omega
        have qm0 : ¬ (m : Int) = 0 := by omega
        have qmp : 0 < (m : Int) := by omega
        have qjm : ((i % m : Nat) : Int) < (m : Int) := by omega
        have hdr : ∀ a, drN nums i a = trimI (if a = 0 then 1 else a) ((nums.getD (i % m) 0 : Nat) : Int) := fun a => by
          have h0 : 0 < nums.length := by rw [HM.out]; omega
          unfold drN
          rw [if_pos h0, HM.out]
        have hU0 : U ((nums.getD (i % m) 0 : Nat) : Int) := U_n (HU.out _ (by rw [List.getD_eq_getElem?_getD, List.getElem?_eq_getElem (by rw [HM.out]; exact hjm)]; exact List.getElem_mem _))
        clear n0 hcn
        generalize ((nums.getD (i % m) 0 : Nat) : Int) = nv at *
        generalize i % m = j at *
        by_cases hw0 : (W : Int) = 0
        · have hE0 : drN nums i (W : Int) = bits .and .u64 nv 1 := by rw [hdr, if_pos hw0]; exact (trim_mask 1 nv (by decide) (by decide) hU0).symm
          rw [hw0] at n1
          have HE : Hid (drN nums i (W : Int) = bits .and .u64 nv 1) := hE0
          rw [HE.out] at HS
          rw [hw0] at HS
          go_wp2_with (at_builtin; refine wpList_append_lies _ rfl _ _ 40 rfl w.heap.size 47 i0 (vV vZ) 3 32 Tryz.underlying40 hi hz0 hz1 hz2 rfl (by decide) _ _ _ rfl (HRW.out _ _) ⟨(wr.heap.size + 1), 0, none⟩ 1 1 [.string nm, .int .i64 0, .int .u64 (bits .and .u64 nv 1)] rfl rfl (cells_at _ _ _ _ rfl) (by intro u hu; simp at hu; rcases hu with rfl | rfl | rfl <;> rfl) (by omega) (by unfold maxLen; omega) (by omega) (by simp; omega) (wr.heap.size + 1 + 1) (by simp) ?_; intro g5 cap5 w5 hown5 hgrow5 hat5 hlt5)
          have HM5 : Hid (VN w (drL nums vs (i + 1)) (.slice (some ⟨g5, 0, none⟩) (i + 1) cap5) w5) := by (rw [HS.out]; exact VN.push (drL_len nums vs i) (HR.out.over (bel1 _ _)) hown5 hgrow5)
          clear hown5 hgrow5 hat5 hlt5
          go_roundg (gk - 1)
          case measure => omega
          case rel => exact ⟨i + 1, _, _, rfl, by simp, by omega, HM5.out⟩
        · by_cases hw64 : (W : Int) < 64
          · have hwp := wrap_pow W (by omega)
            have hE0 : drN nums i (W : Int) = bits .and .u64 nv (IntKind.u64.wrap (2 ^ W - 1)) := by rw [hdr, if_neg hw0]; exact (trim_mask (W : Int) nv (by omega) hw64 hU0).symm
            skip
            have HE : Hid (drN nums i (W : Int) = bits .and .u64 nv (IntKind.u64.wrap (2 ^ W - 1))) := hE0
            rw [HE.out] at HS
            go_wp2_with (at_builtin; refine wpList_append_lies _ rfl _ _ 40 rfl w.heap.size 47 i0 (vV vZ) 3 32 Tryz.underlying40 hi hz0 hz1 hz2 rfl (by decide) _ _ _ rfl (HRW.out _ _) ⟨(wr.heap.size + 1), 0, none⟩ 1 1 [.string nm, .int .i64 (W : Int), .int .u64 (bits .and .u64 nv (IntKind.u64.wrap (2 ^ W - 1)))] rfl rfl (cells_at _ _ _ _ rfl) (by intro u hu; simp at hu; rcases hu with rfl | rfl | rfl <;> rfl) (by omega) (by unfold maxLen; omega) (by omega) (by simp; omega) (wr.heap.size + 1 + 1) (by simp) ?_; intro g5 cap5 w5 hown5 hgrow5 hat5 hlt5)
            have HM5 : Hid (VN w (drL nums vs (i + 1)) (.slice (some ⟨g5, 0, none⟩) (i + 1) cap5) w5) := by (rw [HS.out]; exact VN.push (drL_len nums vs i) (HR.out.over (bel1 _ _)) hown5 hgrow5)
            clear hown5 hgrow5 hat5 hlt5
            go_roundg (gk - 1)
            case measure => omega
            case rel => exact ⟨i + 1, _, _, rfl, by simp, by omega, HM5.out⟩
          · have hE0 : drN nums i (W : Int) = nv := by rw [hdr, if_neg hw0]; exact trim_all _ _ (by omega)
            skip
            have HE : Hid (drN nums i (W : Int) = nv) := hE0
            rw [HE.out] at HS
            go_wp2_with (at_builtin; refine wpList_append_lies _ rfl _ _ 40 rfl w.heap.size 47 i0 (vV vZ) 3 32 Tryz.underlying40 hi hz0 hz1 hz2 rfl (by decide) _ _ _ rfl (HRW.out _ _) ⟨(wr.heap.size + 1), 0, none⟩ 1 1 [.string nm, .int .i64 (W : Int), .int .u64 (nv)] rfl rfl (cells_at _ _ _ _ rfl) (by intro u hu; simp at hu; rcases hu with rfl | rfl | rfl <;> rfl) (by omega) (by unfold maxLen; omega) (by omega) (by simp; omega) (wr.heap.size + 1 + 1) (by simp) ?_; intro g5 cap5 w5 hown5 hgrow5 hat5 hlt5)
            have HM5 : Hid (VN w (drL nums vs (i + 1)) (.slice (some ⟨g5, 0, none⟩) (i + 1) cap5) w5) := by (rw [HS.out]; exact VN.push (drL_len nums vs i) (HR.out.over (bel1 _ _)) hown5 hgrow5)
            clear hown5 hgrow5 hat5 hlt5
            go_roundg (gk - 1)
            case measure => omega
            case rel => exact ⟨i + 1, _, _, rfl, by simp, by omega, HM5.out⟩
    · have hik2 : i = k := by omega
      subst hik2
      have HF := HPP.out _ _ HR.out
      go_wp2_with fail
      first
        | exact HF
        | (go_ret; exact HF)
end Go.Proofs.YtdgmilmhdcmbgaaGreatDoor.G2
namespace Go.Proofs.YtdgmilmhdcmbgaaGreatDoor.G2
open Go.Proofs.YtdgmilmhdcmbgaaGreatDoor
open Go.ChangeShapes Go.WideShapes Go.ChangeAt Go.RowKit Go.Lib Go.Tm Go.Bw Go.Bn Go.WideMaps Go.Maps Go.ChangeMaps Go.Shelf

theorem ir_ints2 {w : World} {B : Nat} {v : Value} {xs : List Int} (h : w.ownsRow B 3 1 v xs.length (xs.map (Value.int .i64))) : ∃ ad c, v = .slice ad xs.length c ∧ xs.length ≤ c ∧ IR w ad xs := by
  obtain ⟨ad, c, e, hI⟩ := ir_ints h
  refine ⟨ad, c, e, ?_, hI⟩
  rcases h.2 with ⟨e2, h0⟩ | ⟨g, cap, cur, e2, _, _, h3, _⟩
  · omega
  · rw [e] at e2
    injection e2 with _ _ e3
    omega
/-- a text's store -/
structure LDD (w w' : World) (B : Nat) (aR : Option Addr) (cR : Nat) (L : List Nd) (rs : List Int) : Prop where
  ir : IR w' aR rs
  cap : rs.length ≤ cR
  sm : ∃ v1 M1 M2, SM 59 w' w.heap.size B 0 L v1 M1 M2
set_option maxHeartbeats 4000000 in
set_option maxRecDepth 100000 in
theorem lload_any (l : List UInt8) (w : World) (hE : ENV w) (h9 : 9 ≤ w.heap.size) (hl : l.length ≤ 1048575) (L : List Nd) (rs : List Int) (kN : Nat) (cI : Int) (hG : ldG 0 (lgo [] l) [] [] = (L, rs, kN, cI)) :
    Calls Tryz.prog 11 #[.string ⟨l.toArray⟩] w fun e w' => Below w.heap.size w w' ∧ ((∃ v1 v2, e = .returned (.tuple #[v1, v2, .bool false])) ∨ ∃ B aR cR, e = .returned (.tuple #[.pointer (some ⟨B, 0, none⟩), .slice aR rs.length cR, .bool true]) ∧ LDD w w' B aR cR L rs) := by
  have HLd : Hid (Calls Tryz.prog 17 #[.string ⟨l.toArray⟩, .int .i64 0] w fun e w' => Below w.heap.size w w' ∧ ((cI ≠ 0 ∧ e = .returned (.tuple #[.pointer none, .slice none 0 0, .int .i64 (kN : Int), .int .i64 cI])) ∨ ∃ B aR cR, e = .returned (.tuple #[.pointer (some ⟨B, 0, none⟩), .slice aR rs.length cR, .int .i64 0, .int .i64 0]) ∧ LDD w w' B aR cR L rs)) := (load_any l 0 w (by omega) (by unfold I64; omega) hE h9 (by omega) _ hG).mono fun e w' ⟨hb, h⟩ => ⟨hb, by
    rcases h with ⟨h0, he⟩ | ⟨_, _, B, v, he, hrow, hsm⟩
    · exact Or.inl ⟨h0, he⟩
    · obtain ⟨ad, c, rfl, hc, hi⟩ := ir_ints2 (xs := rs) hrow
      exact Or.inr ⟨B, ad, c, he, hi, hc, hsm⟩⟩
  have HNo : Hid (∀ (e : Int) (W : World), Calls Tryz.prog 8 #[.int .i64 e] W fun E w' => E = .returned (.int .i64 e) ∧ w' = W) := no_any
  clear hE h9 hl hG
  generalize (⟨l.toArray⟩ : ByteArray) = s at *
  obtain ⟨kI, hkI⟩ : ∃ kI : Int, (kN : Int) = kI := ⟨_, rfl⟩
  rw [hkI] at HLd
  clear hkI
  generalize rs.length = q at *
  go_enter Tryz.func11, Tryz.ntmps11
  go_wp2_with fail
  refine HLd.out.mono ?_
  rintro e w1 ⟨hb1, ⟨h0, rfl⟩ | ⟨B, aR, cR, rfl, hld⟩⟩
  · have H1 : Hid (Below w.heap.size w w1) := hb1
    clear hb1 HLd
    have q0 : (cI == 0) = false := by simpa using h0
    go_wp2_with fail
    refine (HNo.out cI w1).mono ?_
    rintro e w' ⟨rfl, rfl⟩
    go_wp2_with fail
    first
      | exact ⟨H1.out, Or.inl ⟨_, _, rfl⟩⟩
      | (go_ret3; exact ⟨H1.out, Or.inl ⟨_, _, rfl⟩⟩)
  · have H1 : Hid (Below w.heap.size w w1 ∧ LDD w w1 B aR cR L rs) := ⟨hb1, hld⟩
    clear hb1 hld HLd
    go_wp2_with fail
    refine (HNo.out 0 w1).mono ?_
    rintro e w' ⟨rfl, rfl⟩
    go_wp2_with fail
    first
      | exact ⟨H1.out.1, Or.inr ⟨B, aR, cR, rfl, H1.out.2⟩⟩
      | (go_ret3; exact ⟨H1.out.1, Or.inr ⟨B, aR, cR, rfl, H1.out.2⟩⟩)
/-- values that may be told of a store's variables -/
structure TLD (L : List Nd) (O : List Nat) (xs : List Vl) : Prop where
  unq : UNQ xs
  ok : ∀ x ∈ xs, nmB x.nm = true ∧ x.nm.size ≤ 140737488355328 ∧ okV x
  fit : ∀ t ∈ O, (L.getD (t - 1) z0).op = 4 → ∀ y ∈ xs, y.nm = (L.getD (t - 1) z0).name → y.w = (L.getD (t - 1) z0).w
  len : xs.length ≤ 1000000000000
theorem okV_U {x : Vl} (h : okV x) : 0 ≤ x.num ∧ x.num ≤ 18446744073709551615 := by
  rcases h with ⟨_, h1, h2⟩ | ⟨_, _, _, h⟩
  · omega
  · unfold U at h; omega
theorem TLD.bound {L : List Nd} {O : List Nat} {xs : List Vl} (h : TLD L O xs) : ∀ s, 0 ≤ ((tellF xs s).getD vZ).num ∧ ((tellF xs s).getD vZ).num ≤ 18446744073709551615 := fun s => by
  cases e : tellF xs s with
  | none => exact ⟨by decide, by decide⟩
  | some y => exact okV_U (h.ok y (tell_some h.unq e).1).2.2
theorem vals_ok (B0 B g0 : Nat) (lim : Int) (L : List Nd) (v : Value) (M1 M2 : Option Nat) {aR aV : Option Addr} {cR cV : Nat} {rs : List Int} {xs : List Vl} {V : VT} (w : World) (hS : SM 59 w B0 B lim L v M1 M2) (hSt : STO L) (hV : VOK B g0 L V) (hSR : SR w B g0 L) (hI : IR w aR rs) (hr : ∀ x ∈ rs, isT L x = true) (hrl : rs.length ≤ 1000000000000) (hX : VR w aV xs) (hT : TLD L (og L [] (toN rs)) xs) :
    Calls Tryz.prog 14 #[.pointer (some ⟨B, 0, none⟩), .slice aR rs.length cR, .slice aV xs.length cV] w fun e w' => ∃ g2, e = .returned (.tuple #[.slice (some ⟨g2, 0, none⟩) rs.length rs.length, .int .i64 0]) ∧ UL w' g2 rs.length (fun j => folN (gG V L (tellF xs)) 0 (og L [] (toN rs)) (rs.getD j 0).toNat) ∧ Below w.heap.size w w' := by
  have hb : ∀ r ∈ toN rs, 1 ≤ r ∧ r ≤ L.length ∧ True := fun r hr' => by
    obtain ⟨y, hy, rfl⟩ := List.mem_map.1 hr'
    have := (of_decide_eq_true (hr y hy) : 1 ≤ y ∧ y ≤ (L.length : Int))
    exact ⟨by omega, by omega, trivial⟩
  obtain ⟨hPW, _, _, _⟩ := og_ok (R := fun _ => True) hSt.pars.1 (toN rs) [] (PW.nil L) ⟨fun _ _ _ _ => Or.inl trivial, fun _ _ _ _ => Or.inl trivial⟩ hb
  refine values_any B0 B g0 lim L v M1 M2 (gG V L (tellF xs)) w hS hSt.pars.1 hI hr hrl hX hT.len hT.unq.idx hT.ok (fun x hx => ?_) (fun x hx y hy => ?_) hSR (ofw_of hSt.pars.1 hV hT.bound hPW.ob)
  · obtain ⟨t, ht, h4, rfl⟩ := vars_in.1 hx
    have := hPW.ob t ht
    have h5 := (var_facts hSt (i := t - 1) (by omega) h4).2.1
    exact Nat.le_trans h5 (by omega)
  · obtain ⟨t, ht, h4, rfl⟩ := vars_in.1 hx
    obtain ⟨h7, h8⟩ := tell_some hT.unq hy
    exact hT.fit t ht h4 y h7 h8
set_option maxHeartbeats 4000000 in
set_option maxRecDepth 100000 in
theorem value_ok (B0 B g0 : Nat) (lim : Int) (L : List Nd) (v : Value) (M1 M2 : Option Nat) {aV : Option Addr} {cV : Nat} {t : Int} {xs : List Vl} {V : VT} (w : World) (hS : SM 59 w B0 B lim L v M1 M2) (hSt : STO L) (hV : VOK B g0 L V) (hSR : SR w B g0 L) (ht : isT L t = true) (hX : VR w aV xs) (hT : TLD L (og L [] [t.toNat]) xs) :
    Calls Tryz.prog 16 #[.pointer (some ⟨B, 0, none⟩), .int .i64 t, .slice aV xs.length cV] w fun e w' => e = .returned (.tuple #[.int .u64 ((folN (gG V L (tellF xs)) 0 (og L [] [t.toNat]) t.toNat : Nat) : Int), .int .i64 0]) ∧ Below w.heap.size w w' := by
  have HC : Hid (∀ W c, Below w.heap.size w W → IR W (some ⟨w.heap.size, 0, none⟩) [t] → Calls Tryz.prog 14 #[.pointer (some ⟨B, 0, none⟩), .slice (some ⟨w.heap.size, 0, none⟩) 1 c, .slice aV xs.length cV] W fun e w' => ∃ g2, e = .returned (.tuple #[.slice (some ⟨g2, 0, none⟩) 1 1, .int .i64 0]) ∧ UL w' g2 1 (fun j => folN (gG V L (tellF xs)) 0 (og L [] [t.toNat]) (([t] : List Int).getD j 0).toNat) ∧ Below W.heap.size W w') := fun W c hb hi =>
    vals_ok (rs := [t]) (cR := c) B0 B g0 lim L v M1 M2 W (hS.below hb) hSt hV (hSR.below hb) hi (fun x hx => by rw [List.mem_singleton.1 hx]; exact ht) (by rw [List.length_singleton]; omega) (hX.below hb) hT
  clear hS hSt hV hSR ht hX hT
  generalize xs.length = d at *
  have hf : ∀ j, (([t] : List Int).getD 0 0).toNat = t.toNat → j = 0 → (([t] : List Int).getD j 0).toNat = t.toNat := fun j h1 h2 => by subst h2; exact h1
  generalize hFF : folN (gG V L (tellF xs)) 0 (og L [] [t.toNat]) = F at *
  have HF0 : Hid ((fun j => F (([t] : List Int).getD j 0).toNat) 0 = F t.toNat) := rfl
  generalize (fun j => F (([t] : List Int).getD j 0).toNat) = f2 at *
  clear hf hFF
  obtain ⟨y, hy⟩ : ∃ y : Int, ((F t.toNat : Nat) : Int) = y := ⟨_, rfl⟩
  have HFY : Hid (((f2 0 : Nat) : Int) = y) := by show _ = _; rw [HF0.out]; exact hy
  rw [hy]
  clear hy HF0
  go_enter Tryz.func16, Tryz.ntmps16
  go_wp2_with fail
  refine (HC.out _ 1 (bel1 _ _) ?ir).mono ?_
  case ir => exact fun _ => ⟨w.heap.size, 0, rfl, by simp, fun j hj => by
    obtain rfl : j = 0 := by simpa using hj
    exact (blk_cell (heap_alloc_new w _) 0).trans rfl⟩
  rintro e w1 ⟨g2, rfl, hu, hb1⟩
  have HB : Hid (Below w.heap.size w w1) := (bel1 w _).trans (below_le' hb1 (by simp))
  obtain ⟨u1, -⟩ := hu.at_ (i := 0) (by omega)
  rw [HFY.out] at u1
  clear hb1 HC hu HFY
  go_wp2_with fail
  first
    | (go_ret2; exact ⟨rfl, HB.out⟩)
    | exact ⟨rfl, HB.out⟩
set_option maxHeartbeats 4000000 in
set_option maxRecDepth 100000 in
theorem varsfn_ok (B0 B : Nat) (lim : Int) (L : List Nd) (v : Value) (M1 M2 : Option Nat) {ad : Option Addr} {cp : Nat} {xs : List Int} (w : World) (hS : SM 59 w B0 B lim L v M1 M2) (hP : PAR L) (h : IR w ad xs) (hl : xs.length ≤ 1000000000000) (hr : ∀ x ∈ xs, isT L x = true) :
    Calls Tryz.prog 12 #[.pointer (some ⟨B, 0, none⟩), .slice ad xs.length cp] w fun e w' => ∃ aS cS, e = .returned (.tuple #[.slice aS (varsF L (og L [] (toN xs))).length cS, .int .i64 0]) ∧ VR w' aS (varsF L (og L [] (toN xs))) ∧ Below w.heap.size w w' := by
  have HC : Hid (∀ W, Below w.heap.size w W → Calls Tryz.prog 22 #[.pointer (some ⟨B, 0, none⟩), .slice ad xs.length cp] W fun e w' => ∃ aO cO, e = .returned (.tuple #[.agg #[.pointer (some ⟨B, 0, none⟩), .slice aO (og L [] (toN xs)).length cO], .int .i64 0]) ∧ Below W.heap.size W w' ∧ OR w' aO (og L [] (toN xs))) := fun W hb => coneOf_ok (cp := cp) B0 B lim L v M1 M2 W (hS.below hb) hP (h.below hb) (by omega) hr
  obtain ⟨g0, hSR, _, _⟩ := hS.sr
  have hb : ∀ r ∈ toN xs, 1 ≤ r ∧ r ≤ L.length ∧ True := fun r hr' => by
    obtain ⟨y, hy, rfl⟩ := List.mem_map.1 hr'
    have := (of_decide_eq_true (hr y hy) : 1 ≤ y ∧ y ≤ (L.length : Int))
    exact ⟨by omega, by omega, trivial⟩
  obtain ⟨hPW, _, _, _⟩ := og_ok (R := fun _ => True) hP (toN xs) [] (PW.nil L) ⟨fun _ _ _ _ => Or.inl trivial, fun _ _ _ _ => Or.inl trivial⟩ hb
  have hlO : (og L [] (toN xs)).length ≤ 1000000000000 := by have h1 := hPW.len; have h2 := hS.len; simp at h1; omega
  have hob := hPW.ob
  clear hS hPW hb h hr
  generalize og L [] (toN xs) = O at *
  generalize xs.length = q at *
  have HVS : Hid (∀ W (aO : Option Addr) cO, Below w.heap.size w W → OR W aO O → Calls Tryz.prog 29 #[.agg #[.pointer (some ⟨B, 0, none⟩), .slice aO O.length cO]] W fun e w' => ∃ ad cp, e = .returned (.slice ad (varsF L O).length cp) ∧ VR w' ad (varsF L O) ∧ Below W.heap.size W w') := fun W aO cO h1 h2 => vars_any W (hSR.below h1) h2 hob hlO
  clear hSR hob hlO
  generalize varsF L O = vs at *
  generalize hOl : O.length = n at *
  obtain ⟨m, hm⟩ : ∃ m, vs.length = m := ⟨_, rfl⟩
  rw [hm] at HVS ⊢
  clear hm hOl
  go_enter Tryz.func12, Tryz.ntmps12
  go_wp2_with fail
  refine (HC.out _ (Below.refl _ _)).mono ?_
  rintro e w1 ⟨aO, cO, rfl, hb1, hO1⟩
  have H1 : Hid (Below w.heap.size w w1 ∧ OR w1 aO O) := ⟨hb1, hO1⟩
  clear hb1 hO1 HC
  go_wp2_with fail
  refine (HVS.out _ aO cO (H1.out.1.trans (below_le' (bel1 w1 _) H1.out.1.size)) (H1.out.2.below (bel1 w1 _))).mono ?_
  rintro e w2 ⟨aS, cS, rfl, hv, hb2⟩
  have H2 : Hid (Below w.heap.size w w2 ∧ VR w2 aS vs) := ⟨(H1.out.1.trans (below_le' (bel1 w1 _) H1.out.1.size)).trans (below_le' hb2 (Nat.le_trans H1.out.1.size (bel1 w1 _).size)), hv⟩
  clear hv hb2 HVS H1
  go_wp2_with fail
  first
    | (go_ret2; exact ⟨aS, cS, rfl, H2.out.2, H2.out.1⟩)
    | exact ⟨aS, cS, rfl, H2.out.2, H2.out.1⟩
end Go.Proofs.YtdgmilmhdcmbgaaGreatDoor.G2
namespace Go.Proofs.YtdgmilmhdcmbgaaGreatDoor.G2
open Go.Proofs.YtdgmilmhdcmbgaaGreatDoor
open Go.ChangeShapes Go.WideShapes Go.ChangeAt Go.RowKit Go.Lib Go.Tm Go.Bw Go.Bn Go.WideMaps Go.Maps Go.ChangeMaps Go.Shelf

/-- is it told of that name, and not 0? -/
def pkB (s : ByteArray) (y : Vl) : Bool := decide (y.nm = s) && decide (y.num ≠ 0)
def pkL (ys : List Vl) (s : ByteArray) : List Vl := ys.filter (pkB s)
theorem pkL_in {ys : List Vl} {s : ByteArray} {y : Vl} : y ∈ pkL ys s ↔ y ∈ ys ∧ y.nm = s ∧ y.num ≠ 0 := by
  unfold pkL pkB
  rw [List.mem_filter, Bool.and_eq_true, decide_eq_true_eq, decide_eq_true_eq]
theorem pkL_snoc (ys : List Vl) (s : ByteArray) (y : Vl) : pkL (ys ++ [y]) s = pkL ys s ++ (if pkB s y = true then [y] else []) := by
  unfold pkL
  rw [List.filter_append]
  congr 1
  cases h : pkB s y with
  | true => simp [h]
  | false => simp [h]
theorem UNQ.filter {ys : List Vl} (h : UNQ ys) (p : Vl → Bool) : UNQ (ys.filter p) := List.Pairwise.filter p h
theorem pkL_one {ys : List Vl} (h : UNQ ys) (s : ByteArray) : (pkL ys s).length ≤ 1 := by
  have h2 : UNQ (pkL ys s) := h.filter _
  have h3 : ∀ y ∈ pkL ys s, y.nm = s := fun y hy => (pkL_in.1 hy).2.1
  cases e : pkL ys s with
  | nil => simp
  | cons x r =>
    cases r with
    | nil => simp
    | cons z r =>
      rw [e] at h2 h3
      have h4 := (List.pairwise_cons.1 h2).1 z (by simp)
      exact absurd ((h3 z (by simp)).trans (h3 x (by simp)).symm) h4
/-- the told ones of names, one name behind the other -/
def tdL (ys : List Vl) (os : List Vl) : List Vl := os.flatMap (fun o => pkL ys o.nm)
theorem tdL_snoc (ys os : List Vl) (o : Vl) : tdL ys (os ++ [o]) = tdL ys os ++ pkL ys o.nm := by
  unfold tdL
  rw [List.flatMap_append, List.flatMap_cons, List.flatMap_nil, List.append_nil]
theorem tdL_in {ys os : List Vl} {y : Vl} : y ∈ tdL ys os ↔ y ∈ ys ∧ y.num ≠ 0 ∧ ∃ o ∈ os, y.nm = o.nm := by
  unfold tdL
  rw [List.mem_flatMap]
  constructor
  · rintro ⟨o, ho, hy⟩
    obtain ⟨h1, h2, h3⟩ := pkL_in.1 hy
    exact ⟨h1, h3, o, ho, h2⟩
  · rintro ⟨h1, h3, o, ho, h2⟩
    exact ⟨o, ho, pkL_in.2 ⟨h1, h2, h3⟩⟩
theorem tdL_len {ys : List Vl} (h : UNQ ys) : ∀ os : List Vl, (tdL ys os).length ≤ os.length
  | [] => Nat.le_refl _
  | o :: os => by
    have h1 := tdL_len h os
    have h2 := pkL_one h o.nm
    show (pkL ys o.nm ++ tdL ys os).length ≤ _
    rw [List.length_append, List.length_cons]
    omega
theorem UNQ.rev {xs : List Vl} (h : UNQ xs) : UNQ xs.reverse := by
  unfold UNQ at h ⊢
  rw [List.pairwise_reverse]
  exact h.imp fun h e => h e.symm
theorem tdL_unq {ys : List Vl} (h : UNQ ys) : ∀ {os : List Vl}, UNQ os → UNQ (tdL ys os)
  | [], _ => List.Pairwise.nil
  | o :: os, ho => by
    have h1 := List.pairwise_cons.1 ho
    show UNQ (pkL ys o.nm ++ tdL ys os)
    refine List.pairwise_append.2 ⟨h.filter _, tdL_unq h h1.2, fun a ha b hb e => ?_⟩
    obtain ⟨_, _, z, hz, e2⟩ := tdL_in.1 hb
    exact h1.1 z hz (e2.symm.trans (e.trans (pkL_in.1 ha).2.1))
theorem UNQ.snoc {xs : List Vl} {x : Vl} (h : UNQ xs) (hx : ∀ y ∈ xs, ¬ y.nm = x.nm) : UNQ (xs ++ [x]) := by
  refine List.pairwise_append.2 ⟨h, List.pairwise_singleton _ _, fun a ha b hb e => ?_⟩
  obtain rfl := List.mem_singleton.1 hb
  exact hx a ha e.symm
/-- what is drawn for the variables of an order fits -/
theorem drawn_tld {L : List Nd} (h : STO L) {O : List Nat} (hw : PW L O []) (hl : O.length ≤ 1000000000000) {nums : List Nat} (hn : ∀ x ∈ nums, x ≤ 18446744073709551615) : TLD L O (drL nums (varsF L O) (varsF L O).length) := by
  have hu := vars_unq h hw.ob hw.on
  have at_ : ∀ j, j < (varsF L O).length → (varsF L O).getD j vZ ∈ varsF L O := fun j hj => by
    rw [List.getD_eq_getElem?_getD, List.getElem?_eq_getElem hj]
    exact List.getElem_mem _
  refine ⟨?_, fun x hx => ?_, fun t ht h4 y hy e => ?_, ?_⟩
  · unfold UNQ drL
    rw [List.pairwise_map]
    have hp : List.Pairwise (fun a b => a < b ∧ b < (varsF L O).length) (List.range (varsF L O).length) := by
      rw [List.pairwise_iff_getElem]
      intro i j hi hj hij
      simp only [List.getElem_range]
      simp at hj
      exact ⟨hij, hj⟩
    exact hp.imp fun ⟨h1, h2⟩ => hu.idx _ _ h1 h2
  · obtain ⟨j, hj, rfl⟩ := drL_in.1 hx
    obtain ⟨t, ht, h4, e⟩ := vars_in.1 (at_ j hj)
    have hb := hw.ob t ht
    obtain ⟨f1, f2, -⟩ := var_facts h (i := t - 1) (by omega) h4
    refine ⟨?_, ?_, drV_ok hn ?_⟩
    · show nmB ((varsF L O).getD j vZ).nm = true
      rw [e]; exact f1
    · show ((varsF L O).getD j vZ).nm.size ≤ _
      rw [e]; exact Nat.le_trans f2 (by omega)
    · rw [e]; exact (h.pars.2 _ (getD_in (by omega))).w
  · obtain ⟨j, hj, rfl⟩ := drL_in.1 hy
    obtain ⟨s, hs, h5, e2⟩ := vars_in.1 (at_ j hj)
    have hb := hw.ob s hs
    have hbt := hw.ob t ht
    have e3 : (L.getD (s - 1) z0).name = (L.getD (t - 1) z0).name := by
      have e4 : ((varsF L O).getD j vZ).nm = (L.getD (t - 1) z0).name := e
      rw [e2] at e4
      exact e4
    have e5 := name_one h (i := t - 1) (j := s - 1) (by omega) (by omega) h4 h5 e3
    show ((varsF L O).getD j vZ).w = _
    rw [e2, e5]
  · rw [drL_len]
    exact Nat.le_trans (varsF_len L O) hl
/-- what is told of the own variables, and of a spare one, fits -/
theorem told_tld {L : List Nd} {O O2 : List Nat} {ys os : List Vl} (hy : TLD L O ys) (hsub : ∀ t ∈ O2, t ∈ O) (ho : UNQ os) (hol : os.length ≤ 100000000000) {n : Nat} (hn : n ≤ 1000000000000) (hsp : ∀ y ∈ ys, ¬ y.nm = spN n) (hsv : ∀ x ∈ varsF L O, ¬ x.nm = spN n) {more : Int} (hm : U more) : TLD L O2 (tdL ys os ++ [⟨spN n, 64, more⟩]) := by
  refine ⟨(tdL_unq hy.unq ho).snoc (fun y hy2 => hsp y (tdL_in.1 hy2).1), fun x hx => ?_, fun t ht h4 y hy2 e => ?_, ?_⟩
  · rcases List.mem_append.1 hx with hx | hx
    · exact hy.ok x (tdL_in.1 hx).1
    · obtain rfl := List.mem_singleton.1 hx
      obtain ⟨f1, f2⟩ := spN_ok hn
      refine ⟨f1, Nat.le_trans f2 (by omega), Or.inr ⟨by dsimp only; omega, by dsimp only; omega, trim_all _ _ (by dsimp only; omega), hm⟩⟩
  · rcases List.mem_append.1 hy2 with hx | hx
    · exact hy.fit t (hsub t ht) h4 y (tdL_in.1 hx).1 e
    · obtain rfl := List.mem_singleton.1 hx
      exact absurd e.symm (hsv _ (vars_in.2 ⟨t, hsub t ht, h4, rfl⟩))
  · have := tdL_len hy.unq os
    rw [List.length_append, List.length_singleton]
    omega
/-- a value hangs on what is told of the own variables alone -/
theorem hangs_same {L : List Nd} (h : STO L) {V : VT} {rs : List Nat} {r : Nat} (hr : ∀ x ∈ rs, 1 ≤ x ∧ x ≤ L.length) (hin : r ∈ rs) {ys : List Vl} (hy : TLD L (og L [] rs) ys) (hcov : ∀ x ∈ varsF L (og L [] rs), ∃ y ∈ ys, y.nm = x.nm) {os : List Vl} (hoc : ∀ x, x ∈ os ↔ x ∈ varsF L (og L [] [r])) {n : Nat} (hsp : ∀ y ∈ ys, ¬ y.nm = spN n) {more : Int} (hT2 : TLD L (og L [] [r]) (tdL ys os ++ [⟨spN n, 64, more⟩])) :
    folN (gG V L (tellF (tdL ys os ++ [⟨spN n, 64, more⟩]))) 0 (og L [] [r]) r = folN (gG V L (tellF ys)) 0 (og L [] rs) r := by
  have hP := h.pars.1
  obtain ⟨hw, -, hrt, -⟩ := og_ok (R := fun _ => True) hP rs [] (PW.nil L) ⟨fun _ _ _ _ => Or.inl trivial, fun _ _ _ _ => Or.inl trivial⟩ (fun x hx => ⟨(hr x hx).1, (hr x hx).2, trivial⟩)
  obtain ⟨hw1, -, hrt1, -⟩ := og_ok (R := fun _ => True) hP [r] [] (PW.nil L) ⟨fun _ _ _ _ => Or.inl trivial, fun _ _ _ _ => Or.inl trivial⟩ (fun x hx => by
    rw [List.mem_singleton] at hx
    subst hx
    exact ⟨(hr x hin).1, (hr x hin).2, trivial⟩)
  refine val_same hP hw1 hw (fun t ht1 ht2 => ?_) r r (Nat.le_refl _) (hrt1 r (List.mem_singleton.2 rfl)) (hrt r hin)
  have hb := hw.ob t ht2
  unfold xT
  congr 1
  by_cases h4 : (L.getD (t - 1) z0).op = 4
  · have hx1 : (⟨(L.getD (t - 1) z0).name, (L.getD (t - 1) z0).w, 0⟩ : Vl) ∈ varsF L (og L [] rs) := vars_in.2 ⟨t, ht2, h4, rfl⟩
    have hx2 : (⟨(L.getD (t - 1) z0).name, (L.getD (t - 1) z0).w, 0⟩ : Vl) ∈ os := (hoc _).2 (vars_in.2 ⟨t, ht1, h4, rfl⟩)
    obtain ⟨y, hy1, hy2⟩ := hcov _ hx1
    dsimp only at hy2
    have e1 := tell_in hy.unq y hy1
    rw [hy2] at e1
    rw [e1]
    by_cases h0 : y.num = 0
    · cases e2 : tellF (tdL ys os ++ [⟨spN n, 64, more⟩]) (L.getD (t - 1) z0).name with
      | none => exact h0.symm
      | some z =>
        obtain ⟨q1, q2⟩ := tell_some hT2.unq e2
        rcases List.mem_append.1 q1 with q1 | q1
        · obtain ⟨p1, p2, -⟩ := tdL_in.1 q1
          have e3 := tell_in hy.unq z p1
          rw [q2, e1] at e3
          cases e3
          exact absurd h0 p2
        · obtain rfl := List.mem_singleton.1 q1
          exact absurd (hy2.trans q2.symm) (hsp y hy1)
    · have hin2 : y ∈ tdL ys os ++ [⟨spN n, 64, more⟩] := List.mem_append_left _ (tdL_in.2 ⟨hy1, h0, _, hx2, hy2⟩)
      have e2 := tell_in hT2.unq y hin2
      rw [hy2] at e2
      rw [e2]
  · have hz := no_name h (i := t - 1) (by omega) h4
    have none_of : ∀ {O : List Nat} {xs : List Vl}, TLD L O xs → tellF xs (L.getD (t - 1) z0).name = none := fun hT => by
      cases e2 : tellF _ (L.getD (t - 1) z0).name with
      | none => rfl
      | some z =>
        obtain ⟨q1, q2⟩ := tell_some hT.unq e2
        have q3 := (hT.ok z q1).1
        rw [nm_size _ (by rw [q2, hz]; omega)] at q3
        cases q3
    rw [none_of hT2, none_of hy]
end Go.Proofs.YtdgmilmhdcmbgaaGreatDoor.G2
