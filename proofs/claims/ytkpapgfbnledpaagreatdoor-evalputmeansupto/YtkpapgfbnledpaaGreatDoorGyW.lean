import Derived.Test.YtkpapgfbnledpaaGreatDoorGyQ
import Derived.Maps.AppendAt
import Derived.Shelf.RegionOpen
import Derived.Test.YtkpapgfbnledpaaGreatDoorEwE
import Derived.Test.YtkpapgfbnledpaaGreatDoorTmW
set_option maxHeartbeats 8000000
set_option maxRecDepth 100000
namespace Go.Proofs.YtkpapgfbnledpaaGreatDoor.G2
open Go.Proofs.YtkpapgfbnledpaaGreatDoor
open Go.ChangeShapes Go.WideShapes Go.ChangeAt Go.RowKit Go.Lib Go.Tm Go.Bw Go.Bn Go.WideMaps Go.Maps Go.ChangeMaps Go.Shelf

theorem row_below {w w' : World} {B e k n : Nat} {v : Value} {xs : List Value} (h : w.ownsRow B e k v n xs) (hb : Below w.heap.size w w') : w'.ownsRow B e k v n xs :=
  ⟨h.1,h.2.imp id fun ⟨g,cap,cur,e,h2,h3,h4⟩ => ⟨g,cap,cur,e,h2,(hb.block g (Array.getElem?_eq_some_iff.1 h3).1).trans h3,h4⟩⟩
structure VN (w0 : World) (xs : List Vl) (v : Value) (W : World) : Prop where
  row : W.ownsRow w0.heap.size 38 3 v xs.length (flatV xs)
  bel : Below w0.heap.size w0 W
theorem VN.over {w0 w w' : World} {xs : List Vl} {v : Value} (h : VN w0 xs v w) (hb : Below w.heap.size w w') : VN w0 xs v w' := ⟨row_below h.row hb,h.bel.trans (below_le' hb h.bel.size)⟩
theorem VN.nil (w : World) : VN w [] (.slice none 0 0) w := ⟨World.ownsRow_nil _ _ _ _,Below.refl _ _⟩
theorem VN.push {w0 w w4 : World} {xs : List Vl} {v : Value} {x : Vl} {g4 cap4 n : Nat} {ob : Obj} (hn : xs.length = n) (h : VN w0 xs v w) (hown : w4.ownsRow w0.heap.size 38 3 (.slice (some ⟨g4,0,none⟩) (n + 1) cap4) (n + 1) (flatV xs ++ vC x)) (hg : (w.alloc ob).grownBy w4 v.ownBlock) : VN w0 (xs ++ [x]) (.slice (some ⟨g4,0,none⟩) (n + 1) cap4) w4 := by
  subst hn; have h5 := h.over (bel1 w ob); refine ⟨by rw [flatV_app,List.length_append]; exact hown,⟨hg.os.trans h5.bel.os,hg.tape.trans h5.bel.tape,hg.output.trans h5.bel.output,Nat.le_trans h5.bel.size hg.size,fun j hj => (hg.block j (Nat.lt_of_lt_of_le hj h5.bel.size) (fun e => ?_)).trans (h5.bel.block j hj)⟩⟩
  rcases h.row.2 with ⟨e0,_⟩ | ⟨g,cap,cur,e0,hb,_⟩
  · rw [e0] at e; cases e
  rw [e0] at e; have e2 : j = g := by simpa [Value.ownBlock] using e
  omega
theorem VN.vr {w0 w : World} {xs : List Vl} {v : Value} (h : VN w0 xs v w) : ∃ ad c,v = .slice ad xs.length c /\ VR w ad xs := vr_row h.row
theorem VN.form {w0 w : World} {xs : List Vl} {v : Value} {n : Nat} (h : VN w0 xs v w) (hn : xs.length = n) : ∃ ad c,v = .slice ad n c := by
  obtain ⟨ad,c,e,_⟩ := h.vr; exact ⟨ad,c,by rw [e,hn]⟩
def NR (w : World) (ad : Option Addr) (xs : List Nat) : Prop := 0 < xs.length -> ∃ b o,ad = some ⟨b,o,none⟩ /\ b < w.heap.size /\ ∀ j,j < xs.length -> w.cell? ⟨b,o + j,none⟩ = some (.int .u64 ((xs.getD j 0 : Nat) : Int))
theorem NR.below {w w' : World} {ad : Option Addr} {xs : List Nat} (h : NR w ad xs) (hb : Below w.heap.size w w') : NR w' ad xs := fun h0 => by
  obtain ⟨b,o,e,hbl,hc⟩ := h h0; exact ⟨b,o,e,Nat.lt_of_lt_of_le hbl hb.size,fun j hj => (World.cell?_of_block (hb.block b hbl)).trans (hc j hj)⟩
theorem cells_at (W : World) (ob : Obj) (cs : List Value) (t : TypeId) {s : Nat} (hs : s = W.heap.size + 1) : ∀ j u,cs[j]? = some u -> ((W.alloc ob).alloc (.cells cs.toArray t)).cell? ((⟨s,0,none⟩ : Addr).add j) = some u := fun j u h => by
  subst hs; have h1 := cells_new3 (W.alloc ob) cs t j u h; rw [World.size_alloc] at h1; exact h1
theorem drawn_any {aV aN : Option Addr} {cV cN : Nat} {vs : List Vl} {nums : List Nat} (w : World) (hV : VR w aV vs) (hN : NR w aN nums) (hvl : vs.length <= 1000000000000) (hnl : nums.length <= 1000000000000) (hnu : ∀ x ∈ nums,x <= 18446744073709551615) (hw : ∀ x ∈ vs,0 <= x.w /\ x.w <= 64) :
    Calls Tryz.prog 15 #[.slice aV vs.length cV,.slice aN nums.length cN] w fun e w' => ∃ v,e = .returned v /\ VN w (drL nums vs vs.length) v w' := by
  generalize hPP : (fun (e : Ending) (w' : World) => ∃ v,e = .returned v /\ VN w (drL nums vs vs.length) v w') = PP
  obtain ⟨k,hk⟩ : ∃ k,vs.length = k := ⟨_,rfl⟩; have HK : Hid (vs.length = k) := hk; have HPP : Hid (∀ v w',VN w (drL nums vs k) v w' -> PP (.returned v) w') := fun v w' h1 => by rw [<- hPP]; subst hk; exact ⟨v,rfl,h1⟩
  clear hPP; obtain ⟨m,hm⟩ : ∃ m,nums.length = m := ⟨_,rfl⟩; have HM : Hid (nums.length = m) := hm; have HV : Hid (VR w aV vs) := hV; have HN : Hid (NR w aN nums) := hN; have HU : Hid (∀ x ∈ nums,x <= 18446744073709551615) := hnu; have HW : Hid (∀ x ∈ vs,0 <= x.w /\ x.w <= 64) := hw; rw [hk] at hvl ⊢; rw [hm] at hnl ⊢; clear hk hm hV hN hnu hw; obtain ⟨i0,hi,hz0,hz1,hz2⟩ := info_parts (P := Tryz.prog) (e := 38) (z := vV vZ) (size := 3) (bytes := 32) (by kernel_rfl)
  go_enter Tryz.func15,Tryz.ntmps15
  go_wp2_with fail
  go_loopg [5,6] k (fun gk s5 s6 wr => ∃ (i : Nat) (aL : Option Addr) (cL : Nat),s5 = .slice aL i cL /\ s6 = .int .i64 (i : Int) /\ i + gk = k /\ VN w (drL nums vs i) (.slice aL i cL) wr)
  case atStart => exact ⟨0,none,0,rfl,rfl,by omega,VN.nil w⟩
  case round =>
    obtain ⟨i,aL,cL,rfl,rfl,hik,hvn⟩ := hrel; have HR : Hid (VN w (drL nums vs i) (.slice aL i cL) wr) := hvn; clear hvn
    by_cases hlt : i < k
    · have hlx : i < vs.length := by rw [HK.out]; exact hlt
      obtain ⟨b,o,rfl,hbl,hc⟩ := (HV.out.below HR.out.bel) (by omega); obtain ⟨c1,c2,c3⟩ := hc i hlx; have q1 : (i : Int) < (k : Int) := by omega
      have hxw := HW.out (vs.getD i vZ) (by rw [List.getD_eq_getElem?_getD,List.getElem?_eq_getElem hlx]; exact List.getElem_mem _); have HS : Hid (drL nums vs (i + 1) = drL nums vs i ++ [⟨(vs.getD i vZ).nm,(vs.getD i vZ).w,drN nums i (vs.getD i vZ).w⟩]) := drL_snoc nums vs i; clear hc
      generalize vs.getD i vZ = x at *
      obtain ⟨nm,xw,xn⟩ := x
      dsimp only at c1 c2 c3 hxw HS
      obtain ⟨W,rfl⟩ : ∃ W : Nat,xw = (W : Int) := ⟨xw.toNat,by omega⟩; have hW64 : W <= 64 := by omega
      have HRW : Hid (∀ a b,World.ownsRow ((wr.alloc a).alloc b) w.heap.size 38 3 (.slice aL i cL) i (flatV (drL nums vs i))) := fun a b => by
        have h1 := (HR.out.over (bel2 wr a b)).row; rw [drL_len] at h1; exact h1
      have hww := HR.out.bel.size
      by_cases hm0 : m = 0
      · subst hm0
        have hdr : ∀ a,drN nums i a = trimI (if a = 0 then 1 else a) 0 := fun a => by
          have h0 : ¬ 0 < nums.length := by rw [HM.out]; omega
          unfold drN; rw [if_neg h0]
        have hU0 : U 0 := by unfold U; omega
        by_cases hw0 : (W : Int) = 0
        · have hE0 : drN nums i (W : Int) = bits .and .u64 0 1 := by rw [hdr,if_pos hw0]; exact (trim_mask 1 0 (by decide) (by decide) hU0).symm
          skip
          have HE : Hid (drN nums i (W : Int) = bits .and .u64 0 1) := hE0; rw [HE.out] at HS; rw [hw0] at HS
          go_wp2_with (at_builtin; refine wpList_append_lies _ rfl _ _ 28 rfl w.heap.size 38 i0 (vV vZ) 3 32 Tryz.underlying28 hi hz0 hz1 hz2 rfl (by decide) _ _ _ rfl (HRW.out _ _) ⟨(wr.heap.size + 1),0,none⟩ 1 1 [.string nm,.int .i64 0,.int .u64 (bits .and .u64 0 1)] rfl rfl (cells_at _ _ _ _ rfl) (by intro u hu; simp at hu; rcases hu with rfl | rfl | rfl <;> rfl) (by omega) (by unfold maxLen; omega) (by omega) (by simp; omega) (wr.heap.size + 1 + 1) (by simp) ?_; intro g5 cap5 w5 hown5 hgrow5 hat5 hlt5)
          have HM5 : Hid (VN w (drL nums vs (i + 1)) (.slice (some ⟨g5,0,none⟩) (i + 1) cap5) w5) := by (rw [HS.out]; exact VN.push (drL_len nums vs i) (HR.out.over (bel1 _ _)) hown5 hgrow5)
          clear hown5 hgrow5 hat5 hlt5
          go_roundg (gk - 1)
          case measure => omega
          case rel => exact ⟨i + 1,_,_,rfl,by simp,by omega,HM5.out⟩
        by_cases hw64 : (W : Int) < 64
        · have hwp := wrap_pow W (by omega)
          have hE0 : drN nums i (W : Int) = bits .and .u64 0 (IntKind.u64.wrap (2 ^ W - 1)) := by rw [hdr,if_neg hw0]; exact (trim_mask (W : Int) 0 (by omega) hw64 hU0).symm
          skip
          have HE : Hid (drN nums i (W : Int) = bits .and .u64 0 (IntKind.u64.wrap (2 ^ W - 1))) := hE0; rw [HE.out] at HS
          go_wp2_with (at_builtin; refine wpList_append_lies _ rfl _ _ 28 rfl w.heap.size 38 i0 (vV vZ) 3 32 Tryz.underlying28 hi hz0 hz1 hz2 rfl (by decide) _ _ _ rfl (HRW.out _ _) ⟨(wr.heap.size + 1),0,none⟩ 1 1 [.string nm,.int .i64 (W : Int),.int .u64 (bits .and .u64 0 (IntKind.u64.wrap (2 ^ W - 1)))] rfl rfl (cells_at _ _ _ _ rfl) (by intro u hu; simp at hu; rcases hu with rfl | rfl | rfl <;> rfl) (by omega) (by unfold maxLen; omega) (by omega) (by simp; omega) (wr.heap.size + 1 + 1) (by simp) ?_; intro g5 cap5 w5 hown5 hgrow5 hat5 hlt5)
          have HM5 : Hid (VN w (drL nums vs (i + 1)) (.slice (some ⟨g5,0,none⟩) (i + 1) cap5) w5) := by (rw [HS.out]; exact VN.push (drL_len nums vs i) (HR.out.over (bel1 _ _)) hown5 hgrow5)
          clear hown5 hgrow5 hat5 hlt5
          go_roundg (gk - 1)
          case measure => omega
          case rel => exact ⟨i + 1,_,_,rfl,by simp,by omega,HM5.out⟩
        have hE0 : drN nums i (W : Int) = 0 := by rw [hdr,if_neg hw0]; exact trim_all _ _ (by omega)
        skip
        have HE : Hid (drN nums i (W : Int) = 0) := hE0; rw [HE.out] at HS
        go_wp2_with (at_builtin; refine wpList_append_lies _ rfl _ _ 28 rfl w.heap.size 38 i0 (vV vZ) 3 32 Tryz.underlying28 hi hz0 hz1 hz2 rfl (by decide) _ _ _ rfl (HRW.out _ _) ⟨(wr.heap.size + 1),0,none⟩ 1 1 [.string nm,.int .i64 (W : Int),.int .u64 (0)] rfl rfl (cells_at _ _ _ _ rfl) (by intro u hu; simp at hu; rcases hu with rfl | rfl | rfl <;> rfl) (by omega) (by unfold maxLen; omega) (by omega) (by simp; omega) (wr.heap.size + 1 + 1) (by simp) ?_; intro g5 cap5 w5 hown5 hgrow5 hat5 hlt5)
        have HM5 : Hid (VN w (drL nums vs (i + 1)) (.slice (some ⟨g5,0,none⟩) (i + 1) cap5) w5) := by (rw [HS.out]; exact VN.push (drL_len nums vs i) (HR.out.over (bel1 _ _)) hown5 hgrow5)
        clear hown5 hgrow5 hat5 hlt5
        go_roundg (gk - 1)
        case measure => omega
        case rel => exact ⟨i + 1,_,_,rfl,by simp,by omega,HM5.out⟩
      obtain ⟨bn,on,rfl,hbn,hcn⟩ := (HN.out.below HR.out.bel) (by rw [HM.out]; omega); have hjm : i % m < m := Nat.mod_lt _ (by omega); have n0 := hcn (i % m) (by rw [HM.out]; exact hjm); have n1 : (wr.alloc (Obj.cells #[.string nm,.int .i64 (W : Int),.int .u64 0] 38)).cell? ⟨bn,on + i % m,none⟩ = some (.int .u64 ((nums.getD (i % m) 0 : Nat) : Int)) := (World.cell?_of_block ((bel1 wr _).block bn hbn)).trans n0; have qmm : (i : Int) % (m : Int) = ((i % m : Nat) : Int) := by omega
      have qm0 : ¬ (m : Int) = 0 := by omega
      have qmp : 0 < (m : Int) := by omega
      have qjm : ((i % m : Nat) : Int) < (m : Int) := by omega
      have hdr : ∀ a,drN nums i a = trimI (if a = 0 then 1 else a) ((nums.getD (i % m) 0 : Nat) : Int) := fun a => by
        have h0 : 0 < nums.length := by rw [HM.out]; omega
        unfold drN; rw [if_pos h0,HM.out]
      have hU0 : U ((nums.getD (i % m) 0 : Nat) : Int) := U_n (HU.out _ (by rw [List.getD_eq_getElem?_getD,List.getElem?_eq_getElem (by rw [HM.out]; exact hjm)]; exact List.getElem_mem _)); clear n0 hcn
      generalize ((nums.getD (i % m) 0 : Nat) : Int) = nv at *
      generalize i % m = j at *
      by_cases hw0 : (W : Int) = 0
      · have hE0 : drN nums i (W : Int) = bits .and .u64 nv 1 := by rw [hdr,if_pos hw0]; exact (trim_mask 1 nv (by decide) (by decide) hU0).symm
        rw [hw0] at n1; have HE : Hid (drN nums i (W : Int) = bits .and .u64 nv 1) := hE0; rw [HE.out] at HS; rw [hw0] at HS
        go_wp2_with (at_builtin; refine wpList_append_lies _ rfl _ _ 28 rfl w.heap.size 38 i0 (vV vZ) 3 32 Tryz.underlying28 hi hz0 hz1 hz2 rfl (by decide) _ _ _ rfl (HRW.out _ _) ⟨(wr.heap.size + 1),0,none⟩ 1 1 [.string nm,.int .i64 0,.int .u64 (bits .and .u64 nv 1)] rfl rfl (cells_at _ _ _ _ rfl) (by intro u hu; simp at hu; rcases hu with rfl | rfl | rfl <;> rfl) (by omega) (by unfold maxLen; omega) (by omega) (by simp; omega) (wr.heap.size + 1 + 1) (by simp) ?_; intro g5 cap5 w5 hown5 hgrow5 hat5 hlt5)
        have HM5 : Hid (VN w (drL nums vs (i + 1)) (.slice (some ⟨g5,0,none⟩) (i + 1) cap5) w5) := by (rw [HS.out]; exact VN.push (drL_len nums vs i) (HR.out.over (bel1 _ _)) hown5 hgrow5)
        clear hown5 hgrow5 hat5 hlt5
        go_roundg (gk - 1)
        case measure => omega
        case rel => exact ⟨i + 1,_,_,rfl,by simp,by omega,HM5.out⟩
      by_cases hw64 : (W : Int) < 64
      · have hwp := wrap_pow W (by omega)
        have hE0 : drN nums i (W : Int) = bits .and .u64 nv (IntKind.u64.wrap (2 ^ W - 1)) := by rw [hdr,if_neg hw0]; exact (trim_mask (W : Int) nv (by omega) hw64 hU0).symm
        skip
        have HE : Hid (drN nums i (W : Int) = bits .and .u64 nv (IntKind.u64.wrap (2 ^ W - 1))) := hE0; rw [HE.out] at HS
        go_wp2_with (at_builtin; refine wpList_append_lies _ rfl _ _ 28 rfl w.heap.size 38 i0 (vV vZ) 3 32 Tryz.underlying28 hi hz0 hz1 hz2 rfl (by decide) _ _ _ rfl (HRW.out _ _) ⟨(wr.heap.size + 1),0,none⟩ 1 1 [.string nm,.int .i64 (W : Int),.int .u64 (bits .and .u64 nv (IntKind.u64.wrap (2 ^ W - 1)))] rfl rfl (cells_at _ _ _ _ rfl) (by intro u hu; simp at hu; rcases hu with rfl | rfl | rfl <;> rfl) (by omega) (by unfold maxLen; omega) (by omega) (by simp; omega) (wr.heap.size + 1 + 1) (by simp) ?_; intro g5 cap5 w5 hown5 hgrow5 hat5 hlt5)
        have HM5 : Hid (VN w (drL nums vs (i + 1)) (.slice (some ⟨g5,0,none⟩) (i + 1) cap5) w5) := by (rw [HS.out]; exact VN.push (drL_len nums vs i) (HR.out.over (bel1 _ _)) hown5 hgrow5)
        clear hown5 hgrow5 hat5 hlt5
        go_roundg (gk - 1)
        case measure => omega
        case rel => exact ⟨i + 1,_,_,rfl,by simp,by omega,HM5.out⟩
      have hE0 : drN nums i (W : Int) = nv := by rw [hdr,if_neg hw0]; exact trim_all _ _ (by omega)
      skip
      have HE : Hid (drN nums i (W : Int) = nv) := hE0; rw [HE.out] at HS
      go_wp2_with (at_builtin; refine wpList_append_lies _ rfl _ _ 28 rfl w.heap.size 38 i0 (vV vZ) 3 32 Tryz.underlying28 hi hz0 hz1 hz2 rfl (by decide) _ _ _ rfl (HRW.out _ _) ⟨(wr.heap.size + 1),0,none⟩ 1 1 [.string nm,.int .i64 (W : Int),.int .u64 (nv)] rfl rfl (cells_at _ _ _ _ rfl) (by intro u hu; simp at hu; rcases hu with rfl | rfl | rfl <;> rfl) (by omega) (by unfold maxLen; omega) (by omega) (by simp; omega) (wr.heap.size + 1 + 1) (by simp) ?_; intro g5 cap5 w5 hown5 hgrow5 hat5 hlt5)
      have HM5 : Hid (VN w (drL nums vs (i + 1)) (.slice (some ⟨g5,0,none⟩) (i + 1) cap5) w5) := by (rw [HS.out]; exact VN.push (drL_len nums vs i) (HR.out.over (bel1 _ _)) hown5 hgrow5)
      clear hown5 hgrow5 hat5 hlt5
      go_roundg (gk - 1)
      case measure => omega
      case rel => exact ⟨i + 1,_,_,rfl,by simp,by omega,HM5.out⟩
    have hik2 : i = k := by omega
    subst hik2; have HF := HPP.out _ _ HR.out
    go_wp2_with fail
    first
      | exact HF
      | (go_ret; exact HF)
end Go.Proofs.YtkpapgfbnledpaaGreatDoor.G2
namespace Go.Proofs.YtkpapgfbnledpaaGreatDoor.GP
open Go.Proofs.YtkpapgfbnledpaaGreatDoor
open Go.Proofs.YtkpapgfbnledpaaGreatDoor.G2 (V9 VK nVal vL gG xT wdN_at getD_in FT var_facts no_name name_one UNQ vars_unq vars_in tell_in tell_some drL drV drN drL_len drL_at drL_in drN_U drV_ok)
open Go.Proofs.YtkpapgfbnledpaaGreatDoor.G3 (STO sto_mk)
open Go.ChangeShapes Go.WideShapes Go.ChangeAt Go.RowKit Go.Lib Go.Tm Go.Bw Go.Bn

theorem fP_id {lim : Int} {L : List Nd} {T : ByteArray -> Option Nat} {O : List Nat} (hw : PW L O []) (hT : ∀ t ∈ O,∀ r,T (L.getD (t - 1) z0).name = some r -> r = t) : ∀ k,k <= O.length -> ∃ f,fP lim L T (O.attach.take k) = some (L,f) /\ (∀ t ∈ O.take k,f t = t) /\ ∀ y,y ∉ O.take k -> f y = 0 := by
  intro k
  induction k with
  | zero =>
    intro _; rw [List.take_zero,List.take_zero]; exact ⟨_,rfl,fun t ht => by (cases ht),fun _ _ => rfl⟩
  | succ k ih =>
    intro hk; obtain ⟨f,hf,h1,h2⟩ := ih (by omega); have hg : O[k]'(by omega) = O.getD k 0 := by rw [List.getD_eq_getElem?_getD,List.getElem?_eq_getElem (by omega)]; rfl
    have e : O = O.take k ++ O.getD k 0 :: O.drop (k + 1) := by
      have h1 := (List.take_append_drop k O).symm; rw [List.drop_eq_getElem_cons (by omega),hg] at h1; exact h1
    have hm : O.getD k 0 ∈ O := by rw [<- hg]; exact List.getElem_mem _
    have h0 : (0 : Nat) ∉ O.take k := fun h => by have := hw.ob 0 (List.mem_of_mem_take h); omega
    have e2 : O.take (k + 1) = O.take k ++ [O.getD k 0] := by
      rw [List.take_add_one,List.getElem?_eq_getElem (by omega),hg]
      rfl
    have hp : ∀ p,(0 < p -> isP L (O.getD k 0) p) -> f p = p := fun p hp => by
      by_cases h : p = 0
      · subst h; exact h2 0 h0
      exact h1 p (hw.cl _ _ _ e p (hp (by omega)))
    have hst : stP lim L T (L,f) (O.getD k 0) = some (L,fun y => if y = O.getD k 0 then O.getD k 0 else f y) := by
      unfold stP; cases hTn : T (L.getD (O.getD k 0 - 1) z0).name with
      | some r =>
        rw [hT _ hm r hTn]
      | none =>
        dsimp only
        rw [if_pos ⟨hp _ (fun h => ⟨h,Or.inl rfl⟩),hp _ (fun h => ⟨h,Or.inr (Or.inl rfl)⟩),hp _ (fun h => ⟨h,Or.inr (Or.inr rfl)⟩)⟩]
    refine ⟨fun y => if y = O.getD k 0 then O.getD k 0 else f y,?_,fun t ht => ?_,fun y hy => ?_⟩
    · rw [att_next (by omega),fP_snoc,hf]
      exact hst
    · dsimp only
      by_cases h3 : t = O.getD k 0
      · rw [if_pos h3,h3]
      rw [if_neg h3]; rw [e2] at ht
      rcases List.mem_append.1 ht with h4 | h4
      · exact h1 t h4
      exact absurd (List.mem_singleton.1 h4) h3
    rw [e2] at hy
    dsimp only
    rw [if_neg (fun h3 => hy (by rw [h3]; exact List.mem_append_right _ (List.mem_singleton.2 rfl)))]; exact h2 y (fun h3 => hy (List.mem_append_left _ h3))
theorem var_node {L : List Nd} (h : STO L) {t : Nat} (h1 : 1 <= t) (h2 : t <= L.length) (h4 : (L.getD (t - 1) z0).op = 4) : L.getD (t - 1) z0 = ⟨4,(L.getD (t - 1) z0).w,0,0,0,0,(L.getD (t - 1) z0).name⟩ := by
  obtain ⟨_,_,a1,a2,a3,a4⟩ := var_facts h (i := t - 1) (by omega) h4
  generalize L.getD (t - 1) z0 = n at *
  obtain ⟨x1,x2,x3,x4,x5,x6,x7⟩ := n
  dsimp only at *
  subst h4 a1 a2 a3 a4
  rfl
theorem mk_var {L : List Nd} (h : STO L) {t : Nat} (h1 : 1 <= t) (h2 : t <= L.length) (h4 : (L.getD (t - 1) z0).op = 4) : rfE L ⟨4,(L.getD (t - 1) z0).w,0,0,0,0,(L.getD (t - 1) z0).name⟩ = 0 /\ pos ⟨4,(L.getD (t - 1) z0).w,0,0,0,0,(L.getD (t - 1) z0).name⟩ L = some (t - 1) := by
  have hn := var_node h h1 h2 h4; have hv := var_facts h (i := t - 1) (by omega) h4; have hsh := h.pars.2 _ (getD_in (L := L) (i := t - 1) (by omega))
  constructor
  · refine rfE_ok ⟨show (1 : Int) <= 4 by decide,show (4 : Int) <= 33 by decide⟩ hsh.w rfl ?_ rfl rfl (fun _ => ?_)
    · unfold br; simp [pt]
    unfold nf; rw [Bool.and_eq_true]; refine ⟨hv.1,?_⟩; cases hvw : vw (L.getD (t - 1) z0).name L with
    | none => rfl
    | some u =>
      dsimp only
      have key : ∀ (K : List Nd) (nm : ByteArray) (u : Int),vw nm K = some u -> ∃ j,j < K.length /\ (K.getD j z0).op = 4 /\ (K.getD j z0).name = nm /\ (K.getD j z0).w = u := by
        intro K nm u
        induction K with
        | nil => intro h; cases h
        | cons x r ih =>
          intro h; unfold vw at h
          split at h
          · rename_i hx
            exact ⟨0,by simp,hx.1,hx.2,by simpa using h⟩
          obtain ⟨j,q1,q2,q3,q4⟩ := ih h; exact ⟨j + 1,by simp; omega,q2,q3,q4⟩
      obtain ⟨j,q1,q2,q3,q4⟩ := key L _ u hvw; have hj := name_one h (i := t - 1) (j := j) (by omega) q1 h4 q2 q3; subst hj; exact decide_eq_true q4.symm
  cases hp : pos ⟨4,(L.getD (t - 1) z0).w,0,0,0,0,(L.getD (t - 1) z0).name⟩ L with
  | none =>
    rw [<- hn] at hp; exact absurd hp (pos_some (t - 1) (by omega) rfl)
  | some i =>
    obtain ⟨q1,q2⟩ := pos_lt hp; have := name_one h (i := t - 1) (j := i) (by omega) q1 h4 (by rw [q2]) (by rw [q2]); rw [this]
def valF (V : V9) (L : List Nd) (ps : List (ByteArray × Nat)) (x2 : ByteArray -> Nat) (x : Vl) : Vl := match tmF ps x.nm with
  | some r => ⟨x.nm,x.w,((ev V L x2 r : Nat) : Int)⟩
  | none => x
theorem valF_nm (V : V9) (L : List Nd) (ps : List (ByteArray × Nat)) (x2 : ByteArray -> Nat) (x : Vl) : (valF V L ps x2 x).nm = x.nm /\ (valF V L ps x2 x).w = x.w := by
  unfold valF
  split <;> exact ⟨rfl,rfl⟩
theorem unq_map {g : Vl -> Vl} (hg : ∀ x,(g x).nm = x.nm) {xs : List Vl} (h : UNQ xs) : UNQ (xs.map g) := by
  unfold UNQ at h ⊢; rw [List.pairwise_map]; exact h.imp (fun h2 => by rw [hg,hg]; exact h2)
theorem tell_map {g : Vl -> Vl} (hg : ∀ x,(g x).nm = x.nm) {xs : List Vl} (h : UNQ xs) (s : ByteArray) : tellF (xs.map g) s = (tellF xs s).map g := by
  cases ht : tellF xs s with
  | some y =>
    obtain ⟨h1,rfl⟩ := tell_some h ht; have := tell_in (unq_map hg h) (g y) (List.mem_map.2 ⟨y,h1,rfl⟩); rw [hg] at this; exact this
  | none =>
    cases ht2 : tellF (xs.map g) s with
    | none => rfl
    | some z =>
      obtain ⟨h1,rfl⟩ := tell_some (unq_map hg h) ht2; obtain ⟨y,hy,rfl⟩ := List.mem_map.1 h1; rw [hg,tell_in h y hy] at ht; cases ht
theorem unq_dr {nums : List Nat} {vs : List Vl} (h : UNQ vs) : UNQ (drL nums vs vs.length) := by
  unfold UNQ; rw [List.pairwise_iff_getElem]; intro i j hi hj hij; rw [drL_len] at hi hj; have h1 := h.idx i j hij hj; have e : ∀ k (hk : k < (drL nums vs vs.length).length),(drL nums vs vs.length)[k].nm = (vs.getD k vZ).nm := fun k hk => by
    have h2 := drL_at nums vs (n := vs.length) (j := k) (by rw [drL_len] at hk; exact hk); rw [List.getD_eq_getElem?_getD,List.getElem?_eq_getElem hk] at h2; rw [show (drL nums vs vs.length)[k] = drV nums vs k from h2]
    rfl
  rw [e,e]; exact h1
theorem nm_ne {s : ByteArray} (h : nmB s = true) : s.size ≠ 0 := fun e => by
  rw [nm_size s (by omega)] at h; cases h
theorem okV_ft {x : Vl} (h : okV x) : FT x.w x.num.toNat /\ x.num.toNat <= 18446744073709551615 := by
  rcases h with ⟨h1,h2,h3⟩ | ⟨h1,h2,h3,h4⟩
  · exact ⟨Or.inl ⟨h1,by omega⟩,by omega⟩
  have h5 := trim_hi x.w x.num h2 h4.2; rw [h3] at h5; unfold U at h4; exact ⟨Or.inr ⟨h1,h2,by rw [Int.toNat_of_nonneg h4.1]; exact h5⟩,by omega⟩
theorem ft_okV {x : Vl} {r : Nat} (e : x.num = (r : Int)) (h : FT x.w r) (hr : r <= 18446744073709551615) : okV x := by
  rcases h with ⟨h1,h2⟩ | ⟨h1,h2,h3⟩
  · exact Or.inl ⟨h1,by omega,by omega⟩
  refine Or.inr ⟨h1,h2,?_,by rw [e]; unfold U; omega⟩; rw [e]; exact trim_id _ _ h1 h2 (by omega) h3
structure PAN (V : V9) (L : List Nd) (O : List Nat) (vals : List Vl) (ps : List (ByteArray × Nat)) : Prop where
  vk : VK V
  sto : STO L
  okL : ∀ n ∈ L,n.ok
  pw : PW L O []
  unq : UNQ vals
  okv : ∀ x ∈ vals,okV x
  var : ∀ x : Vl,(∃ y ∈ vals,y.nm = x.nm /\ y.w = x.w) ↔ ∃ t ∈ O,(L.getD (t - 1) z0).op = 4 /\ x.nm = (L.getD (t - 1) z0).name /\ x.w = (L.getD (t - 1) z0).w
  prs : ∀ p ∈ ps,∃ x ∈ vals,p.1 = x.nm /\ 1 <= p.2 /\ p.2 <= L.length /\ (L.getD (p.2 - 1) z0).w = x.w
theorem xM_eq (T : ByteArray -> Option Vl) (s : ByteArray) : xM T s = ((T s).getD vZ).num.toNat := rfl
section
variable {V : V9} {L : List Nd} {O : List Nat} {vals : List Vl} {ps : List (ByteArray × Nat)}
theorem PAN.wid (h : PAN V L O vals ps) {L2 : List Nd} (hS : STO L2) (hX : ∃ X,L2 = L ++ X) {t : Nat} (h1 : 1 <= t) (h2 : t <= L2.length) (h4 : (L2.getD (t - 1) z0).op = 4) {x : Vl} (hx : x ∈ vals) (e : x.nm = (L2.getD (t - 1) z0).name) : x.w = (L2.getD (t - 1) z0).w := by
  obtain ⟨s,hs,s4,sn,sw⟩ := (h.var x).1 ⟨x,hx,rfl,rfl⟩; have hb := h.pw.ob s hs; obtain ⟨X,rfl⟩ := hX; have eg : (L ++ X).getD (s - 1) z0 = L.getD (s - 1) z0 := getD_app (by omega); have hj := name_one hS (i := s - 1) (j := t - 1) (by rw [List.length_append]; omega) (by omega) (by rw [eg]; exact s4) h4 (by rw [eg,<- sn,<- e]); rw [sw,<- eg,hj]
theorem PAN.x2 (h : PAN V L O vals ps) : (∀ s,xM (tellF vals) s <= 18446744073709551615) /\ ∀ (L2 : List Nd),STO L2 -> (∃ X,L2 = L ++ X) -> ∀ t,1 <= t -> t <= L2.length -> (L2.getD (t - 1) z0).op = 4 -> FT (L2.getD (t - 1) z0).w (xM (tellF vals) (L2.getD (t - 1) z0).name) := by
  refine ⟨fun s => ?_,fun L2 hS hX t h1 h2 h4 => ?_⟩
  · unfold xM
    cases ht : tellF vals s with
    | none => exact Nat.zero_le _
    | some y => exact (okV_ft (h.okv y (tell_some h.unq ht).1)).2
  unfold xM; cases ht : tellF vals _ with
  | none =>
    have hs := (hS.pars.2 _ (getD_in (i := t - 1) (by omega))).w
    by_cases h0 : (L2.getD (t - 1) z0).w = 0
    · exact Or.inl ⟨h0,Nat.zero_le _⟩
    exact Or.inr ⟨by omega,hs.2,Bw.pos _⟩
  | some y =>
    obtain ⟨hy,e⟩ := tell_some h.unq ht; rw [<- h.wid hS hX h1 h2 h4 hy e]; exact (okV_ft (h.okv y hy)).1
theorem PAN.ftev (h : PAN V L O vals ps) {r : Nat} (h1 : 1 <= r) (h2 : r <= L.length) : ev V L (xM (tellF vals)) r <= 18446744073709551615 /\ FT (L.getD (r - 1) z0).w (ev V L (xM (tellF vals)) r) := by
  have h9 := ev_ft h.vk h.sto.good h.sto.pars h.okL h.x2.1 (fun t q1 q2 q3 => h.x2.2 L h.sto ⟨[],(List.append_nil _).symm⟩ t q1 q2 q3) r r (Nat.le_refl _) h2; exact ⟨h9.1,h9.2 h1⟩
theorem PAN.okv2 (h : PAN V L O vals ps) : ∀ x ∈ vals.map (valF V L ps (xM (tellF vals))),okV x := fun x hx => by
  obtain ⟨y,hy,rfl⟩ := List.mem_map.1 hx; unfold valF; cases ht : tmF ps y.nm with
  | none => exact h.okv y hy
  | some r =>
    obtain ⟨z,hz,e,r1,r2,hw⟩ := h.prs _ (tm_mem _ ps rfl _ _ ht); have hyz : z = y := by
      have q1 := tell_in h.unq z hz; have q2 := tell_in h.unq y hy; rw [<- e] at q1; rw [q1] at q2; exact Option.some.inj q2
    subst hyz; obtain ⟨f1,f2⟩ := h.ftev r1 r2; rw [hw] at f2; exact ft_okV rfl f2 f1
theorem PAN.pth (h : PAN V L O vals ps) : PTH V 0 L (tmF ps) (xM (tellF (vals.map (valF V L ps (xM (tellF vals)))))) (xM (tellF vals)) := by
  have hnm := fun x => (valF_nm V L ps (xM (tellF vals)) x).1
  refine ⟨h.sto.good,h.sto.pars,Int.le_refl _,fun t h1 h2 r hr => ?_,fun t h1 h2 hn => ?_⟩
  · obtain ⟨z,hz,e,r1,r2,hw⟩ := h.prs _ (tm_mem _ ps rfl _ _ hr)
    dsimp only at e r1 r2 hw
    obtain ⟨s,hs,s4,sn,sw⟩ := (h.var z).1 ⟨z,hz,rfl,rfl⟩; have hb := h.pw.ob s hs; have h4 : (L.getD (t - 1) z0).op = 4 := by
      by_cases h4 : (L.getD (t - 1) z0).op = 4
      · exact h4
      have q1 := no_name h.sto (i := t - 1) (by omega) h4; have q2 := (var_facts h.sto (i := s - 1) (by omega) s4).1; rw [<- sn,<- e] at q2; exact absurd q1 (nm_ne q2)
    have hwz := h.wid h.sto ⟨[],(List.append_nil _).symm⟩ h1 h2 h4 hz e.symm; refine ⟨h4,r1,r2,by rw [hw,hwz],?_⟩; rw [ev_fix h.sto.pars.1 h1 h2]; have hx1 : xM (tellF (vals.map (valF V L ps (xM (tellF vals))))) (L.getD (t - 1) z0).name = ev V L (xM (tellF vals)) r := by
      rw [xM_eq,tell_map hnm h.unq,e,tell_in h.unq z hz]
      show (valF V L ps (xM (tellF vals)) z).num.toNat = _
      unfold valF; rw [<- e,hr]
      rfl
    have hsh := h.sto.pars.2 _ (getD_in (L := L) (i := t - 1) (by omega)); have hvar := var_node h.sto h1 h2 h4; have hpa : pA L t = 0 /\ pB L t = 0 /\ pC L t = 0 := by
      obtain ⟨_,_,a1,a2,a3,_⟩ := var_facts h.sto (i := t - 1) (by omega) h4; unfold pA pB pC
      omega
    rw [hpa.1,hpa.2.1,hpa.2.2,hx1]; obtain ⟨_,k2,_⟩ := h.vk (L.getD (t - 1) z0).op (L.getD (t - 1) z0).w (L.getD (t - 1) z0).num (wd L (L.getD (t - 1) z0).a) (wd L (L.getD (t - 1) z0).b) (ev V L (xM (tellF (vals.map (valF V L ps (xM (tellF vals)))))) 0) (ev V L (xM (tellF (vals.map (valF V L ps (xM (tellF vals)))))) 0) (ev V L (xM (tellF (vals.map (valF V L ps (xM (tellF vals)))))) 0) (ev V L (xM (tellF vals)) r) hsh.op hsh.w (U64_U (h.okL _ (getD_in (by omega))).num) (Nat.zero_le _) (Nat.zero_le _) (Nat.zero_le _) (h.ftev r1 r2).1; have k3 := k2 h4; unfold nVal
    omega
  rw [xM_eq,xM_eq,tell_map hnm h.unq]; cases ht : tellF vals (L.getD (t - 1) z0).name with
  | none => rfl
  | some y =>
    obtain ⟨hy,e⟩ := tell_some h.unq ht
    show (valF V L ps _ y).num.toNat = y.num.toNat
    unfold valF; rw [e,hn]
end
end Go.Proofs.YtkpapgfbnledpaaGreatDoor.GP
namespace Go.Proofs.YtkpapgfbnledpaaGreatDoor.GP
open Go.Proofs.YtkpapgfbnledpaaGreatDoor
open Go.Proofs.YtkpapgfbnledpaaGreatDoor.G2 (V9 VK vL gG ofw_of vok_of UNQ getD_in)
open Go.Proofs.YtkpapgfbnledpaaGreatDoor.G3 (STO)
open Go.ChangeShapes Go.WideShapes Go.ChangeAt Go.RowKit Go.Lib Go.Tm Go.Bw Go.Bn Go.WideMaps Go.Maps Go.ChangeMaps

theorem make_old (B0 B : Nat) (lim : Int) (L : List Nd) (v : Value) (M1 M2 : Option Nat) (n : Nd) (i : Nat) (w : World) (h : SM 78 w B0 B lim L v M1 M2) (hn : n.ok) (hr : rfE L n = 0) (hp : pos n L = some i) :
    Calls Tryz.prog 28 #[.pointer (some ⟨B,0,none⟩),nodeV n] w fun e w' => e = .returned (.tuple #[.int .i64 ((i : Int) + 1),.int .i64 0]) /\ Below w.heap.size w w' := by
  have HRf : Hid (∀ W,Below w.heap.size w W -> Calls Tryz.prog 56 #[.pointer (some ⟨B,0,none⟩),nodeV n] W fun e w' => e = .returned (.int .i64 (rfE L n)) /\ Below W.heap.size W w') := fun W hb => refuse_any _ B0 B lim L v M1 M2 n W (h.below hb) hn
  have HS : Hid (SM 78 w B0 B lim L v M1 M2) := h; have HOK : Hid (n.ok) := hn; rw [hr] at HRf; clear h hn hr; have HP : Hid (pos n L = some i) := hp; clear hp; obtain ⟨op,u,a,b,c,num,nm⟩ := n
  go_enter Tryz.func28,Tryz.ntmps28
  go_wp2_with fail
  refine (HRf.out _ (bel1 _ _)).mono ?_; rintro e w1 ⟨rfl,hb0⟩; have hb : Below w.heap.size w w1 := (bel1 _ _).trans (hb0.mono (by simp)); have HB : Hid (Below w.heap.size w w1) := hb; have hS1 := HS.out.below hb; have hb1 : Below (w.heap.size + 1) (w.alloc (Obj.cells #[.int .i64 op,.int .i64 u,.int .i64 a,.int .i64 b,.int .i64 c,.int .u64 num,.string nm] 40 (0,0))) w1 := hb0.mono (by simp); have d0 : w1.cell? ⟨w.heap.size,0,none⟩ = some (.int .i64 op) := box_cells hb1 0; have d1 : w1.cell? ⟨w.heap.size,1,none⟩ = some (.int .i64 u) := box_cells hb1 1; have d2 : w1.cell? ⟨w.heap.size,2,none⟩ = some (.int .i64 a) := box_cells hb1 2; have d3 : w1.cell? ⟨w.heap.size,3,none⟩ = some (.int .i64 b) := box_cells hb1 3; have d4 : w1.cell? ⟨w.heap.size,4,none⟩ = some (.int .i64 c) := box_cells hb1 4; have d5 : w1.cell? ⟨w.heap.size,5,none⟩ = some (.int .u64 num) := box_cells hb1 5; have d6 : w1.cell? ⟨w.heap.size,6,none⟩ = some (.string nm) := box_cells hb1 6; obtain ⟨D,hm,hF⟩ := hS1.m1; have hrun := hF.look lawN Tryz.underlying75 hm ⟨op,u,a,b,c,num,nm⟩ HOK.out; have hrunD := hF.look lawN Tryz.underlying75 hm.drew ⟨op,u,a,b,c,num,nm⟩ HOK.out; have c2 : w1.cell? ⟨B,2,none⟩ = some (.map M1) := blk_cell hS1.blk 2; clear hS1 hm hF hb hb0 hb1; unfold numF at hrun hrunD; rw [HP.out] at hrun hrunD
  go_wp2
  first | go_region | skip
  all_goals go_wp2
  all_goals first | exact ⟨rfl,by first | exact HB.out | exact HB.out.drew⟩ | (go_ret2; exact ⟨rfl,by first | exact HB.out | exact HB.out.drew⟩) | (go_ret; exact ⟨rfl,by first | exact HB.out | exact HB.out.drew⟩)
theorem var_old (B0 B : Nat) (lim : Int) (L : List Nd) (v : Value) (M1 M2 : Option Nat) (t : Nat) (w : World) (h : SM 78 w B0 B lim L v M1 M2) (hB0 : B0 <= w.heap.size) (hl : L.length < 1000000000000) (hst : STO L) (h1 : 1 <= t) (h2 : t <= L.length) (h4 : (L.getD (t - 1) z0).op = 4) :
    Calls Tryz.prog 11 #[.pointer (some ⟨B,0,none⟩),.string (L.getD (t - 1) z0).name,.int .i64 (L.getD (t - 1) z0).w] w fun e w' => e = .returned (.tuple #[.int .i64 (t : Int),.int .i64 0]) /\ Below w.heap.size w w' := by
  obtain ⟨hr,hp⟩ := mk_var hst h1 h2 h4; have hok := h.okL _ (getD_in (L := L) (i := t - 1) (by omega)); have hsh := hst.pars.2 _ (getD_in (L := L) (i := t - 1) (by omega)); refine (var_any B w (fun n t' er w' => n = ⟨4,(L.getD (t - 1) z0).w,0,0,0,0,(L.getD (t - 1) z0).name⟩ -> t' = (t : Int) /\ er = 0 /\ Below w.heap.size w w') _ _ hok.w hok.name (fun n W hn hb => ?_)).mono fun e w' hA => ?_
  · by_cases e : n = ⟨4,(L.getD (t - 1) z0).w,0,0,0,0,(L.getD (t - 1) z0).name⟩
    · subst e
      refine (make_old B0 B lim L v M1 M2 _ (t - 1) W (h.below hb) hn hr hp).mono ?_; rintro e w' ⟨rfl,hb'⟩; exact ⟨_,_,rfl,fun _ => ⟨by omega,rfl,hb.trans (below_le' hb' hb.size)⟩⟩
    refine (make_any B0 B lim L v M1 M2 n W (h.below hb) (Nat.le_trans hB0 hb.size) hl hn).mono ?_; rintro e' w' ⟨rfl,_⟩; exact ⟨_,_,rfl,fun h => absurd h e⟩
  obtain ⟨t',er,rfl,hR⟩ := hA; obtain ⟨q1,q2,q3⟩ := hR rfl; exact ⟨by rw [q1,q2],q3⟩
theorem vals_ok {V : V9} (hV : VK V) (B0 B : Nat) (lim : Int) (L : List Nd) (v : Value) (M1 M2 : Option Nat) {aR aV : Option Addr} {cR cV : Nat} {rs : List Int} {xs : List Vl} (w : World) (hS : SM 78 w B0 B lim L v M1 M2) (hst : STO L) (hI : IR w aR rs) (hr : ∀ x ∈ rs,isT L x = true) (hrl : rs.length <= 1000000000000) (hVr : VR w aV xs) (hvl : xs.length <= 1000000000000) (hu : UNQ xs) (hg : ∀ x ∈ xs,nmB x.nm = true /\ x.nm.size <= 140737488355328 /\ okV x)
    (hfit : ∀ t,1 <= t -> t <= L.length -> (L.getD (t - 1) z0).op = 4 -> ∀ y ∈ xs,y.nm = (L.getD (t - 1) z0).name -> y.w = (L.getD (t - 1) z0).w) :
    Calls Tryz.prog 16 #[.pointer (some ⟨B,0,none⟩),.slice aR rs.length cR,.slice aV xs.length cV] w fun e w' => ∃ g2,e = .returned (.tuple #[.slice (some ⟨g2,0,none⟩) rs.length rs.length,.int .i64 0]) /\ UL w' g2 rs.length (fun j => ev V L (xM (tellF xs)) (rs.getD j 0).toNat) /\ Below w.heap.size w w' := by
  obtain ⟨hW,_,hroot,_⟩ := og_ok (R := fun _ => True) hst.pars.1 (toN rs) [] (PW.nil L) ⟨fun _ _ _ _ => Or.inl trivial,fun _ _ _ _ => Or.inl trivial⟩ (toN_b hr); obtain ⟨g0,hSR,_,_⟩ := hS.sr; have hx : ∀ x ∈ varsF L (og L [] (toN rs)),∃ t,1 <= t /\ t <= L.length /\ (L.getD (t - 1) z0).op = 4 /\ x.nm = (L.getD (t - 1) z0).name /\ x.w = (L.getD (t - 1) z0).w := fun x hx => by
    obtain ⟨t,ht,h4,rfl⟩ := G2.vars_in.1 hx; exact ⟨t,(hW.ob t ht).1,(hW.ob t ht).2,h4,rfl,rfl⟩
  have hU : ∀ s,0 <= ((tellF xs s).getD vZ).num /\ ((tellF xs s).getD vZ).num <= 18446744073709551615 := fun s => by
    cases ht : tellF xs s with
    | none => exact ⟨by decide,by decide⟩
    | some y =>
      have h9 := (hg y (G2.tell_some hu ht).1).2.2
      show 0 <= y.num /\ y.num <= _
      rcases h9 with ⟨_,h5,h6⟩ | ⟨_,_,_,h5⟩
      · omega
      unfold U at h5; omega
  refine (G2.values_any (cR := cR) (cV := cV) B0 B g0 lim L v M1 M2 (gG (vL V L) L (tellF xs)) w hS hst.pars.1 hI hr hrl hVr hvl hu.idx hg (fun x hx' => ?_) (fun x hx' y hy => ?_) hSR (ofw_of hst.pars.1 (vok_of hV hst.pars hS.okL) hU hW.ob)).mono ?_
  · obtain ⟨t,q1,q2,q4,e1,e2⟩ := hx x hx'
    rw [e1]; exact Nat.le_trans (hst.pars.2 _ (getD_in (by omega))).name (by omega)
  · obtain ⟨t,q1,q2,q4,e1,e2⟩ := hx x hx'
    obtain ⟨y1,y2⟩ := G2.tell_some hu hy; rw [e2]; exact hfit t q1 q2 q4 y y1 (y2.trans e1)
  rintro e w' ⟨g2,rfl,hul,hb⟩; refine ⟨g2,rfl,?_,hb⟩; have key : ∀ j,j < rs.length -> folN (gG (vL V L) L (tellF xs)) 0 (og L [] (toN rs)) (rs.getD j 0).toNat = ev V L (xM (tellF xs)) (rs.getD j 0).toNat := fun j hj => by
    have hm : rs.getD j 0 ∈ rs := by rw [List.getD_eq_getElem?_getD,List.getElem?_eq_getElem hj]; exact List.getElem_mem _
    exact fol_ev hst.pars.1 hW _ _ (Nat.le_refl _) (hroot _ (List.mem_map.2 ⟨_,hm,rfl⟩))
  obtain ⟨A,hA,h1,h2⟩ := hul.blk; exact ⟨⟨A,hA,h1,fun i hi => by rw [<- key i hi]; exact h2 i hi⟩⟩
end Go.Proofs.YtkpapgfbnledpaaGreatDoor.GP
