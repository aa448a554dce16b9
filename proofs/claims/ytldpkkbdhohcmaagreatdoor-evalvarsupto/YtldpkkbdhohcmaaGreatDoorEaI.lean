import Derived.Test.YtldpkkbdhohcmaaGreatDoorEaC
import Derived.Test.YtldpkkbdhohcmaaGreatDoorEvQ
import Derived.Test.YtldpkkbdhohcmaaGreatDoorTmPh
import Derived.Test.YtldpkkbdhohcmaaGreatDoorTlX
import Derived.Test.YtldpkkbdhohcmaaGreatDoorTlO
namespace Go.Proofs.YtldpkkbdhohcmaaGreatDoor.G3
open Go.Proofs.YtldpkkbdhohcmaaGreatDoor
open Go.ChangeShapes Go.WideShapes Go.ChangeAt Go.RowKit Go.Lib Go.Tm Go.Bw Go.Bn Go.WideMaps Go.Maps Go.ChangeMaps Go.Shelf

def intV (xs : List Int) : List Value := xs.map (Value.int .i64)
theorem ir_own {w : World} {B n c : Nat} {ad : Option Addr} {xs : List Int} (h : w.ownsRow B 3 1 (.slice ad n c) n (intV xs)) (hn : xs.length = n) : IR w ad xs := by
  subst hn; obtain ⟨ad',c',e,hI⟩ := ir_ints h; cases e; exact hI
set_option maxRecDepth 100000 in
/-- append(ys,xs...),where ys is a row of the caller's own -/
theorem run_app {W : World} {B n : Nat} {v : Value} {ys : List Int} (hown : W.ownsRow B 3 1 v n (intV ys)) (hv : ∃ g cap,v = .slice (some ⟨g,0,none⟩) n cap /\ n <= cap) (hB : B <= W.heap.size) {ad : Option Addr} {cp : Nat} {xs : List Int} (h : IR W ad xs) (hl : n + xs.length <= 17592186044416) (ty : TypeId) :
    ∃ g cap w',(Builtin.append_ #[22,22] ty #[v,.slice ad xs.length cp]).run Tryz.prog W = .ok (.slice (some ⟨g,0,none⟩) (n + xs.length) cap) w' /\ n + xs.length <= cap /\ w'.ownsRow B 3 1 (.slice (some ⟨g,0,none⟩) (n + xs.length) cap) (n + xs.length) (intV (ys ++ xs)) /\ Below B W w' := by
  obtain ⟨i0,hi,hz0,hz1,hz2⟩ := info_parts (P := Tryz.prog) (e := 3) (z := .int .i64 0) (size := 1) (bytes := 8) (by kernel_rfl)
  by_cases h0 : 0 < xs.length
  · obtain ⟨b,o,rfl,hb,hc⟩ := h h0
    obtain ⟨g,cap,w',h1,h2,h3,h4,h5⟩ := run_append_lies (P := Tryz.prog) W 22 ty B 3 i0 (.int .i64 0) 1 8 Tryz.underlying22 hi hz0 hz1 hz2 rfl (by decide) v n (intV ys) hown ⟨b,o,none⟩ xs.length cp (intV xs) (by unfold intV; simp) (fun j u hu => by
      unfold intV at hu; have hj : j < xs.length := by
        have := (List.getElem?_eq_some_iff.1 hu).1
        simpa using this
      rw [Addr.add_lit,hc j hj,<- hu,List.getElem?_map,List.getElem?_eq_getElem hj,getD_of _ _ _ hj]
      rfl) (fun u hu => by obtain ⟨y,_,rfl⟩ := List.mem_map.1 hu; rfl) h0 (by unfold maxLen; omega) (by omega) hB _ rfl
    have hcap : n + xs.length <= cap := by
      rcases h2.2 with ⟨e,_⟩ | ⟨_,_,_,e,_,_,h7,_⟩
      · cases e
      cases e; exact h7
    refine ⟨g,cap,w',h1,hcap,by unfold intV at h2 ⊢; rw [List.map_append]; exact h2,⟨h3.os,h3.tape,h3.output,h3.size,fun k hk => h3.block k (Nat.lt_of_lt_of_le hk hB) (fun e => ?_)⟩⟩
    rcases hown.2 with ⟨e0,_⟩ | ⟨g0,cap0,cur,e0,hb0,_⟩
    · rw [e0] at e; cases e
    rw [e0] at e; have e2 : k = g0 := by simpa [Value.ownBlock] using e
    omega
  have e : xs = [] := List.eq_nil_of_length_eq_zero (by omega); subst e; obtain ⟨g,cap,rfl,hgc⟩ := hv; refine ⟨g,cap,W,run_append_nothing _ _ _ _ _ i0 Tryz.underlying22 hi _ n cap hgc _ ?_,by simpa using hgc,by simpa using hown,Below.refl _ _⟩; cases ad with
  | none => exact Src.ofNil _ Tryz.underlying22 _
  | some a => exact Src.ofSlice _ Tryz.underlying22 a 0 _ [] (by simp) (fun j u hu => by simp at hu) (fun u hu => by simp at hu)
/-- the same at the walk's list -/
theorem wpList_app {ops : Array Oper} {rest : List Oper} {o : Oper} {a : Act} {Q : Exit -> Act -> World -> Prop} (hgd : o.guard = none) (s x : Operand)
    (ho : o.op = .call { callee := .builtin .append,args := #[s,x],argTypes := #[22,22] }) (W : World) (B n : Nat) (v : Value) (ys : List Int) (hown : W.ownsRow B 3 1 v n (intV ys)) (hv : ∃ g cap,v = .slice (some ⟨g,0,none⟩) n cap /\ n <= cap) (hB : B <= W.heap.size) (ad : Option Addr) (cp : Nat) (xs : List Int) (m : Nat) (hm : xs.length = m) (hs : a.eval s = v) (hx : a.eval x = .slice ad m cp) (hi : IR W ad xs) (k : Nat) (hk : n + m = k) (hl : k <= 17592186044416)
    (h : ∀ g cap w',k <= cap -> w'.ownsRow B 3 1 (.slice (some ⟨g,0,none⟩) k cap) k (intV (ys ++ xs)) -> Below B W w' -> wpList Tryz.prog ops Q rest (a.put o.dst (.slice (some ⟨g,0,none⟩) k cap)) w') : wpList Tryz.prog ops Q (o :: rest) a W := by
  subst hm hk; refine wpList_plain hgd fun _ hK => ?_
  obtain ⟨g,cap,w',hr,h1,h2,h3⟩ := run_app (cp := cp) hown hv hB hi hl o.type; unfold Oper.wp execOp; simp only [ho,resolve,invoke,builtin,Sem.run_bind,Sem.run_pure,Result.andThen_ok,List.map_toArray,List.map_cons,List.map_nil,hs,hx,hr]; exact hK _ _ (h g cap w' h1 h2 h3)
/-- what the law's calls answer of a text -/
structure VSS (w2 : World) (pB pA : Option Addr) (xs : List Int) (vs : List Vl) (cd : Int) (fz : Int -> Int × Int × Int × Int) : Prop where
  va : ∀ W a c,Below w2.heap.size w2 W -> IR W a xs -> Calls Tryz.prog 6 #[.pointer pB,.slice a xs.length c] W fun e w' => ∃ aS cS,e = .returned (.tuple #[.slice aS vs.length cS,.int .i64 cd]) /\ VR w' aS vs /\ Below W.heap.size W w'
  rva : ∀ W a c,Below w2.heap.size w2 W -> IR W a xs -> Calls Tryz.prog 7 #[.pointer pA,.slice a xs.length c] W fun e w' => ∃ aS cS,e = .returned (.tuple #[.slice aS vs.length cS,.int .i64 cd]) /\ VR w' aS vs /\ Below W.heap.size W w'
  sz : ∀ W,∀ x ∈ xs,Below w2.heap.size w2 W -> Calls Tryz.prog 10 #[.pointer pB,.int .i64 x] W fun e w' => e = .returned (.tuple #[.int .i64 (fz x).1,.int .u64 (fz x).2.1,.int .i64 (fz x).2.2.1,.int .i64 (fz x).2.2.2]) /\ Below W.heap.size W w'
  rsz : ∀ W,∀ x ∈ xs,Below w2.heap.size w2 W -> Calls Tryz.prog 11 #[.pointer pA,.int .i64 x] W fun e w' => e = .returned (.tuple #[.int .i64 (fz x).1,.int .u64 (fz x).2.1,.int .i64 (fz x).2.2.1,.int .i64 (fz x).2.2.2]) /\ Below W.heap.size W w'
  vl : vs.length <= 1000000000000
theorem sum_len (rs odd : List Int) {q m : Nat} (h1 : rs.length = q) (h2 : odd.length = m) : (rs ++ odd).length = q + m := by rw [List.length_append,h1,h2]
set_option maxHeartbeats 8000000 in
set_option maxRecDepth 100000 in
theorem vars_law (s : ByteArray) {aO : Option Addr} {no cO : Nat} {odd : List Int} (w : World) (hno : odd.length = no) (hIo : IR w aO odd) (hol : no <= 1048576)
    (hLv : ∀ W,Below w.heap.size w W -> Calls Tryz.prog 5 #[] W fun e w' => e = .returned (.bool true) /\ Below W.heap.size W w')
    (hSt : Calls Tryz.prog 4 #[.string s,.int .i64 0] w fun e w' => Below w.heap.size w w' /\ ∃ (pB pA : Option Addr) (aR : Option Addr) (q cR : Nat) (rs : List Int) (vs : List Vl) (cd : Int) (sz : Int -> Int × Int × Int × Int),e = .returned (.tuple #[.pointer pB,.pointer pA,.slice aR q cR,.bool true]) /\ rs.length = q /\ q <= 1048577 /\ IR w' aR rs /\ VSS w' pB pA (rs ++ odd) vs cd sz) :
    Calls Tryz.prog 3 #[.string s,.slice aO no cO] w fun e w' => e = .returned (.bool true) /\ Below w.heap.size w w' := by
  have HNo : Hid (∀ (e : Int) (W : World),Calls Tryz.prog 8 #[.int .i64 e] W fun E w' => E = .returned (.int .i64 e) /\ w' = W) := no_any; have HLv := Lib.hid hLv; have HSt := Lib.hid hSt; have HIO : Hid (IR w aO odd) := hIo; have HNO : Hid (odd.length = no) := hno
  generalize hPP : (fun (e : Ending) (w' : World) => e = .returned (.bool true) /\ Below w.heap.size w w') = PP
  have HPP : Hid (∀ w',Below w.heap.size w w' -> PP (.returned (.bool true)) w') := fun w' h => by rw [<- hPP]; exact ⟨rfl,h⟩
  clear hPP hLv hSt hIo hno
  go_enter Tryz.func3,Tryz.ntmps3
  go_wp2_with fail
  refine HSt.out.mono ?_; rintro e w2 ⟨hb2,pB,pA,aR,q,cR,rs,vs,cd,sz,rfl,hrq,hq,hir,hv⟩; have H2 : Hid (Below w.heap.size w w2 /\ IR w2 aR rs) := ⟨hb2,hir⟩; have HV : Hid (VSS w2 pB pA (rs ++ odd) vs cd sz) := hv; have HRQ : Hid (rs.length = q) := hrq; clear hb2 hir hv hrq HSt
  go_wp2_with fail
  refine (HLv.out w2 H2.out.1).mono ?_; rintro e w3 ⟨rfl,hb3⟩; have H3 : Hid (Below w2.heap.size w2 w3 /\ IR w3 aR rs /\ Below w.heap.size w w3) := ⟨hb3,H2.out.2.below hb3,H2.out.1.trans (below_le' hb3 H2.out.1.size)⟩; clear hb3 HLv
  go_wp2_with (at_builtin; refine wpList_app rfl _ _ rfl (w3.alloc (.cells #[] 3)) w3.heap.size 0 _ [] (World.ownsRow_made w3 #[] 0 (Nat.le_refl _) (by unfold maxLen; omega) rfl) ⟨w3.heap.size,0,rfl,Nat.le_refl _⟩ (by simp) aR cR rs q HRQ.out rfl rfl (H3.out.2.1.below (bel1 _ _)) q (Nat.zero_add q) (by omega) ?_; intro g4 cap4 w4 hc4 ho4 hb4; have H4 : Hid (w4.ownsRow w3.heap.size 3 1 (.slice (some ⟨g4,0,none⟩) q cap4) q (intV ([] ++ rs)) /\ Below w3.heap.size w3 w4 /\ q <= cap4) := ⟨ho4,(bel1 w3 _).trans hb4,hc4⟩; clear hc4 ho4 hb4; refine Hid.out ?_)
  refine Lib.hid ?_; have hw34 := H4.out.2.1.size
  go_wp2_with (at_builtin; refine wpList_app rfl _ _ rfl w4 w3.heap.size q _ ([] ++ rs) H4.out.1 ⟨g4,cap4,rfl,H4.out.2.2⟩ hw34 aO cO odd no HNO.out rfl rfl (HIO.out.below (H3.out.2.2.trans (below_le' H4.out.2.1 H3.out.2.2.size))) (q + no) rfl (by omega) ?_; intro g5 cap5 w5 hc5 ho5 hb5; have H5 : Hid (w5.ownsRow w3.heap.size 3 1 (.slice (some ⟨g5,0,none⟩) (q + no) cap5) (q + no) (intV ([] ++ rs ++ odd)) /\ Below w3.heap.size w3 w5) := ⟨ho5,H4.out.2.1.trans hb5⟩; clear hc5 ho5 hb5; refine Hid.out ?_)
  refine Lib.hid ?_; have HI5 : Hid (IR w5 (some ⟨g5,0,none⟩) (rs ++ odd)) := by
    have h1 := H5.out.1; rw [List.nil_append] at h1; exact ir_own h1 (sum_len rs odd HRQ.out HNO.out)
  have HB5 : Hid (Below w2.heap.size w2 w5) := H3.out.1.trans (below_le' H5.out.2 H3.out.1.size); have HL5 : Hid ((rs ++ odd).length = q + no) := sum_len rs odd HRQ.out HNO.out
  generalize rs ++ odd = xs at *
  obtain ⟨N,hN⟩ : ∃ N,q + no = N := ⟨_,rfl⟩; have HXN : Hid (xs.length = N) := by show _ = _; rw [<- hN]; exact HL5.out
  have hNl : N <= 2097153 := by omega
  rw [hN]; clear hN H4 H5 HL5 hw34; obtain ⟨nv,hnv⟩ : ∃ nv,vs.length = nv := ⟨_,rfl⟩; have HVA : Hid (∀ W c,Below w2.heap.size w2 W -> IR W (some ⟨g5,0,none⟩) xs -> Calls Tryz.prog 6 #[.pointer pB,.slice (some ⟨g5,0,none⟩) N c] W fun e w' => ∃ aS cS,e = .returned (.tuple #[.slice aS nv cS,.int .i64 cd]) /\ VR w' aS vs /\ Below W.heap.size W w') := fun W c h1 h2 => by
    have h3 := HV.out.va W (some ⟨g5,0,none⟩) c h1 h2; rw [HXN.out,hnv] at h3; exact h3
  have HRV : Hid (∀ W c,Below w2.heap.size w2 W -> IR W (some ⟨g5,0,none⟩) xs -> Calls Tryz.prog 7 #[.pointer pA,.slice (some ⟨g5,0,none⟩) N c] W fun e w' => ∃ aS cS,e = .returned (.tuple #[.slice aS nv cS,.int .i64 cd]) /\ VR w' aS vs /\ Below W.heap.size W w') := fun W c h1 h2 => by
    have h3 := HV.out.rva W (some ⟨g5,0,none⟩) c h1 h2; rw [HXN.out,hnv] at h3; exact h3
  have HSV : Hid (∀ W a1 c1 a2 c2,VR W a1 vs -> VR W a2 vs -> Calls Tryz.prog 9 #[.slice a1 nv c1,.slice a2 nv c2] W fun e w' => e = .returned (.bool true) /\ ∃ n,w' = W.drewN n) := fun W a1 c1 a2 c2 h1 h2 => by
    have h3 := svars_any (cX := c1) (cY := c2) W h1 h2 (by have := HV.out.vl; omega); rw [hnv] at h3; exact h3
  clear hnv
  go_wp2_with fail
  refine (HVA.out w5 cap5 HB5.out HI5.out).mono ?_; rintro e w6 ⟨aS,cS,rfl,hv6,hb6⟩; have H6 : Hid (Below w2.heap.size w2 w6 /\ IR w6 (some ⟨g5,0,none⟩) xs /\ VR w6 aS vs) := ⟨HB5.out.trans (below_le' hb6 HB5.out.size),HI5.out.below hb6,hv6⟩; clear hv6 hb6 HVA
  go_wp2_with fail
  refine (HRV.out w6 cap5 H6.out.1 H6.out.2.1).mono ?_; rintro e w7 ⟨aT,cT,rfl,hv7,hb7⟩; have H7 : Hid (Below w2.heap.size w2 w7 /\ IR w7 (some ⟨g5,0,none⟩) xs /\ VR w7 aS vs /\ VR w7 aT vs) := ⟨H6.out.1.trans (below_le' hb7 H6.out.1.size),H6.out.2.1.below hb7,H6.out.2.2.below hb7,hv7⟩; clear hv7 hb7 HRV
  go_wp2_with fail
  refine (HNo.out cd w7).mono ?_; rintro e wn ⟨rfl,hwn⟩; subst wn
  go_wp2_with fail
  refine (HSV.out w7 aS cS aT cT H7.out.2.2.1 H7.out.2.2.2).mono ?_; rintro e w8 ⟨rfl,dn,hw8⟩; have H8 : Hid (Below w2.heap.size w2 w8 /\ IR w8 (some ⟨g5,0,none⟩) xs) := by
    subst hw8; exact ⟨H7.out.1.trans (drw (Below.refl _ _) _),H7.out.2.1.below (drw (Below.refl _ _) _)⟩
  clear hw8 HSV
  go_wp2_with fail
  go_loopg [14] N (fun gk s14 wr => ∃ i : Nat,s14 = .int .i64 (i : Int) /\ i + gk = N /\ Below w8.heap.size w8 wr)
  case atStart => exact ⟨0,rfl,by omega,Below.refl _ _⟩
  case round =>
    obtain ⟨i,rfl,hi,hb⟩ := hrel; have HB : Hid (Below w8.heap.size w8 wr) := hb; clear hb
    by_cases hlt : i < N
    · have hli : i < xs.length := by rw [HXN.out]; exact hlt
      have HBr : Hid (Below w2.heap.size w2 wr) := H8.out.1.trans (below_le' HB.out H8.out.1.size); obtain ⟨b9,o9,e9,hb9,hc9⟩ := (H8.out.2.below HB.out) (by omega); cases e9; have c1 : wr.cell? ⟨g5,0 + i,none⟩ = some (.int .i64 (xs.getD i 0)) := hc9 i hli; rw [Nat.zero_add] at c1; have hxm : xs.getD i 0 ∈ xs := by rw [List.getD_eq_getElem?_getD,List.getElem?_eq_getElem hli]; exact List.getElem_mem _
      obtain ⟨zz,hzz⟩ : ∃ zz,sz (xs.getD i 0) = zz := ⟨_,rfl⟩; have HSZ : Hid (∀ W,Below w2.heap.size w2 W -> Calls Tryz.prog 10 #[.pointer pB,.int .i64 (xs.getD i 0)] W fun e w' => e = .returned (.tuple #[.int .i64 zz.1,.int .u64 zz.2.1,.int .i64 zz.2.2.1,.int .i64 zz.2.2.2]) /\ Below W.heap.size W w') := fun W h => by
        have h3 := HV.out.sz W _ hxm h; rw [hzz] at h3; exact h3
      have HRZ : Hid (∀ W,Below w2.heap.size w2 W -> Calls Tryz.prog 11 #[.pointer pA,.int .i64 (xs.getD i 0)] W fun e w' => e = .returned (.tuple #[.int .i64 zz.1,.int .u64 zz.2.1,.int .i64 zz.2.2.1,.int .i64 zz.2.2.2]) /\ Below W.heap.size W w') := fun W h => by
        have h3 := HV.out.rsz W _ hxm h; rw [hzz] at h3; exact h3
      have HCX : Hid (∀ W,Below wr.heap.size wr W -> W.cell? ⟨g5,i,none⟩ = some (.int .i64 (xs.getD i 0))) := fun W h => (World.cell?_of_block (a := ⟨g5,i,none⟩) (h.block g5 hb9)).trans c1
      have q1 : (i : Int) < (N : Int) := by omega
      clear hc9 hxm hli hzz
      generalize xs.getD i 0 = x at *
      obtain ⟨z1,z2,z3,z4⟩ := zz
      dsimp only at HSZ HRZ
      go_wp2_with fail
      refine (HSZ.out wr HBr.out).mono ?_; rintro e w9 ⟨rfl,hb9'⟩; have c2 : w9.cell? ⟨g5,i,none⟩ = some (.int .i64 x) := HCX.out w9 hb9'; have H9 : Hid (Below w2.heap.size w2 w9 /\ Below w8.heap.size w8 w9) := ⟨HBr.out.trans (below_le' hb9' HBr.out.size),HB.out.trans (below_le' hb9' HB.out.size)⟩; clear hb9' HSZ HCX c1
      go_wp2_with fail
      refine (HRZ.out w9 H9.out.1).mono ?_; rintro e w10 ⟨rfl,hb10⟩; have H10 : Hid (Below w8.heap.size w8 w10) := H9.out.2.trans (below_le' hb10 H9.out.2.size); clear hb10 HRZ c2
      go_wp2_with fail
      refine (HNo.out z4 w10).mono ?_; rintro e wn ⟨rfl,hwn⟩; subst wn
      go_wp2_with fail
      go_roundg (gk - 1)
      case measure => omega
      case rel => exact ⟨i + 1,by simp,by omega,H10.out⟩
    obtain rfl : i = N := by omega
    have HF := HPP.out _ (H2.out.1.trans (below_le' (H8.out.1.trans (below_le' HB.out H8.out.1.size)) H2.out.1.size))
    go_wp2_with fail
    first
      | exact HF
      | (go_ret; exact HF)
end Go.Proofs.YtldpkkbdhohcmaaGreatDoor.G3
namespace Go.Proofs.YtldpkkbdhohcmaaGreatDoor.G3
open Go.Proofs.YtldpkkbdhohcmaaGreatDoor
open Go.ChangeShapes Go.WideShapes Go.ChangeAt Go.RowKit Go.Lib Go.Tm Go.Bw Go.Bn Go.WideMaps Go.Maps Go.ChangeMaps Go.Shelf

/-- the sum as the document makes it: capped -/
theorem cap_lt (x y : Nat) (hx : x <= 18446744073709551615) (hy : y <= 18446744073709551615) : (18446744073709551615 < x + y -> IntKind.u64.wrap ((x : Int) + (y : Int)) < (x : Int) /\ capU x y = 18446744073709551615) /\ (¬ 18446744073709551615 < x + y -> IntKind.u64.wrap ((x : Int) + (y : Int)) = ((x + y : Nat) : Int) /\ ¬ ((x + y : Nat) : Int) < (x : Int) /\ capU x y = x + y) := by
  have hw : IntKind.u64.wrap ((x : Int) + (y : Int)) = ((x : Int) + (y : Int)) % 18446744073709551616 := by simp [IntKind.wrap,IntKind.bits,IntKind.signed]
  rw [hw]; unfold capU; refine ⟨fun h => ⟨by omega,by rw [if_pos h]⟩,fun h => ⟨by omega,by omega,by rw [if_neg h]⟩⟩
/-- one part more,as the document adds it: none where there is none -/
def addP (z : Nat × Nat) (p : Nat) (f : Nat -> Nat × Nat) : Nat × Nat := if p = 0 then z else (capU z.1 (f p).1,if z.2 < (f p).2 then (f p).2 else z.2)
/-- the document's size of a term is the package's -/
theorem szG_add {L : List Nd} {t : Nat} {f : Nat -> Nat × Nat} (h0 : f 0 = (0,0)) (hle : ∀ y,(f y).1 <= 18446744073709551615) :
    szG L t f = ((addP (addP (addP (1,0) (pA L t) f) (pB L t) f) (pC L t) f).1,(addP (addP (addP (1,0) (pA L t) f) (pB L t) f) (pC L t) f).2 + 1) := by
  have ha := hle (pA L t); have hb := hle (pB L t); have hc := hle (pC L t); have za : pA L t = 0 -> f (pA L t) = (0,0) := fun h => by rw [h,h0]
  have zb : pB L t = 0 -> f (pB L t) = (0,0) := fun h => by rw [h,h0]
  have zc : pC L t = 0 -> f (pC L t) = (0,0) := fun h => by rw [h,h0]
  unfold szG addP undZ besZ
  generalize pA L t = a at *
  generalize pB L t = b at *
  generalize pC L t = c at *
  generalize f a = A at *
  generalize f b = B at *
  generalize f c = C at *
  obtain ⟨a1,a2⟩ := A; obtain ⟨b1,b2⟩ := B; obtain ⟨c1,c2⟩ := C
  dsimp only at *
  by_cases e1 : a = 0 <;> by_cases e2 : b = 0 <;> by_cases e3 : c = 0 <;>
    simp only [e1,e2,e3,if_true,if_false,true_implies,false_implies,Prod.mk.injEq] at za zb zc ⊢ <;>
    (unfold capU; refine ⟨?_,?_⟩ <;> repeat' split) <;> omega
/-- numbers,in a list of n places -/
structure DL (w : World) (g n : Nat) (f : Nat -> Nat) : Prop where
  blk : ∃ A,w.heap[g]? = some (.cells A 3 (0,0)) /\ A.size = n /\ ∀ i,i < n -> A[i]? = some (.int .i64 ((f i : Nat) : Int))
theorem DL.lt {w : World} {g n : Nat} {f : Nat -> Nat} (h : DL w g n f) : g < w.heap.size := by
  obtain ⟨A,hA,_⟩ := h.blk; exact (Array.getElem?_eq_some_iff.1 hA).1
theorem DL.keep {w w' : World} {g n : Nat} {f : Nat -> Nat} (h : DL w g n f) (hb : w'.heap[g]? = w.heap[g]?) : DL w' g n f := by
  obtain ⟨A,hA,h1⟩ := h.blk; exact ⟨A,hb.trans hA,h1⟩
theorem DL.below {w w' : World} {g n : Nat} {f : Nat -> Nat} (h : DL w g n f) (hb : Below w.heap.size w w') : DL w' g n f := h.keep (hb.block g h.lt)
theorem DL.at_ {w : World} {g n : Nat} {f : Nat -> Nat} (h : DL w g n f) {i : Nat} (hi : i < n) : w.cell? ⟨g,i,none⟩ = some (.int .i64 ((f i : Nat) : Int)) /\ w.frozen? ⟨g,i,none⟩ = false := by
  obtain ⟨A,hA,h1,h2⟩ := h.blk; exact ⟨(blk_cell hA _).trans (h2 i hi),by simp [World.frozen?,hA]⟩
theorem DL.put {w : World} {g n : Nat} {f : Nat -> Nat} (h : DL w g n f) {i : Nat} (z : Nat) (hi : i < n) : DL (w.setCell ⟨g,i,none⟩ (.int .i64 ((z : Nat) : Int))) g n (fun y => if y = i then z else f y) := by
  obtain ⟨A,hA,h1,h2⟩ := h.blk; refine ⟨_,heap_setCell_same _ _ _ _ _ _ hA,by simpa using h1,fun k hk => ?_⟩
  by_cases e : k = i
  · subst e
    rw [if_pos rfl,Array.getElem?_setIfInBounds_self_of_lt (by omega)]
  rw [if_neg e,Array.getElem?_setIfInBounds_ne (by omega)]; exact h2 k hk
theorem dmade (w : World) (n : Nat) : DL (w.alloc (.cells (madeCells #[.int .i64 0] (n * 1)) 3)) w.heap.size n (fun _ => 0) := by
  refine ⟨_,heap_alloc_new w _,by simp [madeCells],fun i hi => ?_⟩; unfold madeCells; rw [Array.getElem?_map,Array.getElem?_range,if_pos (by omega)]
  simp
  try (have e1 : i % 1 = 0 := by omega
       simp [e1])
theorem szF_take {L : List Nd} {O : List Nat} {i : Nat} (h : i < O.length) : szF L (O.take (i + 1)) = fun y => if y = O.getD i 0 then szG L (O.getD i 0) (szF L (O.take i)) else szF L (O.take i) y := by
  rw [take_nat h]; unfold szF; rw [folN_snoc]
  rfl
theorem szF_zero {L : List Nd} {O : List Nat} (hob : ∀ t ∈ O,1 <= t /\ t <= L.length) (i : Nat) : szF L (O.take i) 0 = (0,0) := by
  unfold szF; exact folN_out (fun h => by have := hob 0 (List.mem_of_mem_take h); omega)
theorem DL.drew {w : World} {g n : Nat} {f : Nat -> Nat} (h : DL w g n f) : DL w.drew g n f := h.keep rfl
/-- what stands between two rounds of the document's Size -/
structure RZ (w1 : World) (gT m : Nat) (f : Nat -> Nat × Nat) (W : World) : Prop where
  tl : UL W gT m (fun y => (f y).1)
  dl : DL W (gT + 1) m (fun y => (f y).2)
  bel : Below gT w1 W
  sz : gT + 2 <= W.heap.size
theorem RZ.over {w1 W W' : World} {gT m : Nat} {f : Nat -> Nat × Nat} (h : RZ w1 gT m f W) (hb : Below W.heap.size W W') : RZ w1 gT m f W' :=
  ⟨h.tl.below hb,h.dl.below hb,h.bel.trans (below_le' hb (by have := h.sz; omega)),Nat.le_trans h.sz hb.size⟩
theorem RZ.put {w1 W : World} {gT m : Nat} {f : Nat -> Nat × Nat} (h : RZ w1 gT m f W) {t : Nat} (z : Nat × Nat) (ht : t < m) : RZ w1 gT m (fun y => if y = t then z else f y) ((W.setCell ⟨gT,t,none⟩ (.int .u64 ((z.1 : Nat) : Int))).setCell ⟨gT + 1,t,none⟩ (.int .i64 ((z.2 : Nat) : Int))) := by
  have h1 := h.tl.put z.1 ht; have h2 := (h.dl.keep (heap_setCell_other _ _ _ _ (show gT + 1 ≠ gT by omega))).put z.2 ht (w := W.setCell ⟨gT,t,none⟩ (.int .u64 ((z.1 : Nat) : Int))); refine ⟨?_,?_,below_set (below_set h.bel (Nat.le_refl _) _) (by show gT <= gT + 1; omega) _,by simpa using h.sz⟩
  · have h3 := h1.keep (heap_setCell_other _ _ _ _ (show gT ≠ gT + 1 by omega)) (w' := (W.setCell ⟨gT,t,none⟩ (.int .u64 ((z.1 : Nat) : Int))).setCell ⟨gT + 1,t,none⟩ (.int .i64 ((z.2 : Nat) : Int)))
    have e : (fun y => if y = t then z.1 else (f y).1) = (fun y => (if y = t then z else f y).1) := by funext y; split <;> rfl
    rw [<- e]; exact h3
  have e : (fun y => if y = t then z.2 else (f y).2) = (fun y => (if y = t then z else f y).2) := by funext y; split <;> rfl
  rw [<- e]; exact h2
end Go.Proofs.YtldpkkbdhohcmaaGreatDoor.G3
namespace Go.Proofs.YtldpkkbdhohcmaaGreatDoor.G3
open Go.Proofs.YtldpkkbdhohcmaaGreatDoor
open Go.ChangeShapes Go.WideShapes Go.ChangeAt Go.RowKit Go.Lib Go.Tm Go.Bw Go.Bn Go.WideMaps Go.Maps Go.ChangeMaps Go.Shelf

theorem results_tmp4 {fn : Func} {t u v s : Tmp} (h : fn.results = #[.tmp t,.tmp u,.tmp v,.tmp s]) (tmps : Array Value) (P : Program) (w : World) :
    (results fn tmps).run P w = .ok (.tuple #[tmps.getD t undef,tmps.getD u undef,tmps.getD v undef,tmps.getD s undef]) w := by
  simp [results,h]
/-- the parts one behind the other -/
def zcF (f : Nat -> Nat × Nat) (pz : Nat -> Nat) : Nat -> Nat × Nat
  | 0 => (1,0)
  | k + 1 => addP (zcF f pz k) (pz k) f
theorem addP_le {z : Nat × Nat} {p : Nat} {f : Nat -> Nat × Nat} (h : z.1 <= 18446744073709551615) : (addP z p f).1 <= 18446744073709551615 := by
  unfold addP
  split
  · exact h
  exact capU_le _ _
theorem zcF_le (f : Nat -> Nat × Nat) (pz : Nat -> Nat) : ∀ k,(zcF f pz k).1 <= 18446744073709551615
  | 0 => by show 1 <= _; omega
  | k + 1 => addP_le (zcF_le f pz k)
theorem addP_d {z : Nat × Nat} {p m : Nat} {f : Nat -> Nat × Nat} (h : z.2 <= m) (hf : ∀ y,(f y).2 <= m) : (addP z p f).2 <= m := by
  unfold addP
  split
  · exact h
  have := hf p
  dsimp only
  split <;> omega
theorem zcF_d (f : Nat -> Nat × Nat) (pz : Nat -> Nat) {m : Nat} (hf : ∀ y,(f y).2 <= m) : ∀ k,(zcF f pz k).2 <= m
  | 0 => Nat.zero_le _
  | k + 1 => addP_d (zcF_d f pz hf k) hf
set_option maxHeartbeats 16000000 in
set_option maxRecDepth 100000 in
theorem rsize_ok {p t : Nat} {adL : Option Addr} {nL cL : Nat} {L : List Nd} {O : List Nat} (w : World) (hnb : nL <= 1000000000000) (hQ : SQ w p adL nL cL L) (hP : PAR L) (hob : ∀ t ∈ O,1 <= t /\ t <= L.length) (ht : t ∈ O) (hl : O.length <= 1000000000000)
    (hO : ∀ W cp,Below w.heap.size w W -> IR W (some ⟨w.heap.size,0,none⟩) [(t : Int)] -> Calls Tryz.prog 21 #[.pointer (some ⟨p,0,none⟩),.slice (some ⟨w.heap.size,0,none⟩) 1 cp] W fun e w' => ∃ aO cO,e = .returned (.tuple #[.slice aO O.length cO,.int .i64 0]) /\ OR w' aO O /\ Below W.heap.size W w') :
    Calls Tryz.prog 11 #[.pointer (some ⟨p,0,none⟩),.int .i64 (t : Int)] w fun e w' => e = .returned (.tuple #[.int .i64 ((O.length : Nat) : Int),.int .u64 (((szF L O t).1 : Nat) : Int),.int .i64 (((szF L O t).2 : Nat) : Int),.int .i64 0]) /\ Below w.heap.size w w' := by
  obtain ⟨zx,hzx⟩ : ∃ zx : Int,(((szF L O t).1 : Nat) : Int) = zx := ⟨_,rfl⟩; obtain ⟨zd,hzd⟩ : ∃ zd : Int,(((szF L O t).2 : Nat) : Int) = zd := ⟨_,rfl⟩; have HZX : Hid (((((szF L O t).1 : Nat) : Int) = zx) /\ ((((szF L O t).2 : Nat) : Int) = zd)) := ⟨hzx,hzd⟩; rw [hzx,hzd]; clear hzx hzd; obtain ⟨n,hn⟩ : ∃ n,O.length = n := ⟨_,rfl⟩; have HN : Hid (O.length = n) := hn
  generalize hPP : (fun (e : Ending) (w' : World) => e = .returned (.tuple #[.int .i64 ((O.length : Nat) : Int),.int .u64 zx,.int .i64 zd,.int .i64 0]) /\ Below w.heap.size w w') = PP
  have HPP : Hid (∀ w',Below w.heap.size w w' -> PP (.returned (.tuple #[.int .i64 (n : Int),.int .u64 zx,.int .i64 zd,.int .i64 0])) w') := fun w' h => by rw [<- hPP,hn]; exact ⟨rfl,h⟩
  rw [hn] at hl hO; have HO := Lib.hid hO; have HQ : Hid (SQ w p adL nL cL L) := hQ; have HOB : Hid (∀ t ∈ O,1 <= t /\ t <= L.length) := hob; have HPR : Hid (PAR L) := hP; have htL : t <= nL := by have := (hob t ht).2; have := hQ.ln; omega
  clear hPP hn hO hQ hob hP ht; obtain ⟨i0,hi0,hz0,hz1,hz2⟩ := info_parts (P := Tryz.prog) (e := 36) (z := .int .u64 0) (size := 1) (bytes := 8) (by kernel_rfl); have eM1 : ∀ W : World,(Instr.makeSlice 48 (.int .i64 ((nL : Int) + 1)) (.int .i64 ((nL : Int) + 1))).run Tryz.prog W = .ok (.slice (some ⟨W.heap.size,0,none⟩) (nL + 1) (nL + 1)) (W.alloc (.cells (madeCells (Value.int .u64 0).cells ((nL + 1) * 1)) 36)) := fun W => by
    have h7 := run_make (P := Tryz.prog) (w := W) 48 36 i0 (.int .u64 0) Tryz.underlying48 hi0 hz0 .i64 .i64 ((nL : Int) + 1) ((nL : Int) + 1) (by omega) (by omega) (by rw [hz2]; omega) (by omega); rw [hz1] at h7; exact h7
  obtain ⟨i1,hi1,hy0,hy1,hy2⟩ := info_parts (P := Tryz.prog) (e := 3) (z := .int .i64 0) (size := 1) (bytes := 8) (by kernel_rfl); have eM2 : ∀ W : World,(Instr.makeSlice 22 (.int .i64 ((nL : Int) + 1)) (.int .i64 ((nL : Int) + 1))).run Tryz.prog W = .ok (.slice (some ⟨W.heap.size,0,none⟩) (nL + 1) (nL + 1)) (W.alloc (.cells (madeCells (Value.int .i64 0).cells ((nL + 1) * 1)) 3)) := fun W => by
    have h7 := run_make (P := Tryz.prog) (w := W) 22 3 i1 (.int .i64 0) Tryz.underlying22 hi1 hy0 .i64 .i64 ((nL : Int) + 1) ((nL : Int) + 1) (by omega) (by omega) (by rw [hy2]; omega) (by omega); rw [hy1] at h7; exact h7
  go_enter Tryz.func11,Tryz.ntmps11
  go_wp2_with fail
  refine (HO.out _ 1 (bel1 _ _) ?ir).mono ?_
  case ir => exact fun _ => ⟨w.heap.size,0,rfl,by simp,fun j hj => by
    obtain rfl : j = 0 := by simpa using hj
    exact (blk_cell (heap_alloc_new w _) 0).trans rfl⟩
  rintro e w1 ⟨aO,cO,rfl,hor,hb1⟩; have hbw : Below w.heap.size w w1 := (bel1 w _).trans (below_le' hb1 (by simp)); have H1 : Hid (Below w.heap.size w w1 /\ OR w1 aO O /\ SQ w1 p adL nL cL L) := ⟨hbw,hor,HQ.out.below hbw⟩; have hk1 := H1.out.2.2.k1; have hpl := H1.out.2.2.bl; clear hb1 hor hbw HO
  go_wp2_with fail
  have HZ0 : Hid (RZ w1 w1.heap.size (nL + 1) (fun _ => (0,0)) ((w1.alloc (Obj.cells (madeCells #[.int .u64 0] (nL + 1)) 36)).alloc (Obj.cells (madeCells #[.int .i64 0] (nL + 1)) 3))) := by
    have e1 := umade w1 (nL + 1); have e2 := dmade (w1.alloc (Obj.cells (madeCells #[.int .u64 0] (nL + 1)) 36)) (nL + 1); rw [Nat.mul_one] at e1 e2; rw [World.size_alloc] at e2; exact ⟨e1.below (bel1 _ _),e2,bel2 _ _ _,by simp⟩
  obtain ⟨gT,hgT⟩ : ∃ gT,w1.heap.size = gT := ⟨_,rfl⟩; have HGT : Hid (w1.heap.size = gT) := hgT; obtain ⟨W0,hW0⟩ : ∃ W0,((w1.alloc (Obj.cells (madeCells #[.int .u64 0] (nL + 1)) 36)).alloc (Obj.cells (madeCells #[.int .i64 0] (nL + 1)) 3)) = W0 := ⟨_,rfl⟩; rw [hgT,hW0] at HZ0; rw [hgT,hW0]; clear hW0 hgT eM1 eM2 hk1 hpl
  go_loopg [12] n (fun gk s12 wr => ∃ i : Nat,s12 = .int .i64 (i : Int) /\ i + gk = n /\ RZ w1 gT (nL + 1) (szF L (O.take i)) wr)
  case atStart => exact ⟨0,rfl,by omega,HZ0.out⟩
  case round =>
    obtain ⟨i,rfl,hi,hz⟩ := hrel; have HZ : Hid (RZ w1 gT (nL + 1) (szF L (O.take i)) wr) := hz; clear hz; have hbw : Below w1.heap.size w1 wr := by rw [HGT.out]; exact HZ.out.bel
    by_cases hlt : i < n
    · have hlo : i < O.length := by rw [HN.out]; exact hlt
      obtain ⟨b,o,rfl,hbl,hc⟩ := (H1.out.2.1.below hbw) (by omega); have c1 := hc i hlo; have HBG : Hid (b < gT) := by
        obtain ⟨b',o',e',hb',_⟩ := H1.out.2.1 (by omega); cases e'
        show b < gT
        rw [<- HGT.out]; exact hb'
      have hqw := H1.out.2.2.below hbw; have htm : O.getD i 0 ∈ O := by rw [List.getD_eq_getElem?_getD,List.getElem?_eq_getElem hlo]; exact List.getElem_mem _
      have htb := HOB.out _ htm; have HTS : Hid (szF L (O.take (i + 1)) = fun y => if y = O.getD i 0 then szG L (O.getD i 0) (szF L (O.take i)) else szF L (O.take i) y) := szF_take hlo; have HF0 : Hid (szF L (O.take i) 0 = (0,0) /\ (∀ y,(szF L (O.take i) y).1 <= 18446744073709551615) /\ (∀ y,(szF L (O.take i) y).2 <= 1000000000000)) := ⟨szF_zero HOB.out i,fun y => (szF_le L (O.take i) y).1,fun y => Nat.le_trans (szF_le L (O.take i) y).2 (by rw [List.length_take]; omega)⟩; have hk1 := hqw.k1; have hpl := hqw.bl; have hln := hqw.ln; obtain ⟨g,rfl,hgl,hnd⟩ := hqw.nd (by omega); clear hc hqw
      generalize O.getD i 0 = t1 at *
      obtain ⟨j,rfl⟩ : ∃ j,t1 = j + 1 := ⟨t1 - 1,by omega⟩; have hjn : j < nL := by omega
      have hnd2 := fun y hy => hnd j y (by omega) hy
      have hpa := HPR.out j (by omega); have eA : (L.getD j z0).a = ((pA L (j + 1) : Nat) : Int) := by unfold pA; rw [Nat.add_sub_cancel]; omega
      have eB : (L.getD j z0).b = ((pB L (j + 1) : Nat) : Int) := by unfold pB; rw [Nat.add_sub_cancel]; omega
      have eC : (L.getD j z0).c = ((pC L (j + 1) : Nat) : Int) := by unfold pC; rw [Nat.add_sub_cancel]; omega
      have lA : pA L (j + 1) <= j := by omega
      have lB : pB L (j + 1) <= j := by omega
      have lC : pC L (j + 1) <= j := by omega
      have HSG : Hid (szG L (j + 1) (szF L (O.take i)) = ((zcF (szF L (O.take i)) (fun k => if k = 0 then pA L (j + 1) else if k = 1 then pB L (j + 1) else pC L (j + 1)) 3).1,(zcF (szF L (O.take i)) (fun k => if k = 0 then pA L (j + 1) else if k = 1 then pB L (j + 1) else pC L (j + 1)) 3).2 + 1)) := szG_add HF0.out.1 HF0.out.2.1
      generalize pA L (j + 1) = pa at *
      generalize pB L (j + 1) = pb at *
      generalize pC L (j + 1) = pc at *
      clear hnd hpa htm htb
      generalize L.getD j z0 = nd at *
      obtain ⟨op,u,na,nb,nc,num,nm⟩ := nd
      dsimp only at eA eB eC
      subst eA eB eC; have d0 : wr.cell? ⟨g,j * 7,none⟩ = some (.int .i64 op) := hnd2 0 (by omega); have d1 : wr.cell? ⟨g,j * 7 + 1,none⟩ = some (.int .i64 u) := hnd2 1 (by omega); have d2 : wr.cell? ⟨g,j * 7 + 2,none⟩ = some (.int .i64 (pa : Int)) := hnd2 2 (by omega); have d3 : wr.cell? ⟨g,j * 7 + 3,none⟩ = some (.int .i64 (pb : Int)) := hnd2 3 (by omega); have d4 : wr.cell? ⟨g,j * 7 + 4,none⟩ = some (.int .i64 (pc : Int)) := hnd2 4 (by omega); have d5 : wr.cell? ⟨g,j * 7 + 5,none⟩ = some (.int .u64 num) := hnd2 5 (by omega); have d6 : wr.cell? ⟨g,j * 7 + 6,none⟩ = some (.string nm) := hnd2 6 (by omega); have q1 : (i : Int) < (n : Int) := by omega
      have q2 : (j : Int) < (nL : Int) := by omega
      clear hnd2
      generalize szG L (j + 1) (szF L (O.take i)) = SG at *
      generalize szF L (O.take i) = f at *
      go_wp2_with fail
      go_region
      obtain ⟨Wd,hWd⟩ : ∃ Wd,(wr.alloc (Obj.cells #[.int .i64 op,.int .i64 u,.int .i64 (pa : Int),.int .i64 (pb : Int),.int .i64 (pc : Int),.int .u64 num,.string nm] 64)).drew = Wd := ⟨_,rfl⟩; have hbx : Wd.heap[wr.heap.size]? = some (Obj.cells #[.int .i64 op,.int .i64 u,.int .i64 (pa : Int),.int .i64 (pb : Int),.int .i64 (pc : Int),.int .u64 num,.string nm] 64 (0,0)) := by rw [<- hWd]; exact heap_alloc_new wr _
      have hbd : Below wr.heap.size wr Wd := by rw [<- hWd]; exact (bel1 wr _).trans ⟨rfl,rfl,rfl,Nat.le_refl _,fun _ _ => rfl⟩
      have HZd : Hid (RZ w1 gT (nL + 1) f Wd) := HZ.out.over hbd; have b2 : Wd.cell? ⟨wr.heap.size,2,none⟩ = some (.int .i64 (pa : Int)) := blk_cell hbx 2; have b3 : Wd.cell? ⟨wr.heap.size,3,none⟩ = some (.int .i64 (pb : Int)) := blk_cell hbx 3; have b4 : Wd.cell? ⟨wr.heap.size,4,none⟩ = some (.int .i64 (pc : Int)) := blk_cell hbx 4; have c1d : Wd.cell? ⟨b,o + i,none⟩ = some (.int .i64 (((j + 1 : Nat) : Nat) : Int)) := (World.cell?_of_block (a := ⟨b,o + i,none⟩) (hbd.block b hbl)).trans c1; have hbld : b < Wd.heap.size := Nat.lt_of_lt_of_le hbl hbd.size; rw [hWd]; clear hWd hbx hbd d0 d1 d2 d3 d4 d5 d6 c1 hk1 hbl
      go_wp2_with fail
      obtain ⟨W3,hW3⟩ : ∃ W3,Wd.alloc (Obj.cells #[.int .i64 (pa : Int),.int .i64 (pb : Int),.int .i64 (pc : Int)] 84) = W3 := ⟨_,rfl⟩; obtain ⟨lb,hlb⟩ : ∃ lb,Wd.heap.size = lb := ⟨_,rfl⟩; have hbx : W3.heap[lb]? = some (Obj.cells #[.int .i64 (pa : Int),.int .i64 (pb : Int),.int .i64 (pc : Int)] 84 (0,0)) := by rw [<- hW3,<- hlb]; exact heap_alloc_new Wd _
      have HZ3 : Hid (RZ w1 gT (nL + 1) f W3) := by rw [<- hW3]; exact HZd.out.over (bel1 Wd _)
      have HC3 : Hid (W3.cell? ⟨b,o + i,none⟩ = some (.int .i64 (((j + 1 : Nat) : Nat) : Int))) := by
        rw [<- hW3]; exact (World.cell?_of_block (a := ⟨b,o + i,none⟩) ((bel1 Wd _).block b hbld)).trans c1d
      obtain ⟨pz,hpz⟩ : ∃ pz : Nat -> Nat,(fun k => if k = 0 then pa else if k = 1 then pb else pc) = pz := ⟨_,rfl⟩; have HL3 : Hid (∀ k,k < 3 -> W3.cell? ⟨lb,k,none⟩ = some (.int .i64 ((pz k : Nat) : Int)) /\ pz k <= nL) := fun k hk => by
        subst hpz; have h3 : k = 0 ∨ k = 1 ∨ k = 2 := by omega
        rcases h3 with rfl | rfl | rfl
        · exact ⟨blk_cell hbx 0,by dsimp only; rw [if_pos rfl]; omega⟩
        · exact ⟨blk_cell hbx 1,by dsimp only; rw [if_neg (by omega),if_pos rfl]; omega⟩
        exact ⟨blk_cell hbx 2,by dsimp only; rw [if_neg (by omega),if_neg (by omega)]; omega⟩
      rw [hpz] at HSG; have HZC : Hid (∀ k,(zcF f pz k).1 <= 18446744073709551615 /\ (zcF f pz k).2 <= 1000000000000) := fun k => ⟨zcF_le f pz k,zcF_d f pz HF0.out.2.2 k⟩
      rw [hlb,hW3]; clear hW3 hlb hbx hpz b2 b3 b4 c1d HZd hbld
      go_loopg [15,16,17] 3 (fun gk s15 s16 s17 wr => ∃ k : Nat,s15 = .int .u64 (((zcF f pz k).1 : Nat) : Int) /\ s16 = .int .i64 (((zcF f pz k).2 : Nat) : Int) /\ s17 = .int .i64 (k : Int) /\ k + gk = 3 /\ wr = W3)
      case atStart => exact ⟨0,rfl,rfl,rfl,rfl,rfl⟩
      case round =>
        obtain ⟨k,rfl,rfl,rfl,hk3,rfl⟩ := hrel
        by_cases hlk : k < 3
        · obtain ⟨l1,l2⟩ := HL3.out k hlk
          obtain ⟨z1,z2⟩ := HZC.out k; have hzs : zcF f pz (k + 1) = addP (zcF f pz k) (pz k) f := rfl; have HZS : Hid (_ = _) := hzs; clear hzs
          generalize zcF f pz k = Z1 at *
          generalize pz k = pk at *
          obtain ⟨za,zb⟩ := Z1
          dsimp only at z1 z2
          have q3 : (k : Int) < 3 := by omega
          by_cases hp0 : pk = 0
          · have hzz : zcF f pz (k + 1) = (za,zb) := HZS.out.trans (if_pos hp0)
            have hp1 : ((pk : Nat) : Int) = 0 := by omega
            rw [hp1] at l1; clear hp1
            go_wp2_with fail
            go_roundg (gk - 1)
            case measure => omega
            case rel => exact ⟨k + 1,by rw [hzz],by rw [hzz],by simp,by omega,rfl⟩
          have hpn : ¬ ((pk : Nat) : Int) = 0 := by omega
          have t1 : wr.cell? ⟨gT,pk,none⟩ = some (.int .u64 (((f pk).1 : Nat) : Int)) := (HZ3.out.tl.at_ (by omega)).1; have t2 : wr.cell? ⟨gT + 1,pk,none⟩ = some (.int .i64 (((f pk).2 : Nat) : Int)) := (HZ3.out.dl.at_ (by omega)).1; have hfx := HF0.out.2.1 pk; have hfy := HF0.out.2.2 pk; have q6 : ((pk : Nat) : Int) < (nL : Int) + 1 := by omega
          have HZS2 : Hid (zcF f pz (k + 1) = (capU za (f pk).1,if zb < (f pk).2 then (f pk).2 else zb)) := by
            show _ = _
            rw [HZS.out]; unfold addP; rw [if_neg hp0]
          clear HZS
          generalize (f pk).1 = fx at *
          generalize (f pk).2 = fy at *
          obtain ⟨hov,hno⟩ := cap_lt za fx z1 hfx
          by_cases ho : 18446744073709551615 < za + fx
          · obtain ⟨o1,o2⟩ := hov ho
            clear hov hno
            by_cases hd : zb < fy
            · have hd2 : (zb : Int) < (fy : Int) := by omega
              have hzz : zcF f pz (k + 1) = (18446744073709551615,fy) := by rw [HZS2.out,o2,if_pos hd]
              clear ho o2 hd
              go_wp2_with fail
              go_roundg (gk - 1)
              case measure => omega
              case rel => exact ⟨k + 1,by rw [hzz]; rfl,by rw [hzz],by simp,by omega,rfl⟩
            have hd2 : ¬ (zb : Int) < (fy : Int) := by omega
            have hzz : zcF f pz (k + 1) = (18446744073709551615,zb) := by rw [HZS2.out,o2,if_neg hd]
            clear ho o2 hd
            go_wp2_with fail
            go_roundg (gk - 1)
            case measure => omega
            case rel => exact ⟨k + 1,by rw [hzz]; rfl,by rw [hzz],by simp,by omega,rfl⟩
          obtain ⟨o1,o3,o2⟩ := hno ho; clear hov hno; obtain ⟨sm,hsm⟩ : ∃ sm,za + fx = sm := ⟨_,rfl⟩; rw [hsm] at o1 o2 o3
          by_cases hd : zb < fy
          · have hd2 : (zb : Int) < (fy : Int) := by omega
            have hzz : zcF f pz (k + 1) = (sm,fy) := by rw [HZS2.out,o2,if_pos hd]
            clear ho o2 hd hsm
            go_wp2_with fail
            go_roundg (gk - 1)
            case measure => omega
            case rel => exact ⟨k + 1,by rw [hzz],by rw [hzz],by simp,by omega,rfl⟩
          have hd2 : ¬ (zb : Int) < (fy : Int) := by omega
          have hzz : zcF f pz (k + 1) = (sm,zb) := by rw [HZS2.out,o2,if_neg hd]
          clear ho o2 hd hsm
          go_wp2_with fail
          go_roundg (gk - 1)
          case measure => omega
          case rel => exact ⟨k + 1,by rw [hzz],by rw [hzz],by simp,by omega,rfl⟩
        obtain rfl : k = 3 := by omega
        obtain ⟨z1,z2⟩ := HZC.out 3; have HPUT : Hid (RZ w1 gT (nL + 1) (fun y => if y = j + 1 then SG else f y) ((wr.setCell ⟨gT,j + 1,none⟩ (.int .u64 (((zcF f pz 3).1 : Nat) : Int))).setCell ⟨gT + 1,j + 1,none⟩ (.int .i64 ((((zcF f pz 3).2 : Nat) : Int) + 1)))) := by
          have h1 := HZ3.out.put SG (t := j + 1) (by omega); have e1 : (SG.1 : Nat) = (zcF f pz 3).1 := by rw [HSG.out]
          have e2 : ((SG.2 : Nat) : Int) = (((zcF f pz 3).2 : Nat) : Int) + 1 := by rw [HSG.out]; dsimp only; omega
          rw [e1,e2] at h1; exact h1
        have hc3 := HC3.out; obtain ⟨m1,m2⟩ := HZ3.out.tl.at_ (i := j + 1) (by omega); obtain ⟨m3,m4⟩ := HZ3.out.dl.at_ (i := j + 1) (by omega); have hbg : ¬ b = gT := by have := HBG.out; omega
        have m5 : ∀ v,(wr.setCell ⟨gT,j + 1,none⟩ v).cell? ⟨b,o + i,none⟩ = some (.int .i64 (((j + 1 : Nat) : Nat) : Int)) := fun v => (World.cell?_of_block (a := ⟨b,o + i,none⟩) (heap_setCell_other _ _ _ _ hbg)).trans hc3
        have m6 : ∀ v,(wr.setCell ⟨gT,j + 1,none⟩ v).cell? ⟨gT + 1,j + 1,none⟩ = some (.int .i64 (((f (j + 1)).2 : Nat) : Int)) := fun v => (World.cell?_of_block (a := ⟨gT + 1,j + 1,none⟩) (heap_setCell_other _ _ _ _ (show gT + 1 ≠ gT by omega))).trans m3
        have q7 : ((j + 1 : Nat) : Int) < (nL : Int) + 1 := by omega
        have HDN : Hid (RZ w1 gT (nL + 1) (szF L (O.take (i + 1))) ((wr.setCell ⟨gT,j + 1,none⟩ (.int .u64 (((zcF f pz 3).1 : Nat) : Int))).setCell ⟨gT + 1,j + 1,none⟩ (.int .i64 ((((zcF f pz 3).2 : Nat) : Int) + 1)))) := by
          show RZ _ _ _ _ _
          rw [HTS.out]; exact HPUT.out
        generalize (((zcF f pz 3).1 : Nat) : Int) = x3 at *
        obtain ⟨y3,hy3⟩ : ∃ y3,(zcF f pz 3).2 = y3 := ⟨_,rfl⟩; rw [hy3] at z2 HDN ⊢; clear hy3 HPUT HSG HZC
        go_wp2_with fail
        go_roundg (n - (i + 1))
        case measure => omega
        case rel => exact ⟨i + 1,by simp,by omega,HDN.out⟩
    obtain rfl : i = n := by omega
    have hT : O.take i = O := by rw [<- HN.out]; exact List.take_length
    rw [hT] at HZ; obtain ⟨u1,u2⟩ := HZ.out.tl.at_ (i := t) (by omega); obtain ⟨v1,v2⟩ := HZ.out.dl.at_ (i := t) (by omega); obtain ⟨e1,e2⟩ := HZX.out; rw [e1] at u1; rw [e2] at v1; have HB : Hid (Below w.heap.size w wr) := H1.out.1.trans (below_le' hbw H1.out.1.size); have q1 : ¬ (i : Int) < (i : Int) := by omega
    have q2 : (t : Int) < (nL : Int) + 1 := by omega
    clear e1 e2 hT
    go_wp2_with fail
    go_quiet (fail)
    have HP2 : Hid (PP (.returned (.tuple #[.int .i64 (i : Int),.int .u64 zx,.int .i64 zd,.int .i64 0])) (wr.drewN nq)) := HPP.out _ (drw HB.out nq)
    go_wp2
    refine bodyPost_ret (v := .tuple #[.int .i64 (i : Int),.int .u64 zx,.int .i64 zd,.int .i64 0]) (results_tmp4 (t := 4) (u := 5) (v := 6) (s := 7) rfl _ _ _) rfl HP2.out
end Go.Proofs.YtldpkkbdhohcmaaGreatDoor.G3
namespace Go.Proofs.YtldpkkbdhohcmaaGreatDoor.G3
open Go.Proofs.YtldpkkbdhohcmaaGreatDoor
open Go.ChangeShapes Go.WideShapes Go.ChangeAt Go.RowKit Go.Lib Go.Tm Go.Bw Go.Bn Go.WideMaps Go.Maps Go.ChangeMaps Go.Shelf

set_option maxHeartbeats 4000000 in
set_option maxRecDepth 100000 in
theorem rvars_nil (ad : Option Addr) (q cp : Nat) (w : World) : Calls Tryz.prog 7 #[.pointer none,.slice ad q cp] w fun e w' => e = .returned (.tuple #[.slice none 0 0,.int .i64 2]) /\ Below w.heap.size w w' := by
  go_enter Tryz.func7,Tryz.ntmps7
  go_wp2_with fail
  first
    | exact ⟨rfl,Below.refl _ _⟩
    | (go_ret; exact ⟨rfl,Below.refl _ _⟩)
    | (go_ret2; exact ⟨rfl,Below.refl _ _⟩)
set_option maxHeartbeats 4000000 in
set_option maxRecDepth 100000 in
theorem rvars_no {p : Nat} {ad : Option Addr} {q cp : Nat} (w : World) (H : Calls Tryz.prog 21 #[.pointer (some ⟨p,0,none⟩),.slice ad q cp] w fun e w' => e = .returned (.tuple #[.slice none 0 0,.int .i64 70]) /\ w' = w) :
    Calls Tryz.prog 7 #[.pointer (some ⟨p,0,none⟩),.slice ad q cp] w fun e w' => e = .returned (.tuple #[.slice none 0 0,.int .i64 70]) /\ Below w.heap.size w w' := by
  have HC := Lib.hid H; clear H
  go_enter Tryz.func7,Tryz.ntmps7
  go_wp2_with fail
  refine HC.out.mono ?_; rintro e wn ⟨rfl,hwn⟩; subst wn; clear HC
  go_wp2_with fail
  first
    | exact ⟨rfl,Below.refl _ _⟩
    | (go_ret; exact ⟨rfl,Below.refl _ _⟩)
    | (go_ret2; exact ⟨rfl,Below.refl _ _⟩)
set_option maxHeartbeats 4000000 in
set_option maxRecDepth 100000 in
theorem rsize_nil (t : Int) (w : World) : Calls Tryz.prog 11 #[.pointer none,.int .i64 t] w fun e w' => e = .returned (.tuple #[.int .i64 0,.int .u64 0,.int .i64 0,.int .i64 2]) /\ Below w.heap.size w w' := by
  generalize hPP : (fun (e : Ending) (w' : World) => e = .returned (.tuple #[.int .i64 0,.int .u64 0,.int .i64 0,.int .i64 2]) /\ Below w.heap.size w w') = PP
  have HPP : Hid (PP (.returned (.tuple #[.int .i64 0,.int .u64 0,.int .i64 0,.int .i64 2])) w) := by rw [<- hPP]; exact ⟨rfl,Below.refl _ _⟩
  clear hPP
  go_enter Tryz.func11,Tryz.ntmps11
  go_wp2_with fail
  exact bodyPost_ret (v := .tuple #[.int .i64 0,.int .u64 0,.int .i64 0,.int .i64 2]) (results_tmp4 (t := 4) (u := 5) (v := 6) (s := 7) rfl _ _ _) rfl HPP.out
set_option maxHeartbeats 4000000 in
set_option maxRecDepth 100000 in
theorem rsize_no {p : Nat} {t : Int} (w : World) (H : ∀ W cp,Below w.heap.size w W -> IR W (some ⟨w.heap.size,0,none⟩) [t] -> Calls Tryz.prog 21 #[.pointer (some ⟨p,0,none⟩),.slice (some ⟨w.heap.size,0,none⟩) 1 cp] W fun e w' => e = .returned (.tuple #[.slice none 0 0,.int .i64 70]) /\ w' = W) :
    Calls Tryz.prog 11 #[.pointer (some ⟨p,0,none⟩),.int .i64 t] w fun e w' => e = .returned (.tuple #[.int .i64 0,.int .u64 0,.int .i64 0,.int .i64 70]) /\ Below w.heap.size w w' := by
  have HC := Lib.hid H; clear H
  generalize hPP : (fun (e : Ending) (w' : World) => e = .returned (.tuple #[.int .i64 0,.int .u64 0,.int .i64 0,.int .i64 70]) /\ Below w.heap.size w w') = PP
  have HPP : Hid (∀ W,Below w.heap.size w W -> PP (.returned (.tuple #[.int .i64 0,.int .u64 0,.int .i64 0,.int .i64 70])) W) := fun W h => by rw [<- hPP]; exact ⟨rfl,h⟩
  clear hPP
  go_enter Tryz.func11,Tryz.ntmps11
  go_wp2_with fail
  refine (HC.out _ 1 (bel1 _ _) ?ir).mono ?_
  case ir => exact fun _ => ⟨w.heap.size,0,rfl,by simp,fun j hj => by
    obtain rfl : j = 0 := by simpa using hj
    exact (blk_cell (heap_alloc_new w _) 0).trans rfl⟩
  rintro e wn ⟨rfl,hwn⟩; subst wn; clear HC
  go_wp2_with fail
  exact bodyPost_ret (v := .tuple #[.int .i64 0,.int .u64 0,.int .i64 0,.int .i64 70]) (results_tmp4 (t := 4) (u := 5) (v := 6) (s := 7) rfl _ _ _) rfl (HPP.out _ (bel1 _ _))
end Go.Proofs.YtldpkkbdhohcmaaGreatDoor.G3
namespace Go.Proofs.YtldpkkbdhohcmaaGreatDoor.G3
open Go.Proofs.YtldpkkbdhohcmaaGreatDoor
open Go.ChangeShapes Go.WideShapes Go.ChangeAt Go.RowKit Go.Lib Go.Tm Go.Bw Go.Bn Go.WideMaps Go.Maps Go.ChangeMaps Go.Shelf

set_option maxHeartbeats 8000000 in
set_option maxRecDepth 100000 in
theorem equal_any (B0 B : Nat) (lim : Int) (L : List Nd) (v : Value) (M1 M2 : Option Nat) {A nL cL : Nat} {adL : Option Addr} (w : World) (hS : SM 125 w B0 B lim L v M1 M2) (hQ : SQ w A adL nL cL L) :
    Calls Tryz.prog 15 #[.pointer (some ⟨B,0,none⟩),.pointer (some ⟨A,0,none⟩)] w fun e w' => e = .returned (.bool true) /\ Below w.heap.size w w' := by
  generalize hPP : (fun (e : Ending) (w' : World) => e = .returned (.bool true) /\ Below w.heap.size w w') = PP
  have HPP : Hid (∀ w',Below w.heap.size w w' -> PP (.returned (.bool true)) w') := fun w' h => by rw [<- hPP]; exact ⟨rfl,h⟩
  have HQ : Hid (SQ w A adL nL cL L) := hQ; have HT : Hid (∀ W,Below w.heap.size w W -> ∀ i,i < L.length -> Calls Tryz.prog 38 #[.pointer (some ⟨B,0,none⟩),.int .i64 ((i : Int) + 1)] W fun e w' => e = .returned (.tuple #[nodeV (L.getD i z0),.int .i64 0]) /\ Below W.heap.size W w') := fun W hb i hi => node_ok _ _ _ _ _ _ _ i W (hS.below hb) hi
  have hln := hQ.ln; have HLe : Hid (∀ k,Calls Tryz.prog 37 #[.pointer (some ⟨B,0,none⟩)] (w.drewN k) fun e w' => e = .returned (.int .i64 (nL : Int)) /\ w' = w.drewN k) := fun k => by
    have h1 := len_any _ _ _ _ _ _ _ _ (hS.below (drw (Below.refl _ _) k)); rw [hln] at h1; exact h1
  have HNo : Hid (∀ (e : Int) (W : World),Calls Tryz.prog 8 #[.int .i64 e] W fun E w' => E = .returned (.int .i64 e) /\ w' = W) := no_any; have hlen : nL < 4611686018427387904 := by have := hS.len; omega
  have c1 := hQ.k1; have hA := hQ.bl; have HLN : Hid (L.length = nL) := hln; clear hPP hS hQ hln; have qm : ((nL : Int) == (nL : Int)) = true := by simp
  go_enter Tryz.func15,Tryz.ntmps15
  go_wp2_with fail
  go_big_quiet ((go_at_call 37; exact Calls.quiet_of_same (HLe.out _)))
  go_wp2_with fail
  go_loopg [5] nL (fun gk s5 wr => ∃ i : Nat,s5 = .int .i64 ((i : Int) + 1) /\ i + gk = nL /\ Aside (Below w.heap.size w wr))
  case atStart => exact ⟨0,rfl,by omega,drw (Below.refl _ _) _⟩
  case round =>
    obtain ⟨i,rfl,hi2,HJ⟩ := hrel; have c1 := (HQ.out.below HJ.out).k1; have hAr := (HQ.out.below HJ.out).bl
    by_cases hlt : i < nL
    · obtain ⟨g,rfl,hgl,hg⟩ := HQ.out.nd (by rw [HLN.out]; omega)
      have HNd := HT.out wr HJ.out i (by rw [HLN.out]; exact hlt); have hgi : ∀ W,Below w.heap.size w W -> ∀ j,j < 7 -> W.cell? ⟨g,i * 7 + j,none⟩ = (ndC (L.getD i z0))[j]? := fun W hW j hj => (World.cell?_of_block (a := ⟨g,i * 7 + j,none⟩) (hW.block g hgl)).trans (hg i j (by rw [HLN.out]; exact hlt) hj)
      generalize L.getD i z0 = nd at *
      obtain ⟨op,u,a,b,c,num,nm⟩ := nd; have HND : Hid (Calls Tryz.prog 38 #[.pointer (some ⟨B,0,none⟩),.int .i64 ((i : Int) + 1)] wr fun e w' => e = .returned (.tuple #[.agg #[.int .i64 op,.int .i64 u,.int .i64 a,.int .i64 b,.int .i64 c,.int .u64 num,.string nm],.int .i64 0]) /\ Below wr.heap.size wr w') := HNd; have HGI : Hid (∀ W,Below w.heap.size w W -> ∀ j,j < 7 -> W.cell? ⟨g,i * 7 + j,none⟩ = (ndC ⟨op,u,a,b,c,num,nm⟩)[j]?) := hgi; clear HNd hgi hg; have q1 : ((i : Int) + 1) <= (nL : Int) := by omega
      go_wp2_with fail
      refine HND.out.mono ?_; rintro e w4 ⟨rfl,hb4⟩; have HJ2 : Aside (Below w.heap.size w w4) := HJ.out.trans (hb4.mono HJ.out.size); clear hb4 HND c1; have c1 := (HQ.out.below HJ2.out).k1; have hA2 := (HQ.out.below HJ2.out).bl; have hg2 : g < w4.heap.size := Nat.lt_of_lt_of_le hgl HJ2.out.size; have d0 : w4.cell? ⟨g,i * 7,none⟩ = some (.int .i64 op) := HGI.out w4 HJ2.out 0 (by omega); have d1 : w4.cell? ⟨g,i * 7 + 1,none⟩ = some (.int .i64 u) := HGI.out w4 HJ2.out 1 (by omega); have d2 : w4.cell? ⟨g,i * 7 + 2,none⟩ = some (.int .i64 a) := HGI.out w4 HJ2.out 2 (by omega); have d3 : w4.cell? ⟨g,i * 7 + 3,none⟩ = some (.int .i64 b) := HGI.out w4 HJ2.out 3 (by omega); have d4 : w4.cell? ⟨g,i * 7 + 4,none⟩ = some (.int .i64 c) := HGI.out w4 HJ2.out 4 (by omega); have d5 : w4.cell? ⟨g,i * 7 + 5,none⟩ = some (.int .u64 num) := HGI.out w4 HJ2.out 5 (by omega); have d6 : w4.cell? ⟨g,i * 7 + 6,none⟩ = some (.string nm) := HGI.out w4 HJ2.out 6 (by omega); have hneq := fun W => neq_node op u a b c num nm W
      go_wp2_with fail
      go_quiet ((go_at_call 8; exact Calls.quiet_of_same (HNo.out _ _)))
      go_wp2_with fail
      go_roundg (gk - 1)
      case measure => omega
      case rel => exact ⟨i + 1,by simp,by omega,by first | exact (HJ2.out.alloc HJ2.out.size _).drew | exact (HJ2.out.alloc HJ2.out.size _) | exact drw (HJ2.out.alloc HJ2.out.size _) _ | exact drw (drw (HJ2.out.alloc HJ2.out.size _) _) _⟩
    have hji : i = nL := by omega
    subst hji; have HF : Hid (PP (.returned (.bool true)) wr) := HPP.out _ HJ.out; have q1 : ¬ (((i : Int) + 1) <= (i : Int)) := by omega
    go_wp2_with fail
    first | exact HF.out | (go_ret; exact HF.out)
end Go.Proofs.YtldpkkbdhohcmaaGreatDoor.G3
namespace Go.Proofs.YtldpkkbdhohcmaaGreatDoor.G3
open Go.Proofs.YtldpkkbdhohcmaaGreatDoor
open Go.ChangeShapes Go.WideShapes Go.ChangeAt Go.RowKit Go.Lib Go.Tm Go.Bw Go.Bn Go.WideMaps Go.Maps Go.ChangeMaps Go.Shelf

theorem ir_ints3 {w : World} {B : Nat} {v : Value} {xs : List Int} (h : w.ownsRow B 3 1 v xs.length (xs.map (Value.int .i64))) : ∃ ad c,v = .slice ad xs.length c /\ IR w ad xs := by
  obtain ⟨ad,c,e,hI⟩ := ir_ints h; exact ⟨ad,c,e,hI⟩
/-- what the two readings of a good text leave -/
structure SST (w : World) (B A : Nat) (aR : Option Addr) (L : List Nd) (rs : List Int) : Prop where
  ir : IR w aR rs
  sm : ∃ B0 v1 M1 M2,SM 125 w B0 B 0 L v1 M1 M2
  rm : ∃ B0 v1 M1 M2,SM 69 w B0 A 0 L v1 M1 M2
set_option maxHeartbeats 8000000 in
set_option maxRecDepth 100000 in
theorem stores_any (l : List UInt8) (w : World) (hE : ENV w) (h9 : 9 <= w.heap.size) (hl : l.length <= 1048575) (L : List Nd) (rs : List Int) (kN : Nat) (cI : Int) (hG : ldG 0 (lgo [] l) [] [] = (L,rs,kN,cI)) (hrl : rs.length < 1000000000000000) :
    Calls Tryz.prog 4 #[.string ⟨l.toArray⟩,.int .i64 0] w fun e w' => Below w.heap.size w w' /\ (e = .returned (.tuple #[.pointer none,.pointer none,.slice none 0 0,.bool true]) ∨ ∃ B A aR cR,e = .returned (.tuple #[.pointer (some ⟨B,0,none⟩),.pointer (some ⟨A,0,none⟩),.slice aR rs.length cR,.bool true]) /\ SST w' B A aR L rs) := by
  have HA : Hid (Calls Tryz.prog 12 #[.string ⟨l.toArray⟩,.int .i64 0] w fun e w' => Below w.heap.size w w' /\ ((cI ≠ 0 /\ e = .returned (.tuple #[.pointer none,.slice none 0 0,.int .i64 (kN : Int),.int .i64 cI])) ∨ (cI = 0 /\ ∃ B aR cR,e = .returned (.tuple #[.pointer (some ⟨B,0,none⟩),.slice aR rs.length cR,.int .i64 0,.int .i64 0]) /\ IR w' aR rs /\ ∃ B0 v1 M1 M2,SM 125 w' B0 B 0 L v1 M1 M2))) := (load_any l 0 w (by omega) (by unfold I64; omega) hE h9 (by omega) _ hG).mono fun e w' ⟨hb,h⟩ => ⟨hb,by
    rcases h with ⟨h0,he⟩ | ⟨h0,_,B,v,he,hrow,hsm⟩
    · exact Or.inl ⟨h0,he⟩
    obtain ⟨ad,c,rfl,hi⟩ := ir_ints3 (xs := rs) hrow; exact Or.inr ⟨h0,B,ad,c,he,hi,_,hsm⟩⟩
  have HB : Hid (∀ W,Calls Tryz.prog 13 #[.string ⟨l.toArray⟩,.int .i64 0] W fun e w' => Below W.heap.size W w' /\ ((cI ≠ 0 /\ e = .returned (.tuple #[.pointer none,.slice none 0 0,.int .i64 (kN : Int),.int .i64 cI])) ∨ (cI = 0 /\ ∃ B aR cR,e = .returned (.tuple #[.pointer (some ⟨B,0,none⟩),.slice aR rs.length cR,.int .i64 0,.int .i64 0]) /\ IR w' aR rs /\ ∃ B0 v1 M1 M2,SM 69 w' B0 B 0 L v1 M1 M2))) := fun W => (rload_any l 0 W (by omega) (by unfold I64; omega) (by omega) _ hG).mono fun e w' ⟨hb,h⟩ => ⟨hb,by
    rcases h with ⟨h0,he⟩ | ⟨h0,_,B,v,he,hrow,hsm⟩
    · exact Or.inl ⟨h0,he⟩
    obtain ⟨ad,c,rfl,hi⟩ := ir_ints3 (xs := rs) hrow; exact Or.inr ⟨h0,B,ad,c,he,hi,_,hsm⟩⟩
  have HEQ : Hid (∀ W B A,(∃ B0 v1 M1 M2,SM 125 W B0 B 0 L v1 M1 M2) -> (∃ B0 v1 M1 M2,SM 69 W B0 A 0 L v1 M1 M2) -> Calls Tryz.prog 15 #[.pointer (some ⟨B,0,none⟩),.pointer (some ⟨A,0,none⟩)] W fun e w' => e = .returned (.bool true) /\ Below W.heap.size W w') := fun W B A ⟨_,_,_,_,h1⟩ ⟨_,_,_,_,h2⟩ => by
    obtain ⟨adL,cL,hq⟩ := sq_of h2; exact equal_any _ _ _ _ _ _ _ W h1 hq
  have HNil : Hid (∀ W,Calls Tryz.prog 14 #[.slice none 0 0,.slice none 0 0] W fun e w' => e = .returned (.bool true) /\ ∃ n,w' = W.drewN n) := fun W => sints_any (xs := []) W (fun h => absurd h (by simp)) (fun h => absurd h (by simp)) (by simp)
  obtain ⟨q,hq⟩ : ∃ q,rs.length = q := ⟨_,rfl⟩; have HSI : Hid (∀ W aX aY cX cY,IR W aX rs -> IR W aY rs -> Calls Tryz.prog 14 #[.slice aX q cX,.slice aY q cY] W fun e w' => e = .returned (.bool true) /\ ∃ n,w' = W.drewN n) := fun W aX aY cX cY h1 h2 => by
    have h3 := sints_any (cX := cX) (cY := cY) W h1 h2 hrl; rw [hq] at h3; exact h3
  rw [hq] at HA HB ⊢; clear hE h9 hl hG hrl hq
  generalize hPP : (fun (e : Ending) (w' : World) => Below w.heap.size w w' /\ (e = .returned (.tuple #[.pointer none,.pointer none,.slice none 0 0,.bool true]) ∨ ∃ B A aR cR,e = .returned (.tuple #[.pointer (some ⟨B,0,none⟩),.pointer (some ⟨A,0,none⟩),.slice aR q cR,.bool true]) /\ SST w' B A aR L rs)) = PP
  have HPN : Hid (∀ w',Below w.heap.size w w' -> PP (.returned (.tuple #[.pointer none,.pointer none,.slice none 0 0,.bool true])) w') := fun w' h => by rw [<- hPP]; exact ⟨h,Or.inl rfl⟩
  have HPY : Hid (∀ w' B A aR cR,Below w.heap.size w w' -> SST w' B A aR L rs -> PP (.returned (.tuple #[.pointer (some ⟨B,0,none⟩),.pointer (some ⟨A,0,none⟩),.slice aR q cR,.bool true])) w') := fun w' B A aR cR h h2 => by rw [<- hPP]; exact ⟨h,Or.inr ⟨B,A,aR,cR,rfl,h2⟩⟩
  clear hPP
  generalize (⟨l.toArray⟩ : ByteArray) = s at *
  obtain ⟨kI,hkI⟩ : ∃ kI : Int,(kN : Int) = kI := ⟨_,rfl⟩; rw [hkI] at HA HB; clear hkI
  go_enter Tryz.func4,Tryz.ntmps4
  go_wp2_with fail
  refine HA.out.mono ?_; rintro e w1 ⟨hb1,⟨h0,rfl⟩ | ⟨h0,B,aR,cR,rfl,hir,hsm⟩⟩
  · have H1 : Hid (Below w.heap.size w w1) := hb1
    have H0 : Hid (cI ≠ 0) := h0; clear hb1 h0 HA
    go_wp2_with fail
    refine (HB.out _).mono ?_; rintro e w2 ⟨hb2,⟨_,rfl⟩ | ⟨h0,_⟩⟩
    · have H2 : Hid (Below w.heap.size w w2) := H1.out.trans (below_le' hb2 H1.out.size)
      clear hb2 H1 HB
      go_wp2_with fail
      refine (HNil.out _).mono ?_; rintro e w3 ⟨rfl,n3,hw⟩; have H3 : Hid (Below w.heap.size w w3) := by show Below _ _ _; rw [hw]; exact drw H2.out _
      clear hw H2
      go_wp2_with fail
      exact bodyPost_ret (v := .tuple #[.pointer none,.pointer none,.slice none 0 0,.bool true]) (results_tmp4 (t := 4) (u := 5) (v := 6) (s := 7) rfl _ _ _) rfl (HPN.out _ H3.out)
    exact absurd h0 H0.out
  have H1 : Hid (Below w.heap.size w w1 /\ IR w1 aR rs /\ ∃ B0 v1 M1 M2,SM 125 w1 B0 B 0 L v1 M1 M2) := ⟨hb1,hir,hsm⟩; have H0 : Hid (cI = 0) := h0; clear hb1 hir hsm h0 HA
  go_wp2_with fail
  refine (HB.out _).mono ?_; rintro e w2 ⟨hb2,⟨h0,_⟩ | ⟨_,A,aS,cS,rfl,hir2,hrm⟩⟩
  · exact absurd H0.out h0
  have H2 : Hid (Below w.heap.size w w2 /\ IR w2 aR rs /\ IR w2 aS rs /\ (∃ B0 v1 M1 M2,SM 125 w2 B0 B 0 L v1 M1 M2) /\ ∃ B0 v1 M1 M2,SM 69 w2 B0 A 0 L v1 M1 M2) := ⟨H1.out.1.trans (below_le' hb2 H1.out.1.size),H1.out.2.1.below hb2,hir2,by
    obtain ⟨_,_,_,_,h⟩ := H1.out.2.2; exact ⟨_,_,_,_,h.below hb2⟩,hrm⟩
  clear hb2 hir2 hrm HB H1
  go_wp2_with fail
  refine (HSI.out w2 aR aS cR cS H2.out.2.1 H2.out.2.2.1).mono ?_; rintro e w3 ⟨rfl,n3,hw⟩; have H3 : Hid (Below w.heap.size w w3 /\ IR w3 aR rs /\ (∃ B0 v1 M1 M2,SM 125 w3 B0 B 0 L v1 M1 M2) /\ ∃ B0 v1 M1 M2,SM 69 w3 B0 A 0 L v1 M1 M2) := by
    have hb : Below w2.heap.size w2 w3 := by rw [hw]; exact drw (Below.refl _ _) _
    obtain ⟨h1,h2,_,⟨_,_,_,_,h4⟩,_,_,_,_,h5⟩ := H2.out; exact ⟨h1.trans (below_le' hb h1.size),h2.below hb,⟨_,_,_,_,h4.below hb⟩,_,_,_,_,h5.below hb⟩
  clear hw H2
  go_wp2_with fail
  refine (HEQ.out w3 B A H3.out.2.2.1 H3.out.2.2.2).mono ?_; rintro e w4 ⟨rfl,hb4⟩; have H4 : Hid (Below w.heap.size w w4 /\ SST w4 B A aR L rs) := by
    obtain ⟨h1,h2,⟨_,_,_,_,h4⟩,_,_,_,_,h5⟩ := H3.out; exact ⟨h1.trans (below_le' hb4 h1.size),h2.below hb4,⟨_,_,_,_,h4.below hb4⟩,_,_,_,_,h5.below hb4⟩
  clear hb4 H3
  go_wp2_with fail
  exact bodyPost_ret (v := .tuple #[.pointer (some ⟨B,0,none⟩),.pointer (some ⟨A,0,none⟩),.slice aR q cR,.bool true]) (results_tmp4 (t := 4) (u := 5) (v := 6) (s := 7) rfl _ _ _) rfl (HPY.out _ _ _ _ _ H4.out.1 H4.out.2)
end Go.Proofs.YtldpkkbdhohcmaaGreatDoor.G3
