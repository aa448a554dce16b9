import Derived.Test.YtkpapgfbnledpaaGreatDoorEvJ
import Derived.Test.YtkpapgfbnledpaaGreatDoorEwA
import Derived.Test.YtkpapgfbnledpaaGreatDoorTmJ
import Derived.Laws.StructEq
import Derived.Laws.ResultCell
import Derived.Laws.Rows
set_option maxHeartbeats 8000000
set_option maxRecDepth 100000
namespace Go.Proofs.YtkpapgfbnledpaaGreatDoor.GI
open Go.Proofs.YtkpapgfbnledpaaGreatDoor
open Go.ChangeShapes Go.WideShapes Go.ChangeAt Go.RowKit Go.Lib Go.Tm Go.Bw Go.Bn Go.WideMaps Go.Maps Go.ChangeMaps Go.Shelf
attribute [local go_sem] Oper.semAt_some

def CSt (W W' : World) : Prop := W.heap.size <= W'.heap.size /\ ∀ a v,W.cell? a = some v -> W'.cell? a = some v
theorem CSt.of_below {W W' : World} (h : Below W.heap.size W W') : CSt W W' := ⟨h.size,fun a _ ha => (World.cell?_of_block (h.block a.block (block_lt_of_cell ha))).trans ha⟩
theorem CSt.of_put {W : World} {l : Nat} {o : Obj} (o' : Obj) (h : W.heap[l]? = some o) (hc : o.isCells = false) : CSt W (W.putObj l o') := ⟨by simp,fun a _ ha => by
  have hne : a.block ≠ l := fun e => by
    unfold World.cell? at ha; rw [e,h] at ha; cases o <;> simp_all [Obj.isCells]
  exact (World.cell?_of_block (World.putObj_heap_other hne)).trans ha⟩
theorem sr_cst {W W' : World} {B g : Nat} {L : List Nd} (h : SR W B g L) (hk : CSt W W') : SR W' B g L := by
  obtain ⟨ad,c,h1,h2⟩ := h.c1; refine ⟨Nat.lt_of_lt_of_le h.bl hk.1,fun h0 => Nat.lt_of_lt_of_le (h.gl h0) hk.1,⟨ad,c,hk.2 _ _ h1,h2⟩,fun i j hi hj => ?_,h.len⟩; have h3 := h.cs i j hi hj; obtain ⟨v,hv⟩ : ∃ v,(ndC (L.getD i z0))[j]? = some v := ⟨_,List.getElem?_eq_getElem (show j < (ndC (L.getD i z0)).length from hj)⟩; rw [hv] at h3 ⊢; exact hk.2 _ _ h3
theorem or_cst {W W' : World} {ad : Option Addr} {O : List Nat} (h : OR W ad O) (hk : CSt W W') : OR W' ad O := fun h0 => by
  obtain ⟨b,o,e,hb,hc⟩ := h h0; exact ⟨b,o,e,Nat.lt_of_lt_of_le hb hk.1,fun j hj => hk.2 _ _ (hc j hj)⟩
def RDs (B Bs cp : Nat) (ad : Option Addr) (L : List Nd) (O : List Nat) (W : World) : Prop :=
  (∃ g L',SR W B g L' /\ ∀ t ∈ O,t <= L'.length /\ L'.getD (t - 1) z0 = L.getD (t - 1) z0) /\ OR W ad O /\ W.cell? ⟨Bs,0,none⟩ = some (.pointer (some ⟨B,0,none⟩)) /\ W.cell? ⟨Bs,1,none⟩ = some (.slice ad O.length cp)
theorem RDs.cst {B Bs cp : Nat} {ad : Option Addr} {L : List Nd} {O : List Nat} {W W' : World} (h : RDs B Bs cp ad L O W) (hk : CSt W W') : RDs B Bs cp ad L O W' := by
  obtain ⟨⟨g,L',h1,h2⟩,h3,h4,h5⟩ := h; exact ⟨⟨g,L',sr_cst h1 hk,h2⟩,or_cst h3 hk,hk.2 _ _ h4,hk.2 _ _ h5⟩
theorem nodes3_in (n : Nat) (hn : 1 <= n) (l Bs B cp : Nat) (ad : Option Addr) (L : List Nd) (O : List Nat) (hall : ∀ t ∈ O,1 <= t /\ t <= L.length) (hOl : O.length <= 1000000000000) (J Jx : List (ET O) -> World -> Prop) (hJ : ∀ s W W',J s W -> World.grownBy W W' none -> J s W')
    (hY : ∀ pre x W,J pre W -> pre.length < O.length -> YieldAt Fence.wide (n - 1) Tryz.prog l (encT L x) W fun e W' =>
      (e = .returned (.bool true) /\ J (pre ++ [x]) W' /\ (RDs B Bs cp ad L O W -> RDs B Bs cp ad L O W')) ∨ (e = .returned (.bool false) /\ Jx (pre ++ [x]) W'))
    (W : World) (hR : RDs B Bs cp ad L O W) (h0 : J [] W) :
    CallsIn Fence.wide n Tryz.prog 61 #[.func (.yield l) #[] #[],.pointer (some ⟨Bs,0,none⟩)] W fun e W' => (∃ v,e = .returned v) /\
      ((∃ ys,ys = O.attach /\ J ys W') ∨ (∃ pre : List (ET O),(∃ k,pre = O.attach.take k) /\ Jx pre W')) := by
  refine callsIn_of_wp Tryz.func61 rfl trivial ?_ rfl; simp only [Tryz.ntmps61,List.size_toArray,List.length_cons,List.length_nil,Nat.reduceAdd,Nat.reduceSub,Array.replicate_succ,Array.replicate_zero,List.push_toArray,List.append_toArray,List.nil_append,List.cons_append]; have hc0 := hR.2.2.1; have hc1 := hR.2.2.2; obtain ⟨len,hlen⟩ : ∃ len,O.length = len := ⟨_,rfl⟩; have HL : Hid (O.length = len) := hlen; rw [hlen] at hc1; have HA : Hid (∀ t ∈ O,1 <= t /\ t <= L.length) := hall; have HR0 : Hid (RDs B Bs cp ad L O W) := hR; rw [hlen] at hOl; clear hlen hall hR
  gi_wp2
  gi_loopw [10] (fun i wr => ∃ k : Nat,k <= len /\ i = .int .i64 (k : Int) /\ J (O.attach.take k) wr /\ RDs B Bs cp ad L O wr)
    (fun i _ => (len - (Lib.intOf i).toNat))
  case atStart => exact ⟨0,Nat.zero_le _,by simp,h0,HR0.out⟩
  case round =>
    obtain ⟨k,hk,rfl,hJs,hnx⟩ := hrel
    by_cases hlt : k < len
    · obtain ⟨⟨g,L',hSR,hLs⟩,hOR,hs0,hs1⟩ := hnx
      have HNX : Hid (RDs B Bs cp ad L O wr) := ⟨⟨g,L',hSR,hLs⟩,hOR,hs0,hs1⟩; obtain ⟨b,o,rfl,hb,hc⟩ := hOR (by rw [HL.out]; omega); have hcx := hc k (by rw [HL.out]; exact hlt); rw [HL.out] at hs1; clear hs1; have q0 : (k : Int) < (len : Int) := by omega
      have hkO : k < O.length := by rw [HL.out]; exact hlt
      have hmem : O.getD k 0 ∈ O := by rw [List.getD_eq_getElem?_getD,List.getElem?_eq_getElem hkO]; exact List.getElem_mem hkO
      have hNx := att_next hkO; have hbd := HA.out _ hmem; have hls := hLs _ hmem; obtain ⟨x,hx⟩ : ∃ x : ET O,x.1 = O.getD k 0 /\ O.attach.take (k + 1) = O.attach.take k ++ [x] := ⟨⟨O.getD k 0,hmem⟩,rfl,hNx⟩; clear hNx; have HX : Hid (O.attach.take (k + 1) = O.attach.take k ++ [x]) := hx.2; obtain ⟨i0,hi0⟩ : ∃ i0,O.getD k 0 = i0 + 1 := ⟨O.getD k 0 - 1,by omega⟩; have hx1 : x.1 = i0 + 1 := hx.1.trans hi0; rw [hi0] at hcx; have hLi : L'.getD i0 z0 = L.getD i0 z0 := by have := hls.2; rw [hi0] at this; exact this
      clear hx hmem hc; have HN : Hid (Calls Tryz.prog 12 #[.pointer (some ⟨B,0,none⟩),.int .i64 ((i0 : Int) + 1)] wr fun e w' => e = .returned (.tuple #[nodeV (L.getD i0 z0),.int .i64 0]) /\ Below wr.heap.size wr w') := by rw [<- hLi]; exact node9_any B g L' i0 wr hSR (by omega)
      have HXE : Hid (encT L x = #[.int .i64 ((i0 : Int) + 1),nodeV (L.getD i0 z0)]) := by
        show encT L x = _
        unfold encT; rw [hx1]
        rfl
      have hcx' : wr.cell? ⟨b,o + k,none⟩ = some (.int .i64 ((i0 : Int) + 1)) := hcx; clear hcx hSR hx1 hi0 hbd hls hLi hLs
      generalize L.getD i0 z0 = nd at *
      obtain ⟨op,u,na,nb,nc,num,nm⟩ := nd; have HN' : Hid (Calls Tryz.prog 12 #[.pointer (some ⟨B,0,none⟩),.int .i64 ((i0 : Int) + 1)] wr fun e w' => e = .returned (.tuple #[.agg #[.int .i64 op,.int .i64 u,.int .i64 na,.int .i64 nb,.int .i64 nc,.int .u64 num,.string nm],.int .i64 0]) /\ Below wr.heap.size wr w') := HN.out; clear HN
      gi_wp2_with fail
      refine ⟨trivial,(callsIn_wide.2 HN'.out).mono ?_⟩; rintro e w2 ⟨rfl,hb2⟩; have hsz2 := hb2.size; have hb3 : Below wr.heap.size wr (w2.alloc (Obj.cells #[.int .i64 op,.int .i64 u,.int .i64 na,.int .i64 nb,.int .i64 nc,.int .u64 num,.string nm] 40 (0,0))) := hb2.trans (below_le' (bel1 w2 _) hsz2); have hJ3 := hJ _ _ _ hJs ⟨hb3.os,hb3.tape,hb3.output,hb3.size,fun j hj _ => hb3.block j hj⟩; have hk3 : RDs B Bs cp (some ⟨b,o,none⟩) L O (w2.alloc (Obj.cells #[.int .i64 op,.int .i64 u,.int .i64 na,.int .i64 nb,.int .i64 nc,.int .u64 num,.string nm] 40 (0,0))) := HNX.out.cst (CSt.of_below hb3); obtain ⟨fn,tmps,assign,body,hy,hR⟩ := hY (O.attach.take k) x _ hJ3 (by rw [att_len O k (by omega)]; exact hkO); rw [HXE.out] at hy; have hy' : (Instr.yield l #[.int .i64 ((i0 : Int) + 1),.agg #[.int .i64 op,.int .i64 u,.int .i64 na,.int .i64 nb,.int .i64 nc,.int .u64 num,.string nm]]).run Tryz.prog (w2.alloc (Obj.cells #[.int .i64 op,.int .i64 u,.int .i64 na,.int .i64 nb,.int .i64 nc,.int .u64 num,.string nm] 40 (0,0))) = _ := hy; clear hy hb2 hJ3 hJs hb3
      gi_wp2
      refine hR.mono ?_; rintro e W3 (⟨rfl,hJ3,hk4⟩ | ⟨rfl,hJx3⟩)
      · gi_wp2
        go_roundw
        case rel => exact ⟨k + 1,by omega,by simp,by rw [HX.out]; exact hJ3,hk4 hk3⟩
        case measure => (simp [Lib.intOf]; omega)
      gi_wp2
      refine bodyPost_ret (results_none rfl _ _ _) rfl ?_; exact ⟨⟨_,rfl⟩,.inr ⟨_,⟨k + 1,HX.out.symm⟩,hJx3⟩⟩
    obtain rfl : k = len := by omega
    have q0 : ¬ (k : Int) < (k : Int) := by omega
    have ht : O.attach.take k = O.attach := by rw [<- HL.out]; exact List.take_of_length_le (by simp)
    rw [ht] at hJs
    gi_wp2
    go_end0
    refine ⟨⟨_,rfl⟩,.inl ?_⟩
    first | exact hJs | exact ⟨_,rfl,hJs⟩
theorem nodes3_stops (n : Nat) (hn : 1 <= n) (Bs B cp : Nat) (ad : Option Addr) (L : List Nd) (O : List Nat) (hall : ∀ t ∈ O,1 <= t /\ t <= L.length) (hOl : O.length <= 1000000000000) (w : World) (hR : RDs B Bs cp ad L O w) :
    SeqStopsK Fence.wide n Tryz.prog 61 #[.pointer (some ⟨Bs,0,none⟩)] (encT L (O := O)) (fun W W' => RDs B Bs cp ad L O W -> RDs B Bs cp ad L O W') (fun ys => ys = O.attach) (fun pre => ∃ k,pre = O.attach.take k) O.length w := fun l J Jx W hW hJ _ hY h0 =>
  nodes3_in n hn l Bs B cp ad L O hall hOl J Jx (fun s A A' hs hg2 => hJ s A A' none hs hg2 (fun r e => by cases e)) hY W (hR.cst (CSt.of_below hW)) h0
end Go.Proofs.YtkpapgfbnledpaaGreatDoor.GI
namespace Go.Proofs.YtkpapgfbnledpaaGreatDoor.GI
open Go.Proofs.YtkpapgfbnledpaaGreatDoor
open Go.ChangeShapes Go.WideShapes Go.ChangeAt Go.RowKit Go.Lib Go.Tm Go.Bw Go.Bn Go.WideMaps Go.Maps Go.ChangeMaps Go.Shelf

theorem fieldsN : Tryz.prog.underlying 40 = some (.struct (Tryz.prog.fieldsOf 40)) := by kernel_rfl
theorem heldN : Tryz.prog.stoodInHeld 40 = false := by kernel_rfl
theorem eqIn_nd (op u a b c num : Int) (nm : ByteArray) (a' b' c' : Int) (w : World) : ∃ r,(Op.equalIn 10000 40 (.agg #[.int .i64 op,.int .i64 u,.int .i64 a,.int .i64 b,.int .i64 c,.int .u64 num,.string nm]) (.agg #[.int .i64 op,.int .i64 u,.int .i64 a',.int .i64 b',.int .i64 c',.int .u64 num,.string nm])).run Tryz.prog w = .ok r w /\ (r = true ↔ a = a' /\ b = b' /\ c = c') := by
  rw [show (10000 : Nat) = 9999 + 1 from rfl,run_equalIn_struct w 9999 40 _ _ fieldsN heldN]; obtain ⟨fs,hfs⟩ : ∃ fs,(Tryz.prog.fieldsOf 40).toList = fs := ⟨_,rfl⟩; rw [hfs]; have hu := Tryz.underlying40; rw [fieldsN] at hu
  injection hu with hu
  injection hu with hu
  rw [hu] at hfs; subst hfs
  by_cases ha : a = a'
  · by_cases hb : b = b'
    · by_cases hc : c = c'
      · refine ⟨true,?_,by simp [ha,hb,hc]⟩
        subst ha hb hc
        simp [Op.eqFields,part,run_equalIn_int w 9998 3 .i64 .i64 _ _ Tryz.underlying3,run_equalIn_int w 9998 36 .u64 .u64 _ _ Tryz.underlying36,run_equalIn_string w 9998 9 _ _ Tryz.underlying9]
      refine ⟨false,?_,by simp [hc]⟩; subst ha hb
      simp [Op.eqFields,part,run_equalIn_int w 9998 3 .i64 .i64 _ _ Tryz.underlying3,hc]
    refine ⟨false,?_,by simp [hb]⟩; subst ha
    simp [Op.eqFields,part,run_equalIn_int w 9998 3 .i64 .i64 _ _ Tryz.underlying3,hb]
  refine ⟨false,?_,by simp [ha]⟩
  simp [Op.eqFields,part,run_equalIn_int w 9998 3 .i64 .i64 _ _ Tryz.underlying3,ha]
theorem eql_nd (op u a b c num : Int) (nm : ByteArray) (a' b' c' : Int) : ∃ r,(∀ w : World,(binOp .eql 40 (.agg #[.int .i64 op,.int .i64 u,.int .i64 a,.int .i64 b,.int .i64 c,.int .u64 num,.string nm]) (.agg #[.int .i64 op,.int .i64 u,.int .i64 a',.int .i64 b',.int .i64 c',.int .u64 num,.string nm])).run Tryz.prog w = .ok (.bool r) w) /\ (r = true ↔ a = a' /\ b = b' /\ c = c') := by
  by_cases h : a = a' /\ b = b' /\ c = c'
  · refine ⟨true,fun w => ?_,by simp [h]⟩
    obtain ⟨r,h1,h2⟩ := eqIn_nd op u a b c num nm a' b' c' w; obtain rfl := h2.2 h; rw [run_eql_struct,h1]
    rfl
  refine ⟨false,fun w => ?_,by simp [h]⟩; obtain ⟨r,h1,h2⟩ := eqIn_nd op u a b c num nm a' b' c' w; have hr : r = false := by
    cases r
    · rfl
    exact absurd (h2.1 rfl) h
  subst hr; rw [run_eql_struct,h1]
  rfl
def INS (w : World) (M n : Nat) (f : ByteArray -> Option Int) : Prop := ∃ D : DataW Unit,w.ownsMap Tryz.prog 9 (plainElem Tryz.prog 3) M n D /\ FM 9 Value.string (fun s => s.size <= 140737488355328) D f
theorem INS.made {W : World} {M : Nat} (h : W.heap[M]? = some (Obj.map #[] 0)) : INS W M 0 (fun _ => none) :=
  ⟨.map [],made0 h,FM.nil (fun s hs => key_str s hs)⟩
theorem INS.keep {W W' : World} {M n : Nat} {f : ByteArray -> Option Int} (h : INS W M n f) (hb : W'.heap[M]? = W.heap[M]?) : INS W' M n f := by
  obtain ⟨D,⟨es,clock,h1,h2⟩,hF⟩ := h; exact ⟨D,⟨es,clock,hb.trans h1,h2⟩,hF⟩
theorem INS.lt {W : World} {M n : Nat} {f : ByteArray -> Option Int} (h : INS W M n f) : M < W.heap.size := by
  obtain ⟨D,hm,hF⟩ := h; exact hm.lt
theorem INS.below {W W' : World} {M n : Nat} {f : ByteArray -> Option Int} (h : INS W M n f) (hb : Below W.heap.size W W') : INS W' M n f := h.keep (hb.block M h.lt)
theorem INS.look {W : World} {M n : Nat} {f : ByteArray -> Option Int} (h : INS W M n f) (s : ByteArray) (hs : s.size <= 140737488355328) : (Instr.lookup 76 (.map (some M)) (.string s) true).run Tryz.prog W = .ok (.tuple #[.int .i64 ((f s).getD 0),.bool (f s).isSome]) W := by
  obtain ⟨D,hm,hF⟩ := h; exact hF.look lawS Tryz.underlying76 (M := some M) hm s hs
theorem put1_any (t op u a b c num a' b' c' : Int) (nm : ByteArray) (p1 p2 B M n : Nat) (f : ByteArray -> Option Int) (PP : Ending -> World -> Prop) (w : World) (h1 : w.cell? ⟨p1,0,none⟩ = some (.map (some M))) (h2 : w.cell? ⟨p2,0,none⟩ = some (.pointer (some ⟨B,0,none⟩))) (hM : INS w M n f) (hs : nm.size <= 140737488355328) (hno : f nm = none)
    (hsame : a = a' /\ b = b' /\ c = c' -> ∀ w',Below w.heap.size w w' -> PP (.returned (.tuple #[.int .i64 t,.nilIface])) w')
    (hmk : ¬ (a = a' /\ b = b' /\ c = c') -> ∀ W,Below w.heap.size w W -> Calls Tryz.prog 43 #[.pointer (some ⟨B,0,none⟩),.agg #[.int .i64 op,.int .i64 u,.int .i64 a',.int .i64 b',.int .i64 c',.int .u64 num,.string nm]] W fun e w' => ∃ x y,e = .returned (.tuple #[x,y]) /\ PP e w') :
    Calls Tryz.prog 58 #[.int .i64 t,.agg #[.int .i64 op,.int .i64 u,.int .i64 a,.int .i64 b,.int .i64 c,.int .u64 num,.string nm],.agg #[.int .i64 op,.int .i64 u,.int .i64 a',.int .i64 b',.int .i64 c',.int .u64 num,.string nm],.pointer (some ⟨p1,0,none⟩),.pointer (some ⟨p2,0,none⟩)] w PP := by
  obtain ⟨r,hq,hr⟩ := eql_nd op u a' b' c' num nm a b c; have hb1 := block_lt_of_cell h1; have hb2 := block_lt_of_cell h2; have hbel := bel2 w (Obj.cells #[.int .i64 op,.int .i64 u,.int .i64 a,.int .i64 b,.int .i64 c,.int .u64 num,.string nm] 40 (0,0)) (Obj.cells #[.int .i64 op,.int .i64 u,.int .i64 a',.int .i64 b',.int .i64 c',.int .u64 num,.string nm] 40 (0,0)); have hlk := (hM.below hbel).look nm hs; rw [hno] at hlk
  dsimp only [Option.getD,Option.isSome] at hlk
  have HS : Hid (r = true -> ∀ w',Below w.heap.size w w' -> PP (.returned (.tuple #[.int .i64 t,.nilIface])) w') := fun h w' hb => hsame (by have := hr.1 h; omega) w' hb
  have HM : Hid (r = false -> ∀ W,Below w.heap.size w W -> Calls Tryz.prog 43 #[.pointer (some ⟨B,0,none⟩),.agg #[.int .i64 op,.int .i64 u,.int .i64 a',.int .i64 b',.int .i64 c',.int .u64 num,.string nm]] W fun e w' => ∃ x y,e = .returned (.tuple #[x,y]) /\ PP e w') := fun h W hb => hmk (fun h2 => by have := hr.2 ⟨h2.1.symm,h2.2.1.symm,h2.2.2.symm⟩; rw [h] at this; cases this) W hb
  have HB : Hid (Below w.heap.size w _) := hbel; clear hM hno hsame hmk hr hbel; cases r with
  | true =>
    have HS2 : Hid (∀ w',Below w.heap.size w w' -> PP (.returned (.tuple #[.int .i64 t,.nilIface])) w') := HS.out rfl; clear HS HM
    go_enter Tryz.func58,Tryz.ntmps58
    go_wp2_with fail
    first
      | exact HS2.out _ HB.out
      | (go_ret2; exact HS2.out _ HB.out)
  | false =>
    have HM2 := Lib.hid (HM.out rfl _ HB.out); clear HS HM
    go_enter Tryz.func58,Tryz.ntmps58
    go_wp2_with fail
    refine HM2.out.mono ?_; rintro e w1 ⟨x,y,rfl,hp⟩; have HP : Hid (PP (.returned (.tuple #[x,y])) w1) := hp; clear hp
    go_wp2_with fail
    first
      | exact HP.out
      | (go_ret2; exact HP.out)
end Go.Proofs.YtkpapgfbnledpaaGreatDoor.GI
namespace Go.Proofs.YtkpapgfbnledpaaGreatDoor.GI
open Go.Proofs.YtkpapgfbnledpaaGreatDoor
open Go.ChangeShapes Go.WideShapes Go.ChangeAt Go.RowKit Go.Lib Go.Tm Go.Bw Go.Bn Go.WideMaps Go.Maps Go.ChangeMaps Go.Shelf

theorem makein_any (B0 B : Nat) (lim : Int) (L : List Nd) (v : Value) (M1 M2 : Option Nat) (n : Nd) (w : World) (h : SM 78 w B0 B lim L v M1 M2) (hB0 : B0 <= w.heap.size) (hl : L.length < 1000000000000) (hn : n.ok) :
    Calls Tryz.prog 43 #[.pointer (some ⟨B,0,none⟩),nodeV n] w fun e w' => AddP 78 w B0 B lim (mk lim L n).1 v M1 M2 w' /\ (((mk lim L n).2.2 = 0 /\ e = .returned (.tuple #[.int .i64 (mk lim L n).2.1,.nilIface])) ∨ ((mk lim L n).2.2 ≠ 0 /\ ∃ ty x,e = .returned (.tuple #[.int .i64 0,.iface ty x]))) := by
  have HMk : Hid (∀ o,Calls Tryz.prog 28 #[.pointer (some ⟨B,0,none⟩),nodeV n] (w.alloc o) fun e w' => e = .returned (.tuple #[.int .i64 (mk lim L n).2.1,.int .i64 (mk lim L n).2.2]) /\ AddP 78 w B0 B lim (mk lim L n).1 v M1 M2 w' /\ w'.heap[w.heap.size]? = some o) := fun o => (make_any B0 B lim L v M1 M2 n (w.alloc o) (h.below (bel1 w o)) (Nat.le_trans hB0 (bel1 w o).size) hl hn).mono fun e w' ⟨he,hA⟩ => by
    refine ⟨he,hA.back (bel1 w o),?_⟩; obtain ⟨v',N1,N2,hs,hk,ho,hne⟩ := hA; exact (hk.block w.heap.size (by simp) (fun hw => by have := h.lt hw; omega)).trans (heap_alloc_new w o)
  clear h hB0 hl hn
  generalize (mk lim L n).1 = L2 at *
  generalize (mk lim L n).2.1 = r at *
  generalize (mk lim L n).2.2 = er at *
  obtain ⟨op,u,a,b,c,num,nm⟩ := n; unfold nodeV at *
  dsimp only at *
  by_cases he : er = 0
  · subst he
    go_enter Tryz.func43,Tryz.ntmps43
    go_wp2_with fail
    refine (HMk.out _).mono ?_; rintro e w1 ⟨rfl,hA,hbx⟩; have HA : Hid (AddP 78 w B0 B lim L2 v M1 M2 w1) := hA; clear hA HMk hbx
    go_wp2_with fail
    first
      | exact ⟨HA.out,Or.inl ⟨trivial,rfl⟩⟩
      | (go_ret2; exact ⟨HA.out,Or.inl ⟨trivial,rfl⟩⟩)
  have q0 : (er != 0) = true := by simpa using he
  go_enter Tryz.func43,Tryz.ntmps43
  go_wp2_with fail
  refine (HMk.out _).mono ?_; rintro e w1 ⟨rfl,hA,hbx⟩; have HA : Hid (AddP 78 w B0 B lim L2 v M1 M2 w1) := hA; have d0 : w1.cell? ⟨w.heap.size,0,none⟩ = some (.int .i64 op) := blk_cell hbx 0; have HN : Hid (er ≠ 0) := he; have HD : Hid (∀ n,AddP 78 w B0 B lim L2 v M1 M2 (w1.drewN n)) := fun n => by
    obtain ⟨v',N1,N2,hs,hk,ho,hne⟩ := HA.out; exact ⟨v',N1,N2,hs.below ⟨rfl,rfl,rfl,Nat.le_refl _,fun _ _ => rfl⟩,⟨hk.os,hk.tape,hk.output,hk.size,hk.block⟩,ho,hne⟩
  clear hA HMk he hbx
  go_wp2_with fail
  first | go_region | skip
  all_goals go_wp2_with fail
  all_goals first
    | exact ⟨HA.out,Or.inr ⟨HN.out,_,_,rfl⟩⟩
    | exact ⟨HD.out 1,Or.inr ⟨HN.out,_,_,rfl⟩⟩
    | (go_ret2; exact ⟨HA.out,Or.inr ⟨HN.out,_,_,rfl⟩⟩)
    | (go_ret2; exact ⟨HD.out 1,Or.inr ⟨HN.out,_,_,rfl⟩⟩)
end Go.Proofs.YtkpapgfbnledpaaGreatDoor.GI
namespace Go.Proofs.YtkpapgfbnledpaaGreatDoor.GI
open Go.Proofs.YtkpapgfbnledpaaGreatDoor
open Go.ChangeShapes Go.WideShapes Go.ChangeAt Go.RowKit Go.Lib Go.Tm Go.Bw Go.Bn Go.WideMaps Go.Maps Go.ChangeMaps Go.Shelf
attribute [local go_sem] Oper.semAt_some

theorem res_cc {P : Program} {fn : Func} {p u : Tmp} {ty tu : TypeId} (h : fn.results = #[.cell p ty,.cell u tu]) (tmps : Array Value) (w : World) (a b : Addr) (x y : Value)
    (hp : tmps.getD p undef = .pointer (some a)) (hq : tmps.getD u undef = .pointer (some b)) (hx : (loadVar ty a).run P w = .ok x w) (hy : (loadVar tu b).run P w = .ok y w) :
    (results fn tmps).run P w = .ok (.tuple #[x,y]) w := by
  simp only [results,h]
  simp [Sem.run_bind,Result.andThen]
  rw [show tmps[p]?.getD undef = tmps.getD p undef by simp,show tmps[u]?.getD undef = tmps.getD u undef by simp,hp,hq]
  simp [asAddr,hx,hy]
structure FRB (w W w' : World) (q : Nat) : Prop where
  os : w'.os = W.os
  tape : w'.tape = W.tape
  output : w'.output = W.output
  size : W.heap.size <= w'.heap.size
  block : ∀ j,j < W.heap.size -> (j = q ∨ (w.heap.size <= j /\ ∃ o,W.heap[j]? = some o /\ (o.isCells = false ∨ ∃ cs t fr,o = .cells cs t fr /\ t ≠ 40 /\ t ≠ 78))) -> w'.heap[j]? = W.heap[j]?
structure FRQ (w W W' : World) (q : Nat) : Prop where
  os : W'.os = W.os
  tape : W'.tape = W.tape
  output : W'.output = W.output
  size : W.heap.size <= W'.heap.size
  block : ∀ j,j < W.heap.size -> j ≠ q -> (j < w.heap.size ∨ ∃ cs fr,W.heap[j]? = some (.cells cs 40 fr)) -> W'.heap[j]? = W.heap[j]?
def npN (n : Nd) (a b c : Nat) : Nd := { n with a := (a : Int),b := (b : Int),c := (c : Int) }
structure RMH (w : World) (B p1 p2 : Nat) (aO : Option Addr) (L : List Nd) (O : List Nat) (Fn : List (ET O) -> Option (Nat -> Nat)) (Q : Nat -> List (ET O) -> World -> Prop) : Prop where
  ob : ∀ t ∈ O,1 <= t /\ t <= L.length
  len : O.length <= 1000000000000
  mx : mxN O <= 1000000000000
  par : ∀ t ∈ O,(L.getD (t - 1) z0).a = ((pA L t : Nat) : Int) /\ (L.getD (t - 1) z0).b = ((pB L t : Nat) : Int) /\ (L.getD (t - 1) z0).c = ((pC L t : Nat) : Int) /\ pA L t < mxN O + 1 /\ pB L t < mxN O + 1 /\ pC L t < mxN O + 1
  rd : ∀ q pre W,Q q pre W -> (∃ g L',SR W B g L' /\ ∀ t ∈ O,t <= L'.length /\ L'.getD (t - 1) z0 = L.getD (t - 1) z0) /\ OR W aO O
  f0 : Fn [] = some (fun _ => 0)
  f1 : ∀ k,Fn (O.attach.take k) ≠ none
  q0 : ∀ q W,w.heap.size <= q -> q < W.heap.size -> Below w.heap.size w W -> Q q [] W
  qk : ∀ q pre W W',w.heap.size <= q -> Q q pre W -> FRQ w W W' q -> Q q pre W'
  bc : ∀ q pre x f W,w.heap.size <= q -> Q q pre W -> Fn pre = some f -> pre.length < O.length -> Calls Tryz.prog 58 #[.int .i64 (x.1 : Int),nodeV (L.getD (x.1 - 1) z0),nodeV (npN (L.getD (x.1 - 1) z0) (f (pA L x.1)) (f (pB L x.1)) (f (pC L x.1))),.pointer (some ⟨p1,0,none⟩),.pointer (some ⟨p2,0,none⟩)] W fun e w' => FRB w W w' q /\ ((∃ r : Nat,r <= 9223372036854775807 /\ e = .returned (.tuple #[.int .i64 (r : Int),.nilIface]) /\ Fn (pre ++ [x]) = some (fun y => if y = x.1 then r else f y) /\ Q q (pre ++ [x]) w') ∨ (∃ r ty v,e = .returned (.tuple #[.int .i64 r,.iface ty v]) /\ Fn (pre ++ [x]) = none))
structure RMI (w : World) (H b5 b6 b7 b8 Bs B p1 p2 q m cO : Nat) (lv tv : Value) (aO : Option Addr) (L : List Nd) {O : List Nat} (Fn : List (ET O) -> Option (Nat -> Nat)) (Q : Nat -> List (ET O) -> World -> Prop) (pre : List (ET O)) (W : World) : Prop where
  fn : ∃ f,Fn pre = some f /\ NU W q lv tv m pre.length f
  qq : Q q pre W
  hs : H <= W.heap.size
  k5 : W.heap[b5]? = some (.cells #[.func (.func 58) #[] #[.pointer (some ⟨p1,0,none⟩),.pointer (some ⟨p2,0,none⟩)]] 108 (0,0))
  k6 : W.heap[b6]? = some (.cells #[.slice none 0 0] 23 (0,0))
  k7 : W.heap[b7]? = some (.cells #[.nilIface] 84 (0,0))
  k8 : W.heap[b8]? = some (.cells #[lv,tv] 154 (0,0))
  ks : W.heap[Bs]? = some (.cells #[.pointer (some ⟨B,0,none⟩),.slice aO O.length cO] 68 (0,0))
theorem RMI.own {w : World} {H b5 b6 b7 b8 Bs B p1 p2 q m cO : Nat} {lv tv : Value} {aO : Option Addr} {L : List Nd} {O : List Nat} {Fn : List (ET O) -> Option (Nat -> Nat)} {Q : Nat -> List (ET O) -> World -> Prop} (hh : RMH w B p1 p2 aO L O Fn Q) (hw : w.heap.size <= q) (hq : q < H) : OwnFrom H (fun pre W => RMI w H b5 b6 b7 b8 Bs B p1 p2 q m cO lv tv aO L (O := O) Fn Q pre W) := fun pre W W' row hs hg hr => by
  have hk : ∀ (j : Nat) (cs : Array Value) (t : TypeId) (fr : Nat × Nat),W.heap[j]? = some (Obj.cells cs t fr) -> W'.heap[j]? = W.heap[j]? := fun j cs t fr hj => hg.block j (Array.getElem?_eq_some_iff.1 hj).1 (fun e => by
    obtain ⟨_,o,ho,hc⟩ := hr j e.symm; rw [hj] at ho; cases ho; cases hc)
  obtain ⟨f,h1,h2⟩ := hs.fn; refine ⟨⟨f,h1,h2.keep (hg.block q h2.lt (fun e => by have := (hr q e.symm).1; omega))⟩,hh.qk q pre W W' hw hs.qq ⟨hg.os,hg.tape,hg.output,hg.size,fun j hj _ hc => ?_⟩,Nat.le_trans hs.hs hg.size,(hk _ _ _ _ hs.k5).trans hs.k5,(hk _ _ _ _ hs.k6).trans hs.k6,(hk _ _ _ _ hs.k7).trans hs.k7,(hk _ _ _ _ hs.k8).trans hs.k8,(hk _ _ _ _ hs.ks).trans hs.ks⟩
  rcases hc with hc | ⟨cs,fr,hc⟩
  · exact hg.block j hj (fun e => by have := (hr j e.symm).1; omega)
  exact hk _ _ _ _ hc
theorem RMI.over {w : World} {H b5 b6 b7 b8 Bs B p1 p2 q m cO : Nat} {lv tv : Value} {aO : Option Addr} {L : List Nd} {O : List Nat} {Fn : List (ET O) -> Option (Nat -> Nat)} {Q : Nat -> List (ET O) -> World -> Prop} (hh : RMH w B p1 p2 aO L O Fn Q) (hw : w.heap.size <= q) (hq : q < H) {pre : List (ET O)} {W W' : World} (hs : RMI w H b5 b6 b7 b8 Bs B p1 p2 q m cO lv tv aO L (O := O) Fn Q pre W) (hb : Below W.heap.size W W') : RMI w H b5 b6 b7 b8 Bs B p1 p2 q m cO lv tv aO L (O := O) Fn Q pre W' :=
  RMI.own hh hw hq pre W W' none hs ⟨hb.os,hb.tape,hb.output,hb.size,fun j hj _ => hb.block j hj⟩ (fun r e => by cases e)
theorem remade_any {aO aR : Option Addr} {cO cR B p1 p2 : Nat} {L : List Nd} {O : List Nat} {rs : List Int} (Fn : List (ET O) -> Option (Nat -> Nat)) (Q : Nat -> List (ET O) -> World -> Prop) (w : World) (hH : RMH w B p1 p2 aO L O Fn Q) (hO : OR w aO O) (hQI : ∀ q pre W,Q q pre W -> IR W aR rs)
    (hrs : ∀ x ∈ rs,0 <= x /\ x.toNat < mxN O + 1) (hrl : rs.length <= 1000000000000) :
    Calls Tryz.prog 41 #[.agg #[.pointer (some ⟨B,0,none⟩),.slice aO O.length cO],.slice aR rs.length cR,.func (.func 58) #[] #[.pointer (some ⟨p1,0,none⟩),.pointer (some ⟨p2,0,none⟩)]] w fun e w' => ∃ g2 f q,e = .returned (.tuple #[.slice (some ⟨g2,0,none⟩) rs.length rs.length,.nilIface]) /\ Fn O.attach = some f /\ UL w' g2 rs.length (fun j => f (rs.getD j 0).toNat) /\ w.heap.size <= g2 /\ w.heap.size <= q /\ Q q O.attach w' := by
  generalize hPP : (fun (e : Ending) (w' : World) => ∃ g2 f q,e = .returned (.tuple #[.slice (some ⟨g2,0,none⟩) rs.length rs.length,.nilIface]) /\ Fn O.attach = some f /\ UL w' g2 rs.length (fun j => f (rs.getD j 0).toNat) /\ w.heap.size <= g2 /\ w.heap.size <= q /\ Q q O.attach w') = PP
  obtain ⟨d,hd⟩ : ∃ d,rs.length = d := ⟨_,rfl⟩; have HPP : Hid (∀ g2 f q w',Fn O.attach = some f -> UL w' g2 d (fun j => f (rs.getD j 0).toNat) -> w.heap.size <= g2 -> w.heap.size <= q -> Q q O.attach w' -> PP (.returned (.tuple #[.slice (some ⟨g2,0,none⟩) d d,.nilIface])) w') := fun g2 f q w' h1 h2 h3 h4 h5 => by rw [<- hPP]; subst hd; exact ⟨g2,f,q,rfl,h1,h2,h3,h4,h5⟩
  clear hPP; have HD : Hid (rs.length = d) := hd; obtain ⟨n,hn⟩ : ∃ n,O.length = n := ⟨_,rfl⟩; have HN : Hid (O.length = n) := hn; obtain ⟨m,hm⟩ : ∃ m,mxN O + 1 = m := ⟨_,rfl⟩; have HM : Hid (mxN O + 1 = m) := hm; have HH : Hid (RMH w B p1 p2 aO L O Fn Q) := hH; have HO : Hid (OR w aO O) := hO; have HI : Hid (∀ q pre W,Q q pre W -> IR W aR rs) := hQI; have HRS : Hid (∀ x ∈ rs,0 <= x /\ x.toNat < m) := by rw [<- hm]; exact hrs
  have HZn : Hid (∀ W,OR W aO O -> Calls Tryz.prog 70 #[.slice aO n cO] W fun e w' => ∃ q lv tv,e = .returned (.agg #[lv,tv]) /\ NU w' q lv tv m 0 (fun _ => 0) /\ Below W.heap.size W w' /\ W.heap.size <= q) := fun W h => by
    rw [<- hn,<- hm]; exact nnew_any W h hH.mx hH.len
  rw [hd] at hrl ⊢; rw [hn]; clear hd hn hm hH hO hQI hrs; refine (callsIn_wide (n := 9)).1 ?_; refine callsIn_of_wp_marks Tryz.func41 rfl trivial ?_ rfl; simp only [Tryz.ntmps41,List.size_toArray,List.length_cons,List.length_nil,Nat.reduceAdd,Nat.reduceSub,Array.replicate_succ,Array.replicate_zero,List.push_toArray,List.append_toArray,List.nil_append,List.cons_append]
  gi_wp2_with fail
  obtain ⟨W1,hW1⟩ : ∃ W1,((((w.alloc (Obj.cells #[.pointer (some ⟨B,0,none⟩),.slice aO n cO] 68)).alloc (Obj.cells #[.func (.func 58) #[] #[.pointer (some ⟨p1,0,none⟩),.pointer (some ⟨p2,0,none⟩)]] 108)).alloc (Obj.cells #[.slice none 0 0] 23)).alloc (Obj.cells #[.nilIface] 84)) = W1 := ⟨_,rfl⟩; have HW1 : Hid (Below w.heap.size w W1 /\ W1.heap.size = w.heap.size + 4 /\ W1.heap[w.heap.size]? = some (.cells #[.pointer (some ⟨B,0,none⟩),.slice aO n cO] 68 (0,0)) /\ W1.heap[w.heap.size + 1]? = some (.cells #[.func (.func 58) #[] #[.pointer (some ⟨p1,0,none⟩),.pointer (some ⟨p2,0,none⟩)]] 108 (0,0)) /\ W1.heap[w.heap.size + 2]? = some (.cells #[.slice none 0 0] 23 (0,0)) /\ W1.heap[w.heap.size + 3]? = some (.cells #[.nilIface] 84 (0,0))) := by
    rw [<- hW1]; refine ⟨(bel3 w _ _ _).trans (below_le' (bel1 _ _) (by simp <;> omega)),by simp,?_,?_,?_,?_⟩
    · rw [Below.heap_alloc _ _ _ (by simp <;> omega),Below.heap_alloc _ _ _ (by simp <;> omega),Below.heap_alloc _ _ _ (by simp)]
      exact heap_alloc_new w _
    · rw [Below.heap_alloc _ _ _ (by simp <;> omega),Below.heap_alloc _ _ _ (by simp)]
      exact heap2 w _ _
    · rw [Below.heap_alloc _ _ _ (by simp)]
      exact heap3 w _ _ _
    have h := heap_alloc_new (((w.alloc (Obj.cells #[.pointer (some ⟨B,0,none⟩),.slice aO n cO] 68)).alloc (Obj.cells #[.func (.func 58) #[] #[.pointer (some ⟨p1,0,none⟩),.pointer (some ⟨p2,0,none⟩)]] 108)).alloc (Obj.cells #[.slice none 0 0] 23)) (Obj.cells #[.nilIface] 84)
    simpa using h
  rw [hW1]; clear hW1; refine ⟨trivial,(callsIn_wide.2 (HZn.out W1 (HO.out.below HW1.out.1))).mono ?_⟩; rintro e w2 ⟨q,lv,tv,rfl,hnu2,hb2,hq2⟩; have hs2 := hb2.size; have hs1 := HW1.out.2.1; have HB2 : Hid (NU w2 q lv tv m 0 (fun _ => 0) /\ Below w.heap.size w w2 /\ w.heap.size + 4 <= q) := ⟨hnu2,HW1.out.1.trans (below_le' hb2 (by omega)),by omega⟩; have g0 := (hb2.block w.heap.size (by omega)).trans HW1.out.2.2.1; have g1 := (hb2.block (w.heap.size + 1) (by omega)).trans HW1.out.2.2.2.1; have g2 := (hb2.block (w.heap.size + 2) (by omega)).trans HW1.out.2.2.2.2.1; have g3 := (hb2.block (w.heap.size + 3) (by omega)).trans HW1.out.2.2.2.2.2; clear hnu2 hb2 hq2 HZn HW1; have k0 : w2.cell? ⟨w.heap.size,0,none⟩ = some (.pointer (some ⟨B,0,none⟩)) := blk_cell g0 0; have k1 : w2.cell? ⟨w.heap.size,1,none⟩ = some (.slice aO n cO) := blk_cell g0 1; have hlt2 : w.heap.size < w2.heap.size := by omega
  clear hs1 hs2; have hst2 : (store ⟨w2.heap.size,0,none⟩ lv).run Tryz.prog (w2.alloc (Obj.cells #[.slice none 0 0,.map none] 154)) = .ok () (w2.alloc (Obj.cells #[lv,.map none] 154)) := by
    rcases HB2.out.1.2 with ⟨rfl,_,_⟩ | ⟨rfl,_,_⟩ <;> go_simp
  have hst3 : (store ⟨w2.heap.size,1,none⟩ tv).run Tryz.prog (w2.alloc (Obj.cells #[lv,.map none] 154)) = .ok () (w2.alloc (Obj.cells #[lv,tv] 154)) := by
    rcases HB2.out.1.2 with ⟨_,rfl,_⟩ | ⟨_,rfl,_⟩ <;> go_simp
  gi_wp2_with fail
  clear hst2 hst3; refine ⟨trivial,(callsIn_wide.2 (nodes_in _ _ _ _ _)).mono ?_⟩; rintro e w' ⟨rfl,rfl⟩
  gi_wp2_with fail
  obtain ⟨b8,hb8⟩ : ∃ b8,w2.heap.size = b8 := ⟨_,rfl⟩; obtain ⟨W0,hW0⟩ : ∃ W0,((w2.alloc (Obj.cells #[lv,tv] 154)).alloc (Obj.cells #[.pointer (some ⟨B,0,none⟩),.slice aO n cO] 68)) = W0 := ⟨_,rfl⟩; have hb02 : Below w2.heap.size w2 W0 := by rw [<- hW0]; exact bel2 _ _ _
  have h0s : W0.heap.size = b8 + 2 := by rw [<- hW0,<- hb8]; simp
  have hk8 : W0.heap[b8]? = some (Obj.cells #[lv,tv] 154 (0,0)) := by
    rw [<- hW0,<- hb8,Below.heap_alloc _ _ _ (by simp)]; exact heap_alloc_new w2 _
  have hks : W0.heap[b8 + 1]? = some (Obj.cells #[.pointer (some ⟨B,0,none⟩),.slice aO n cO] 68 (0,0)) := by
    rw [<- hW0,<- hb8]; exact heap2 w2 _ _
  have hqw : w.heap.size <= q := by have := HB2.out.2.2; omega
  have hq8 : q < b8 := by rw [<- hb8]; exact HB2.out.1.lt
  have hBw : Below w.heap.size w W0 := HB2.out.2.1.trans (below_le' hb02 HB2.out.2.1.size); have HQN : Hid (w.heap.size <= q /\ q < b8 /\ w.heap.size + 4 <= q) := ⟨hqw,hq8,HB2.out.2.2⟩; have HI0 : Hid (RMI w W0.heap.size (w.heap.size + 1) (w.heap.size + 1 + 1) (w.heap.size + 1 + 1 + 1) b8 (b8 + 1) B p1 p2 q m cO lv tv aO L (O := O) Fn Q [] W0) := by
    refine ⟨⟨_,HH.out.f0,HB2.out.1.below hb02⟩,HH.out.q0 q W0 hqw (by omega) hBw,Nat.le_refl _,(hb02.block _ (Array.getElem?_eq_some_iff.1 g1).1).trans g1,(hb02.block _ (Array.getElem?_eq_some_iff.1 g2).1).trans g2,(hb02.block _ (Array.getElem?_eq_some_iff.1 g3).1).trans g3,hk8,?_⟩; rw [HN.out]; exact hks
  have HR0 : Hid (RDs B (b8 + 1) cO aO L O W0) := by
    obtain ⟨h1,h2⟩ := HH.out.rd q [] W0 HI0.out.qq; refine ⟨h1,h2,blk_cell hks 0,?_⟩; rw [HN.out]; exact blk_cell hks 1
  have hq0 : q < W0.heap.size := by omega
  have hHw : w.heap.size <= W0.heap.size := hBw.size; rw [hb8,hW0]; clear hb8 hW0 hb02 hk8 hks hBw g0 g1 g2 g3 k0 k1 HB2 hlt2; refine wpIn_rangeFunc_ownH (F := Fence.wide) rfl (by omega) (gf := 61) (lb := #[.pointer (some ⟨b8 + 1,0,none⟩)]) rfl trivial (enters_of Tryz.func61 (by kernel_rfl) rfl)
    (nodes3_stops _ (by omega) (b8 + 1) B cO aO L O HH.out.ob HH.out.len W0 HR0.out) (fun h1 h2 h => h2 (h1 h)) (fun W l o o' h1 h2 h3 h4 h => h.cst (CSt.of_put o' h2 h3)) (Below.refl _ _) (fun _ => rfl)
    (fun pre W => RMI w W0.heap.size (w.heap.size + 1) (w.heap.size + 1 + 1) (w.heap.size + 1 + 1 + 1) b8 (b8 + 1) B p1 p2 q m cO lv tv aO L (O := O) Fn Q pre W) (fun _ pre _ => Fn pre = none) (RMI.own HH.out hqw hq0) (fun c => fun _ _ _ _ h _ _ => h)
    HI0.out
    (fun x a' W => ∃ Bx,W0.heap.size <= Bx /\ W.heap[Bx]? = some (Obj.cells (ndA (L.getD (x.1 - 1) z0)) 40 (0,0)) /\ a' = { tmps := #[.agg #[.pointer (some ⟨B,0,none⟩),.slice aO n cO],.slice aR d cR,.func (.func 58) #[] #[.pointer (some ⟨p1,0,none⟩),.pointer (some ⟨p2,0,none⟩)],.pointer (some ⟨w.heap.size,0,none⟩),undef,.pointer (some ⟨w.heap.size + 1,0,none⟩),.pointer (some ⟨w.heap.size + 1 + 1,0,none⟩),.pointer (some ⟨w.heap.size + 1 + 1 + 1,0,none⟩),.pointer (some ⟨b8,0,none⟩),.int .i64 (x.1 : Int),.pointer (some ⟨Bx,0,none⟩),undef,undef,undef,.pointer (some ⟨w.heap.size,1,none⟩),.slice aO n cO,.agg #[lv,tv],.agg #[.pointer (some ⟨B,0,none⟩),.slice aO n cO],.func (.func 61) #[] #[.pointer (some ⟨b8 + 1,0,none⟩)],.int .i64 (x.1 : Int),nodeV (L.getD (x.1 - 1) z0),undef,undef,undef,undef,undef,undef,undef,undef,undef,undef,undef,undef,undef,undef,undef,undef,undef,undef,undef,undef,undef,undef,undef,undef,undef,undef,undef,undef,undef,undef,undef,undef,undef,undef],defers := [] })
    ?hax ?assign ?body ?done ?stop
  case hax =>
    rintro x a' _ X Y row ⟨Bx,h1,h2,h3⟩ hg2 hr; exact ⟨Bx,h1,(hg2.block Bx (Array.getElem?_eq_some_iff.1 h2).1 (fun e => by
      obtain ⟨_,o,ho,hc⟩ := hr Bx e.symm; rw [h2] at ho; cases ho; cases hc)).trans h2,h3⟩
  case assign =>
    rintro l pre x W K hi hK; simp only [encT,nodeV]; unfold nodeV ndA at hK
    generalize L.getD (x.1 - 1) z0 = nd at *
    gi_wp2
    exact hK _ _ ⟨by simp,fun k o _ hk _ => (Below.heap_alloc _ _ _ (Array.getElem?_eq_some_iff.1 hk).1).trans hk⟩ (fun h => h.cst (CSt.of_below (bel1 W _))) (RMI.over HH.out hqw hq0 hi (bel1 W _)) ⟨W.heap.size,hi.hs,heap_alloc_new W _,rfl⟩
  case body =>
    rintro l pre x a' W hl _ hI ⟨Bx,hBx,hbx,rfl⟩ hlt; obtain ⟨f,hf,hnu⟩ := hI.fn; have hp := HH.out.par x.1 x.2; have hxm : x.1 < m := by
      have := mxN_ge x.2; have := HM.out
      omega
    rw [HM.out] at hp; have hHs := hI.hs; have hlN : pre.length <= 1000000000000 := by have := HH.out.len; omega
    have HX : Hid (∀ X,Below W.heap.size W X -> X.cell? ⟨b8,0,none⟩ = some lv /\ X.cell? ⟨b8,1,none⟩ = some tv /\ X.heap[Bx]? = some (Obj.cells (ndA (L.getD (x.1 - 1) z0)) 40 (0,0))) := fun X hb => by
      have h8 := (hb.block b8 (Array.getElem?_eq_some_iff.1 hI.k8).1).trans hI.k8; exact ⟨blk_cell h8 0,blk_cell h8 1,(hb.block Bx (Array.getElem?_eq_some_iff.1 hbx).1).trans hbx⟩
    have HAT : Hid (∀ X i,i < m -> Below W.heap.size W X -> Calls Tryz.prog 71 #[.agg #[lv,tv],.int .i64 (i : Int)] X fun e w' => e = .returned (.int .i64 ((f i : Nat) : Int)) /\ Below X.heap.size X w') := fun X i hi hb => nat_any q m pre.length lv tv f i X (hnu.below hb) hi
    have HBC : Hid (∀ X,Below W.heap.size W X -> Calls Tryz.prog 58 #[.int .i64 (x.1 : Int),nodeV (L.getD (x.1 - 1) z0),nodeV (npN (L.getD (x.1 - 1) z0) (f (pA L x.1)) (f (pB L x.1)) (f (pC L x.1))),.pointer (some ⟨p1,0,none⟩),.pointer (some ⟨p2,0,none⟩)] X fun e w' => FRB w X w' q /\ ((∃ r : Nat,r <= 9223372036854775807 /\ e = .returned (.tuple #[.int .i64 (r : Int),.nilIface]) /\ Fn (pre ++ [x]) = some (fun y => if y = x.1 then r else f y) /\ Q q (pre ++ [x]) w') ∨ (∃ r ty v,e = .returned (.tuple #[.int .i64 r,.iface ty v]) /\ Fn (pre ++ [x]) = none))) := fun X hb =>
      HH.out.bc q pre x f X HQN.out.1 (HH.out.qk q pre W X HQN.out.1 hI.qq ⟨hb.os,hb.tape,hb.output,hb.size,fun j hj _ _ => hb.block j hj⟩) hf hlt
    have HK : Hid (∀ X Y,Below W.heap.size W X -> FRB w X Y q -> NU Y q lv tv m pre.length f /\ Y.cell? ⟨w.heap.size + 1,0,none⟩ = X.cell? ⟨w.heap.size + 1,0,none⟩ /\ Y.cell? ⟨b8,0,none⟩ = some lv /\ Y.cell? ⟨b8,1,none⟩ = some tv /\ W.heap.size <= Y.heap.size /\ (∀ o t cs fr,w.heap.size <= o -> W.heap[o]? = some (.cells cs t fr) -> t ≠ 40 -> t ≠ 78 -> Y.heap[o]? = some (.cells cs t fr))) := fun X Y hb hr => by
      have hkk : ∀ o t cs fr,w.heap.size <= o -> W.heap[o]? = some (.cells cs t fr) -> t ≠ 40 -> t ≠ 78 -> X.heap[o]? = some (.cells cs t fr) /\ Y.heap[o]? = some (.cells cs t fr) := fun o t cs fr ho hc h1 h2 => by
        have h3 := (hb.block o (Array.getElem?_eq_some_iff.1 hc).1).trans hc; exact ⟨h3,(hr.block o (Array.getElem?_eq_some_iff.1 h3).1 (Or.inr ⟨ho,_,h3,Or.inr ⟨_,_,_,rfl,h1,h2⟩⟩)).trans h3⟩
      have hn := hnu.below hb; have q3 := HQN.out; obtain ⟨a1,a2⟩ := hkk _ _ _ _ (by omega) hI.k8 (by decide) (by decide); obtain ⟨a3,a4⟩ := hkk _ _ _ _ (by omega) hI.k5 (by decide) (by decide); exact ⟨hn.keep (hr.block q hn.lt (Or.inl rfl)),(blk_cell a4 0).trans (blk_cell a3 0).symm,blk_cell a2 0,blk_cell a2 1,Nat.le_trans hb.size hr.size,fun o t cs fr h1 h2 h3 h4 => (hkk o t cs fr h1 h2 h3 h4).2⟩
    have HST : Hid (∀ Y r,NU Y q lv tv m pre.length f -> r <= 9223372036854775807 -> Calls Tryz.prog 72 #[.agg #[lv,tv],.int .i64 (x.1 : Int),.int .i64 ((r : Nat) : Int)] Y fun e w' => e = .returned (.tuple #[]) /\ NU w' q lv tv m (pre.length + 1) (fun y => if y = x.1 then r else f y) /\ Y.grownBy w' (some q)) := fun Y r hn hr => nset_any q m pre.length lv tv f x.1 r Y hn hxm hr (by omega)
    have HEND : Hid (∀ X Y Z r,Below W.heap.size W X -> FRB w X Y q -> Fn (pre ++ [x]) = some (fun y => if y = x.1 then r else f y) -> Q q (pre ++ [x]) Y -> NU Z q lv tv m (pre.length + 1) (fun y => if y = x.1 then r else f y) -> Y.grownBy Z (some q) -> KeepsFrom W0.heap.size W Z /\ (RDs B (b8 + 1) cO aO L O W -> RDs B (b8 + 1) cO aO L O Z) /\ RMI w W0.heap.size (w.heap.size + 1) (w.heap.size + 1 + 1) (w.heap.size + 1 + 1 + 1) b8 (b8 + 1) B p1 p2 q m cO lv tv aO L (O := O) Fn Q (pre ++ [x]) Z) := fun X Y Z r hb hr hf2 hQ2 hn2 hg => by
      obtain ⟨_,_,_,_,hsz,hkk⟩ := HK.out X Y hb hr; have q3 := HQN.out; have hkz : ∀ o t cs fr,w.heap.size <= o -> W.heap[o]? = some (.cells cs t fr) -> t ≠ 40 -> t ≠ 78 -> o ≠ q -> Z.heap[o]? = some (.cells cs t fr) := fun o t cs fr h1 h2 h3 h4 h5 => by
        have h6 := hkk o t cs fr h1 h2 h3 h4; exact (hg.block o (Array.getElem?_eq_some_iff.1 h6).1 (fun e => h5 (by cases e; rfl))).trans h6
      have hQZ : Q q (pre ++ [x]) Z := HH.out.qk q _ Y Z q3.1 hQ2 ⟨hg.os,hg.tape,hg.output,hg.size,fun j hj hn _ => hg.block j hj (fun e => hn (by cases e; rfl))⟩; have hks := hkz _ _ _ _ (by omega) hI.ks (by decide) (by decide) (by omega); obtain ⟨r1,r2⟩ := HH.out.rd q _ Z hQZ; refine ⟨⟨Nat.le_trans hsz hg.size,fun k o hB hk hc => ?_⟩,fun _ => ⟨r1,r2,blk_cell hks 0,blk_cell hks 1⟩,⟨⟨_,hf2,by rw [List.length_append]; exact hn2⟩,hQZ,Nat.le_trans (Nat.le_trans hHs hsz) hg.size,hkz _ _ _ _ (by omega) hI.k5 (by decide) (by decide) (by omega),hkz _ _ _ _ (by omega) hI.k6 (by decide) (by decide) (by omega),hkz _ _ _ _ (by omega) hI.k7 (by decide) (by decide) (by omega),hkz _ _ _ _ (by omega) hI.k8 (by decide) (by decide) (by omega),hks⟩⟩; have h1 := (hb.block k (Array.getElem?_eq_some_iff.1 hk).1).trans hk; have h2 := (hr.block k (Array.getElem?_eq_some_iff.1 h1).1 (Or.inr ⟨by omega,o,h1,Or.inl hc⟩)).trans h1; exact (hg.block k (Array.getElem?_eq_some_iff.1 h2).1 (fun e => by cases e; omega)).trans h2
    have HRT : Hid (∀ X Y Z,Below W.heap.size W X -> FRB w X Y q -> (∀ k o,W0.heap.size <= k -> Y.heap[k]? = some o -> o.isCells = false -> Z.heap[k]? = some o) -> Y.heap.size <= Z.heap.size -> KeepsFrom W0.heap.size W Z) := fun X Y Z hb hr hz hsz => by
      obtain ⟨_,_,_,_,hsz2,_⟩ := HK.out X Y hb hr; have q3 := HQN.out; refine ⟨Nat.le_trans hsz2 hsz,fun k o hB hk hc => ?_⟩; have h1 := (hb.block k (Array.getElem?_eq_some_iff.1 hk).1).trans hk; have h2 := (hr.block k (Array.getElem?_eq_some_iff.1 h1).1 (Or.inr ⟨by omega,o,h1,Or.inl hc⟩)).trans h1; exact hz k o hB h2 hc
    have k5 : W.cell? ⟨w.heap.size + 1,0,none⟩ = _ := blk_cell hI.k5 0; have f5 := hI.k5; have f6 := hI.k6; have f7 := hI.k7; have b5l : w.heap.size + 1 < W.heap.size := (Array.getElem?_eq_some_iff.1 f5).1; clear hI hbx hf hnu; obtain ⟨pa,pb,pc,la,lb,lc⟩ := hp
    generalize pA L x.1 = ia at *
    generalize pB L x.1 = ib at *
    generalize pC L x.1 = ic at *
    generalize L.getD (x.1 - 1) z0 = nd at *
    obtain ⟨op,u,na,nb,nc,num,nm⟩ := nd; obtain rfl : na = (ia : Int) := pa; obtain rfl : nb = (ib : Int) := pb; obtain rfl : nc = (ic : Int) := pc; unfold npN nodeV at HBC; unfold nodeV; unfold ndA at HX
    dsimp only at *
    have HA1 := Lib.hid (fun X hb => HAT.out X ia la hb); have HA2 := Lib.hid (fun X hb => HAT.out X ib lb hb); have HA3 := Lib.hid (fun X hb => HAT.out X ic lc hb); clear la lb lc HAT
    generalize ((f ia : Nat) : Int) = y1 at *
    generalize ((f ib : Nat) : Int) = y2 at *
    generalize ((f ic : Nat) : Int) = y3 at *
    have hlen : W.heap.size < (W.alloc (Obj.cells #[.int .i64 op,.int .i64 u,.int .i64 (ia : Int),.int .i64 (ib : Int),.int .i64 (ic : Int),.int .u64 num,.string nm] 40 (0,0))).heap.size := by simp
    obtain ⟨e1,e2,e3⟩ := HX.out W (Below.refl _ _); have d0 := blk_cell e3 0; have d1 := blk_cell e3 1; have d2 := blk_cell e3 2; have d3 := blk_cell e3 3; have d4 := blk_cell e3 4; have d5 := blk_cell e3 5; have d6 := blk_cell e3 6
    simp at d0 d1 d2 d3 d4 d5 d6
    clear e1 e2 e3 hlen
    gi_wp2_with fail
    clear d0 d1 d2 d3 d4 d5 d6; have hz0 : Below W.heap.size W (W.alloc (Obj.cells #[.int .i64 op,.int .i64 u,.int .i64 (ia : Int),.int .i64 (ib : Int),.int .i64 (ic : Int),.int .u64 num,.string nm] 40)).drew := ((bel1 W _).trans ⟨rfl,rfl,rfl,Nat.le_refl _,fun _ _ => rfl⟩); have hn0 : (W.alloc (Obj.cells #[.int .i64 op,.int .i64 u,.int .i64 (ia : Int),.int .i64 (ib : Int),.int .i64 (ic : Int),.int .u64 num,.string nm] 40)).drew.heap[W.heap.size]? = some (Obj.cells #[.int .i64 op,.int .i64 u,.int .i64 (ia : Int),.int .i64 (ib : Int),.int .i64 (ic : Int),.int .u64 num,.string nm] 40 (0,0)) := heap_alloc_new W _; refine sq_round (fun X => Below W.heap.size W X) [3,7,11,13,15,17] [0,1,2,4,5,6,8,9,10,3,12,7,11,13,14,15,16,17] (by kernel_rfl) (by kernel_rfl) (by rintro ⟨_,_,h⟩; exact h) (by kernel_rfl) hz0 ?_
    repeat (refine sq_op (v := ?_) (by rfl) (by rfl) (by rfl) ?_ ?_; rotate_left; (focus (intro w hSw; obtain ⟨c1,c2,c3⟩ := HX.out _ hSw; have d2 := blk_cell c3 2; have d3 := blk_cell c3 3; have d4 := blk_cell c3 4; simp at d2 d3 d4; go_simp <;> with_reducible rfl)); simp only [Act.put,List.setIfInBounds_toArray,List.set_cons_zero,List.set_cons_succ])
    refine sq_do (by rfl) (by rfl) (by rfl) (fun K hK => ?_)
    go_simp
    go_at_call 71
    refine (HA1.out _ hz0).mono ?_; rintro e w3 ⟨rfl,hb3⟩; have hz3 : Below W.heap.size W w3 := hz0.trans (below_le' hb3 hz0.size); have hn3 := (hb3.block W.heap.size (Array.getElem?_eq_some_iff.1 hn0).1).trans hn0; refine hK.out _ _ hz3 (fun _ => ?_); clear hK K
    try simp only [Act.put,List.setIfInBounds_toArray,List.set_cons_zero,List.set_cons_succ]
    repeat (refine sq_op (v := ?_) (by rfl) (by rfl) (by rfl) ?_ ?_; rotate_left; (focus (intro w hSw; obtain ⟨c1,c2,c3⟩ := HX.out _ hSw; have d2 := blk_cell c3 2; have d3 := blk_cell c3 3; have d4 := blk_cell c3 4; simp at d2 d3 d4; go_simp <;> with_reducible rfl)); simp only [Act.put,List.setIfInBounds_toArray,List.set_cons_zero,List.set_cons_succ])
    refine sq_do (by rfl) (by rfl) (by rfl) (fun K hK => ?_)
    go_simp
    go_at_call 71
    refine (HA2.out _ hz3).mono ?_; rintro e w4 ⟨rfl,hb4⟩; have hz4 : Below W.heap.size W w4 := hz3.trans (below_le' hb4 hz3.size); have hn4 := (hb4.block W.heap.size (Array.getElem?_eq_some_iff.1 hn3).1).trans hn3; refine hK.out _ _ hz4 (fun _ => ?_); clear hK K
    try simp only [Act.put,List.setIfInBounds_toArray,List.set_cons_zero,List.set_cons_succ]
    repeat (refine sq_op (v := ?_) (by rfl) (by rfl) (by rfl) ?_ ?_; rotate_left; (focus (intro w hSw; obtain ⟨c1,c2,c3⟩ := HX.out _ hSw; have d2 := blk_cell c3 2; have d3 := blk_cell c3 3; have d4 := blk_cell c3 4; simp at d2 d3 d4; go_simp <;> with_reducible rfl)); simp only [Act.put,List.setIfInBounds_toArray,List.set_cons_zero,List.set_cons_succ])
    refine sq_do (by rfl) (by rfl) (by rfl) (fun K hK => ?_)
    go_simp
    go_at_call 71
    refine (HA3.out _ hz4).mono ?_; rintro e w5 ⟨rfl,hb5⟩; have hz5 : Below W.heap.size W w5 := hz4.trans (below_le' hb5 hz4.size); have hn5 := (hb5.block W.heap.size (Array.getElem?_eq_some_iff.1 hn4).1).trans hn4; refine hK.out _ _ hz5 (fun _ => ?_); clear hK K
    try simp only [Act.put,List.setIfInBounds_toArray,List.set_cons_zero,List.set_cons_succ]
    repeat (refine sq_op (v := ?_) (by rfl) (by rfl) (by rfl) ?_ ?_; rotate_left; (focus (intro w hSw; obtain ⟨c1,c2,c3⟩ := HX.out _ hSw; have d2 := blk_cell c3 2; have d3 := blk_cell c3 3; have d4 := blk_cell c3 4; simp at d2 d3 d4; go_simp <;> with_reducible rfl)); simp only [Act.put,List.setIfInBounds_toArray,List.set_cons_zero,List.set_cons_succ])
    have fz6 : w5.frozen? ⟨W.heap.size,2,none⟩ = false := by simp [World.frozen?,hn5]
    have cz6 := blk_cell hn5 2
    simp at cz6
    have hz6 : Below W.heap.size W (w5.setCell ⟨W.heap.size,2,none⟩ (.int .i64 y1)) := below_set hz5 (Nat.le_refl _) _; have hn6 : (w5.setCell ⟨W.heap.size,2,none⟩ (.int .i64 y1)).heap[W.heap.size]? = _ := heap_setCell_same _ _ _ _ _ _ hn5; obtain ⟨w6,hw6⟩ : ∃ w6,w5.setCell ⟨W.heap.size,2,none⟩ (.int .i64 y1) = w6 := ⟨_,rfl⟩; rw [hw6] at hz6 hn6
    simp at hn6
    refine sq_do (by rfl) (by rfl) (by rfl) (fun K hK => ?_)
    go_simp
    refine hK.out _ _ hz6 (fun _ => ?_); clear hK K hw6 fz6 cz6
    try simp only [Act.put,List.setIfInBounds_toArray,List.set_cons_zero,List.set_cons_succ]
    repeat (refine sq_op (v := ?_) (by rfl) (by rfl) (by rfl) ?_ ?_; rotate_left; (focus (intro w hSw; obtain ⟨c1,c2,c3⟩ := HX.out _ hSw; have d2 := blk_cell c3 2; have d3 := blk_cell c3 3; have d4 := blk_cell c3 4; simp at d2 d3 d4; go_simp <;> with_reducible rfl)); simp only [Act.put,List.setIfInBounds_toArray,List.set_cons_zero,List.set_cons_succ])
    have fz7 : w6.frozen? ⟨W.heap.size,3,none⟩ = false := by simp [World.frozen?,hn6]
    have cz7 := blk_cell hn6 3
    simp at cz7
    have hz7 : Below W.heap.size W (w6.setCell ⟨W.heap.size,3,none⟩ (.int .i64 y2)) := below_set hz6 (Nat.le_refl _) _; have hn7 : (w6.setCell ⟨W.heap.size,3,none⟩ (.int .i64 y2)).heap[W.heap.size]? = _ := heap_setCell_same _ _ _ _ _ _ hn6; obtain ⟨w7,hw7⟩ : ∃ w7,w6.setCell ⟨W.heap.size,3,none⟩ (.int .i64 y2) = w7 := ⟨_,rfl⟩; rw [hw7] at hz7 hn7
    simp at hn7
    refine sq_do (by rfl) (by rfl) (by rfl) (fun K hK => ?_)
    go_simp
    refine hK.out _ _ hz7 (fun _ => ?_); clear hK K hw7 fz7 cz7
    try simp only [Act.put,List.setIfInBounds_toArray,List.set_cons_zero,List.set_cons_succ]
    repeat (refine sq_op (v := ?_) (by rfl) (by rfl) (by rfl) ?_ ?_; rotate_left; (focus (intro w hSw; obtain ⟨c1,c2,c3⟩ := HX.out _ hSw; have d2 := blk_cell c3 2; have d3 := blk_cell c3 3; have d4 := blk_cell c3 4; simp at d2 d3 d4; go_simp <;> with_reducible rfl)); simp only [Act.put,List.setIfInBounds_toArray,List.set_cons_zero,List.set_cons_succ])
    have fz8 : w7.frozen? ⟨W.heap.size,4,none⟩ = false := by simp [World.frozen?,hn7]
    have cz8 := blk_cell hn7 4
    simp at cz8
    have hz8 : Below W.heap.size W (w7.setCell ⟨W.heap.size,4,none⟩ (.int .i64 y3)) := below_set hz7 (Nat.le_refl _) _; have hn8 : (w7.setCell ⟨W.heap.size,4,none⟩ (.int .i64 y3)).heap[W.heap.size]? = _ := heap_setCell_same _ _ _ _ _ _ hn7; obtain ⟨w8,hw8⟩ : ∃ w8,w7.setCell ⟨W.heap.size,4,none⟩ (.int .i64 y3) = w8 := ⟨_,rfl⟩; rw [hw8] at hz8 hn8
    simp at hn8
    refine sq_do (by rfl) (by rfl) (by rfl) (fun K hK => ?_)
    go_simp
    refine hK.out _ _ hz8 (fun _ => ?_); clear hK K hw8 fz8 cz8
    try simp only [Act.put,List.setIfInBounds_toArray,List.set_cons_zero,List.set_cons_succ]
    refine sq_end (fun _ => ?_); obtain ⟨c1,c2,c3⟩ := HX.out _ hz8; have d0 := blk_cell c3 0; have d1 := blk_cell c3 1; have d2 := blk_cell c3 2; have d3 := blk_cell c3 3; have d4 := blk_cell c3 4; have d5 := blk_cell c3 5; have d6 := blk_cell c3 6
    simp at d0 d1 d2 d3 d4 d5 d6
    have n0 := blk_cell hn8 0; have n1 := blk_cell hn8 1; have n2 := blk_cell hn8 2; have n3 := blk_cell hn8 3; have n4 := blk_cell hn8 4; have n5 := blk_cell hn8 5; have n6 := blk_cell hn8 6
    simp at n0 n1 n2 n3 n4 n5 n6
    have k5' : w8.cell? ⟨w.heap.size + 1,0,none⟩ = _ := blk_cell ((hz8.block _ b5l).trans f5) 0
    simp at k5'
    have HZ8 : Hid (Below W.heap.size W w8) := hz8; have HB8 := Lib.hid (HBC.out w8 hz8); clear hz0 hz3 hz4 hz5 hz6 hz7 hz8 hn0 hn3 hn4 hn5 hn6 hn7 hn8 hb3 hb4 hb5 k5 HA1 HA2 HA3 c3 HBC
    gi_wp2_with fail
    clear d0 d1 d2 d3 d4 d5 d6 n0 n1 n2 n3 n4 n5 n6 k5' c1 c2 HX; refine ⟨trivial,CallsIn.inRound l (callsIn_wide.2 (HB8.out.mono ?_))⟩; have hq3 := HQN.out; have uE := Tryz.underlying84; rintro e w9 ⟨hfr,⟨r,hr,rfl,hf2,hq2⟩ | ⟨r,ty,vv,rfl,hf2⟩⟩
    · obtain ⟨hn9,-,c1,c2,-,-⟩ := HK.out w8 w9 HZ8.out hfr
      have HS9 := Lib.hid (HST.out w9 r hn9 hr); have HE9 := Lib.hid (fun Z h1 h2 => HEND.out w8 w9 Z r HZ8.out hfr hf2 hq2 h1 h2); clear hfr hf2 hq2 hn9 HST HEND HRT HK HB8 HZ8 hr f6 f7 f5
      generalize ((r : Nat) : Int) = ri at *
      gi_wp2_with fail
      refine ⟨trivial,CallsIn.inRound l (callsIn_wide.2 (HS9.out.mono ?_))⟩; rintro e w10 ⟨rfl,hn10,hg10⟩; have HE := HE9.out w10 hn10 hg10; clear hn10 hg10 HS9 HE9 c1 c2
      gi_wp2
      exact HE
    obtain ⟨hn9,-,c1,c2,-,hkk⟩ := HK.out w8 w9 HZ8.out hfr; have g6 := hkk _ _ _ _ (by omega) f6 (by decide) (by decide); have g7 := hkk _ _ _ _ (by omega) f7 (by decide) (by decide); have HF2 : Hid (Fn (pre ++ [x]) = none) := hf2; have HRX := Lib.hid (fun Z h1 h2 => HRT.out w8 w9 Z HZ8.out hfr h1 h2); have z6 : w9.frozen? ⟨w.heap.size + 1 + 1,0,none⟩ = false := by simp [World.frozen?,g6]
    have z7 : w9.frozen? ⟨w.heap.size + 1 + 1 + 1,0,none⟩ = false := by simp [World.frozen?,g7]
    have c6 := blk_cell g6 0; have c7 := blk_cell g7 0
    simp at c6 c7
    have HG : Hid (w9.heap[w.heap.size + 1 + 1]? = some (.cells #[.slice none 0 0] 23 (0,0)) /\ w9.heap[w.heap.size + 1 + 1 + 1]? = some (.cells #[.nilIface] 84 (0,0))) := ⟨g6,g7⟩; clear hfr hf2 hn9 HST HEND HRT HK HB8 HZ8 f6 f7 f5 g6 g7 hkk
    gi_wp2_with fail
    refine ⟨HRX.out _ (fun k o hk ho hc => ?_) (by simp),HF2.out⟩; refine (heap_setCell_other _ _ _ _ (fun e => ?_)).trans ((heap_setCell_other _ _ _ _ (fun e => ?_)).trans ho)
    · rw [e,HG.out.2] at ho
      cases ho; cases hc
    rw [e,HG.out.1] at ho; cases ho; cases hc
  case stop =>
    rintro D c pre W _ ⟨k,rfl⟩ h _; exact absurd h (HH.out.f1 k)
  case done =>
    rintro D xs W hD rfl hI hK; obtain ⟨f,hf,hnu⟩ := hI.fn; have HA := Lib.hid (nall_any (cp := cR) q m O.attach.length lv tv f W hnu (HI.out q _ W hI.qq) HRS.out (by rw [HD.out]; exact hrl)); rw [HD.out] at HA; have k8 : W.cell? ⟨b8,0,none⟩ = _ := blk_cell hI.k8 0; have k8' : W.cell? ⟨b8,1,none⟩ = _ := blk_cell hI.k8 1
    simp at k8 k8'
    gi_wp2_with fail
    refine ⟨trivial,(callsIn_wide.2 HA.out).mono ?_⟩; rintro e w5 ⟨g2,rfl,hu5,hb5,hg5⟩; have hHs := hI.hs; have q3 := HQN.out; have e6 := (hb5.block _ (Array.getElem?_eq_some_iff.1 hI.k6).1).trans hI.k6; have e7 := (hb5.block _ (Array.getElem?_eq_some_iff.1 hI.k7).1).trans hI.k7; have c6 := blk_cell e6 0; have c7 := blk_cell e7 0
    simp at c6 c7
    have z6 : w5.frozen? ⟨w.heap.size + 1 + 1,0,none⟩ = false := by simp [World.frozen?,e6]
    have z7 : w5.frozen? ⟨w.heap.size + 1 + 1 + 1,0,none⟩ = false := by simp [World.frozen?,e7]
    have hK5 := (hb5.block D (Array.getElem?_eq_some_iff.1 hK).1).trans hK; have l6 := (Array.getElem?_eq_some_iff.1 e6).1; have l7 := (Array.getElem?_eq_some_iff.1 e7).1; have h6W := (Array.getElem?_eq_some_iff.1 hI.k6).1; have h7W := (Array.getElem?_eq_some_iff.1 hI.k7).1; have HFIN : Hid (∀ Z,(∀ k,k ≠ w.heap.size + 1 + 1 -> k ≠ w.heap.size + 1 + 1 + 1 -> k ≠ D -> Z.heap[k]? = w5.heap[k]?) -> w5.heap.size <= Z.heap.size -> Z.os = w5.os -> Z.tape = w5.tape -> Z.output = w5.output -> PP (.returned (.tuple #[.slice (some ⟨g2,0,none⟩) d d,.nilIface])) Z) := fun Z hz hs ho ht hp => by
      have hgl := hu5.lt; refine HPP.out g2 f q Z hf (hu5.keep (hz g2 (by omega) (by omega) (fun e => ?_))) (by omega) (by omega) (HH.out.qk q _ W Z (by omega) hI.qq ⟨ho.trans hb5.os,ht.trans hb5.tape,hp.trans hb5.output,Nat.le_trans hb5.size hs,fun j hj hn hc => ?_⟩)
      · obtain ⟨A,hA,_⟩ := hu5.blk
        rw [e,hK5] at hA; cases hA
      refine (hz j (fun e => ?_) (fun e => ?_) (fun e => ?_)).trans (hb5.block j hj)
      · rcases hc with hc | ⟨cs,fr,hc⟩
        · omega
        rw [e,hI.k6] at hc; cases hc
      · rcases hc with hc | ⟨cs,fr,hc⟩
        · omega
        rw [e,hI.k7] at hc; cases hc
      rcases hc with hc | ⟨cs,fr,hc⟩
      · omega
      rw [e,hK] at hc; cases hc
    have HGE : Hid (w5.heap[w.heap.size + 1 + 1]? = some (.cells #[.slice none 0 0] 23 (0,0)) /\ w5.heap[w.heap.size + 1 + 1 + 1]? = some (.cells #[.nilIface] 84 (0,0)) /\ w5.heap[D]? = some (.deferred (some []))) := ⟨e6,e7,hK5⟩; clear hI hf hnu HA hu5 hb5 hg5 k8 k8' e6 e7 hK hK5
    gi_wp2_with fail
    obtain ⟨w7,hw7⟩ : ∃ w7,((w5.setCell ⟨w.heap.size + 1 + 1,0,none⟩ (.slice (some ⟨g2,0,none⟩) d d)).setCell ⟨w.heap.size + 1 + 1 + 1,0,none⟩ .nilIface) = w7 := ⟨_,rfl⟩; have hD7 : w7.heap[D]? = some (.deferred (some [])) := by
      rw [<- hw7]; exact (heap_setCell_other _ _ _ _ (by show D ≠ w.heap.size + 1 + 1 + 1; omega)).trans ((heap_setCell_other _ _ _ _ (by show D ≠ w.heap.size + 1 + 1; omega)).trans HGE.out.2.2)
    have h67 : w7.heap[w.heap.size + 1 + 1]? = some (.cells #[.slice (some ⟨g2,0,none⟩) d d] 23 (0,0)) := by
      rw [<- hw7]; exact (heap_setCell_other _ _ _ _ (by show w.heap.size + 1 + 1 ≠ w.heap.size + 1 + 1 + 1; omega)).trans (heap_setCell_same _ _ _ _ _ _ HGE.out.1)
    have h77 : w7.heap[w.heap.size + 1 + 1 + 1]? = some (.cells #[.nilIface] 84 (0,0)) := by
      rw [<- hw7]; exact heap_setCell_same _ _ _ _ _ _ ((heap_setCell_other _ _ _ _ (by show w.heap.size + 1 + 1 + 1 ≠ w.heap.size + 1 + 1; omega)).trans HGE.out.2.1)
    have hF7 := HFIN.out (w7.putObj D (.deferred none)) (fun k h1 h2 h3 => by
      rw [World.putObj_heap_other h3,<- hw7]; exact (heap_setCell_other _ _ _ _ h2).trans (heap_setCell_other _ _ _ _ h1)) (by rw [<- hw7]; simp) (by rw [<- hw7]; rfl) (by rw [<- hw7]; rfl) (by rw [<- hw7]; rfl)
    rw [hw7]; refine ⟨by simp,.inl ⟨_,_,rfl,run_takeDeferred hD7,?_⟩⟩; refine ⟨_,res_cc (p := 6) (u := 7) rfl _ _ ⟨w.heap.size + 1 + 1,0,none⟩ ⟨w.heap.size + 1 + 1 + 1,0,none⟩ (.slice (some ⟨g2,0,none⟩) d d) .nilIface rfl rfl ?hx ?hy,hF7⟩
    case hx =>
      have c9 : (w7.putObj D (.deferred none)).cell? ⟨w.heap.size + 1 + 1,0,none⟩ = some (.slice (some ⟨g2,0,none⟩) d d) := blk_cell ((World.putObj_heap_other (by omega)).trans h67) 0
      go_simp
    case hy =>
      have c9 : (w7.putObj D (.deferred none)).cell? ⟨w.heap.size + 1 + 1 + 1,0,none⟩ = some .nilIface := blk_cell ((World.putObj_heap_other (by omega)).trans h77) 0; have uE := Tryz.underlying84
      go_simp
end Go.Proofs.YtkpapgfbnledpaaGreatDoor.GI
