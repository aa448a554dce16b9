import Derived.Test.YtkpapgfbnledpaaGreatDoorEwC
set_option maxHeartbeats 8000000
set_option maxRecDepth 100000
namespace Go.Proofs.YtkpapgfbnledpaaGreatDoor.GP
open Go.Proofs.YtkpapgfbnledpaaGreatDoor
open Go.Proofs.YtkpapgfbnledpaaGreatDoor.GI (INS make_mp)
open Go.ChangeShapes Go.WideShapes Go.ChangeAt Go.RowKit Go.Lib Go.Tm Go.Bw Go.Bn Go.WideMaps Go.Maps Go.ChangeMaps Go.Shelf
attribute [local go_sem] Oper.semAt_some

def NMR (w : World) (ad : Option Addr) (xs : List ByteArray) : Prop := 0 < xs.length -> ∃ b o,ad = some ⟨b,o,none⟩ /\ b < w.heap.size /\ ∀ j,j < xs.length -> w.cell? ⟨b,o + j,none⟩ = some (.string (xs.getD j ByteArray.empty))
theorem NMR.below {w w' : World} {ad : Option Addr} {xs : List ByteArray} (h : NMR w ad xs) (hb : Below w.heap.size w w') : NMR w' ad xs := fun h0 => by
  obtain ⟨b,o,e,hl,hc⟩ := h h0; exact ⟨b,o,e,Nat.lt_of_lt_of_le hl hb.size,fun j hj => (World.cell?_of_block (w' := w') (w := w) (a := ⟨b,o + j,none⟩) (hb.block b hl)).trans (hc j hj)⟩
def sRd (v : Value) : Option (DataW Unit × List MemPlace) := match v with
  | .agg ⟨[]⟩ => some (.agg [],[])
  | _ => none
def SMP (W : World) (M n : Nat) (f : ByteArray -> Bool) : Prop := ∃ D : DataW Unit,W.ownsMap Tryz.prog 9 sRd M n D /\ IsMap D /\ ∀ s : ByteArray,s.size <= 140737488355328 -> ∃ kl,keyOf Tryz.prog 9 (.string s) = some kl /\ Maps.has D kl = f s
theorem SMP.made {W : World} {M : Nat} (h : W.heap[M]? = some (Obj.map #[] 0)) : SMP W M 0 (fun _ => false) := by
  refine ⟨.map [],⟨#[],0,h,⟨by simp,MapKept.stamped_empty 0,by simp⟩,Nat.le_refl _,rfl⟩,isMap_empty,fun s hs => ?_⟩; obtain ⟨kl,hk⟩ := key_str s hs; exact ⟨kl,hk,rfl⟩
theorem SMP.lt {W : World} {M n : Nat} {f : ByteArray -> Bool} (h : SMP W M n f) : M < W.heap.size := by
  obtain ⟨D,hm,hF⟩ := h; exact hm.lt
theorem SMP.below {W W' : World} {M n : Nat} {f : ByteArray -> Bool} (h : SMP W M n f) (hb : Below W.heap.size W W') : SMP W' M n f := by
  have hl := h.lt; obtain ⟨D,⟨es,clock,h1,h2⟩,hF⟩ := h; exact ⟨D,⟨es,clock,(hb.block M hl).trans h1,h2⟩,hF⟩
theorem zeroS (w : World) : (zeroValue 137).run Tryz.prog w = .ok (.agg #[]) w := by
  have hi : ∃ i,Tryz.prog.info? 137 = some i /\ i.zero = some (.agg #[]) := by
    obtain ⟨i0,hi,hz0,_,_⟩ := info_parts (P := Tryz.prog) (e := 137) (z := .agg #[]) (size := 0) (bytes := 0) (by kernel_rfl); exact ⟨i0,hi,hz0⟩
  obtain ⟨i,h1,h2⟩ := hi
  simp [zeroValue,typeInfo,h1,h2,Result.andThen]
theorem sRd_inv {v : Value} {d : DataW Unit} {ps : List MemPlace} (h : sRd v = some (d,ps)) : v = .agg #[] := by
  unfold sRd at h
  split at h
  · rfl
  cases h
theorem SMP.look {W : World} {M n : Nat} {f : ByteArray -> Bool} (h : SMP W M n f) (s : ByteArray) (hs : s.size <= 140737488355328) : (Instr.lookup 136 (.map (some M)) (.string s) true).run Tryz.prog W = .ok (.tuple #[.agg #[],.bool (f s)]) W := by
  obtain ⟨D,hm,hF⟩ := h; obtain ⟨kl,h1,h2⟩ := hF.2 _ hs; obtain ⟨vv,pss,hrun,hR⟩ := hm.look_ok lawS Tryz.underlying136 (zeroS W) (show sRd (.agg #[]) = some (.agg [],[]) from rfl) h1; rw [hrun,h2,sRd_inv hR]
theorem SMP.put {W : World} {M n : Nat} {f : ByteArray -> Bool} (h : SMP W M n f) (hn : n <= 1000000000000000000) (s : ByteArray) (hs : s.size <= 140737488355328) : ∃ w',(Instr.mapUpdate 136 (.map (some M)) (.string s) (.agg #[])).run Tryz.prog W = .ok () w' /\ SMP w' M (n + 1) (fun y => if y = s then true else f y) /\ W.grownBy w' (some M) := by
  obtain ⟨D,hm,hI,hF⟩ := h; obtain ⟨kl,h1,h2⟩ := hF _ hs; obtain ⟨w',hrun,hm',hg⟩ := hm.update lawS Tryz.underlying136 (by unfold maxLen; omega) h1 (show sRd (.agg #[]) = some (.agg [],[]) from rfl); refine ⟨w',hrun,⟨_,hm',isMap_put hI _ _,fun y hy => ?_⟩,hg⟩; obtain ⟨ky,k1,k2⟩ := hF y hy; have inj : ∀ a b : ByteArray,Value.string a = Value.string b -> a = b := fun a b e => by injection e
  refine ⟨ky,k1,?_⟩
  by_cases e : y = s
  · subst e
    rw [h1] at k1; cases k1; rw [has_put_same hI (lawS.key h1)]; exact (if_pos rfl).symm
  rw [has_put_other (fun e2 => e (inj _ _ (lawS.inj (by rw [k1,e2]) h1))),k2]; exact (if_neg e).symm
def seenF (xs : List ByteArray) : ByteArray -> Bool := fun s => xs.any (fun y => decide (s = y))
theorem INS.congr {W : World} {M n : Nat} {f g : ByteArray -> Option Int} (h : INS W M n f) (e : ∀ y,f y = g y) : INS W M n g := by
  obtain rfl : f = g := funext e; exact h
theorem INS.put {W : World} {M n : Nat} {f : ByteArray -> Option Int} (h : INS W M n f) (hn : n <= 1000000000000000000) (s : ByteArray) (hs : s.size <= 140737488355328) (i : Int) (hi : I64 i) : ∃ w',(Instr.mapUpdate 76 (.map (some M)) (.string s) (.int .i64 i)).run Tryz.prog W = .ok () w' /\ INS w' M (n + 1) (fun y => if y = s then some i else f y) /\ W.grownBy w' (some M) := by
  obtain ⟨D,hm,hF⟩ := h; obtain ⟨kl,hk⟩ := key_str s hs; obtain ⟨w',hrun,hm',hg⟩ := hm.update lawS Tryz.underlying76 (by unfold maxLen; omega) hk (plainElem_int Tryz.underlying3 (wf_i hi)); have inj : ∀ a b : ByteArray,Value.string a = Value.string b -> a = b := fun a b e => by injection e
  exact ⟨w',hrun,⟨_,hm',hF.put lawS inj hk i⟩,hg⟩
def tmF (ps : List (ByteArray × Nat)) : ByteArray -> Option Nat := ps.foldl (fun f p => fun y => if y = p.1 then some p.2 else f y) (fun _ => none)
theorem tmF_snoc (ps : List (ByteArray × Nat)) (p : ByteArray × Nat) (y : ByteArray) : tmF (ps ++ [p]) y = if y = p.1 then some p.2 else tmF ps y := by
  unfold tmF; rw [List.foldl_append]
  rfl
theorem terms_any {ad : Option Addr} {cp : Nat} {rs : List Int} (B0 B : Nat) (lim : Int) (L : List Nd) (v : Value) (M1 M2 : Option Nat) (w : World) (hS : SM 78 w B0 B lim L v M1 M2) (hI : IR w ad rs) (hr : ∀ x ∈ rs,isT L x = true) (hl : rs.length <= 1000000000000) : Calls Tryz.prog 30 #[.pointer (some ⟨B,0,none⟩),.slice ad rs.length cp] w fun e w' => e = .returned (.bool true) /\ Below w.heap.size w w' := by
  have HN : Hid (∀ W i,Below w.heap.size w W -> i < rs.length -> ∃ nd,Calls Tryz.prog 12 #[.pointer (some ⟨B,0,none⟩),.int .i64 (rs.getD i 0)] W fun e w' => e = .returned (.tuple #[nodeV nd,.int .i64 0]) /\ Below W.heap.size W w') := fun W i hb hi => by
    have hm : rs.getD i 0 ∈ rs := by rw [List.getD_eq_getElem?_getD,List.getElem?_eq_getElem hi]; exact List.getElem_mem _
    have h1 : 1 <= rs.getD i 0 /\ rs.getD i 0 <= (L.length : Int) := of_decide_eq_true (hr _ hm); obtain ⟨j,hj⟩ : ∃ j : Nat,rs.getD i 0 = (j : Int) + 1 := ⟨(rs.getD i 0 - 1).toNat,by omega⟩; rw [hj]; exact ⟨_,node_ok B0 B lim L v M1 M2 j W (hS.below hb) (by omega)⟩
  have HI : Hid (IR w ad rs) := hI; clear hS hr hI; obtain ⟨n,hn⟩ : ∃ n,rs.length = n := ⟨_,rfl⟩; have HL : Hid (rs.length = n) := hn; rw [hn] at hl HN ⊢; clear hn; have HB0 : Hid (Below w.heap.size w w) := Below.refl _ _
  go_enter Tryz.func30,Tryz.ntmps30
  go_wp2_with fail
  go_loopg [11] n (fun gk s11 wr => ∃ i : Nat,s11 = .int .i64 (i : Int) /\ i + gk = n /\ Below w.heap.size w wr)
  case atStart => exact ⟨0,rfl,by omega,HB0.out⟩
  case round =>
    obtain ⟨i,rfl,hi,hb⟩ := hrel; have HB : Hid (Below w.heap.size w wr) := hb; clear hb
    by_cases hlt : i < n
    · obtain ⟨b,o,rfl,hbl,hc⟩ := (HI.out.below HB.out) (by rw [HL.out]; omega)
      have c1 := hc i (by rw [HL.out]; omega); have q1 : (i : Int) < (n : Int) := by omega
      obtain ⟨nd,hnd⟩ := HN.out wr i HB.out hlt; have HND := Lib.hid hnd; clear hc hnd
      generalize rs.getD i 0 = x at *
      obtain ⟨op,u,a,bb,c,num,nm⟩ := nd; unfold nodeV at HND
      dsimp only at HND
      go_wp2_with fail
      refine HND.out.mono ?_; rintro e w5 ⟨rfl,hb5⟩; have H5 : Hid (∀ o,Below w.heap.size w (w5.alloc o)) := fun o => (HB.out.trans (below_le' hb5 HB.out.size)).trans (below_le' (bel1 w5 o) (Nat.le_trans HB.out.size hb5.size))
      clear hb5 HND c1
      go_wp2_with fail
      go_roundg (n - (i + 1))
      case measure => omega
      case rel => exact ⟨i + 1,by simp,by omega,H5.out _⟩
    have hik : i = n := by omega
    subst hik
    go_wp2_with fail
    first
      | exact ⟨rfl,HB.out⟩
      | (go_ret2; exact ⟨rfl,HB.out⟩)
      | (go_ret; exact ⟨rfl,HB.out⟩)
theorem seen_take {xs : List ByteArray} {i : Nat} (h : i < xs.length) (y : ByteArray) : seenF (xs.take (i + 1)) y = if y = xs.getD i ByteArray.empty then true else seenF (xs.take i) y := by
  have e : xs.take (i + 1) = xs.take i ++ [xs.getD i ByteArray.empty] := by
    rw [List.take_add_one,List.getElem?_eq_getElem h,List.getD_eq_getElem?_getD,List.getElem?_eq_getElem h]
    rfl
  rw [e]; unfold seenF; rw [List.any_append]
  by_cases h2 : y = xs.getD i ByteArray.empty
  · rw [if_pos h2,h2]; simp
  rw [if_neg h2,List.any_cons,List.any_nil,decide_eq_false h2,Bool.or_false,Bool.or_false]
theorem seen_none {xs : List ByteArray} (hn : ∀ i j,i < j -> j < xs.length -> ¬ xs.getD j ByteArray.empty = xs.getD i ByteArray.empty) {i : Nat} (h : i < xs.length) : seenF (xs.take i) (xs.getD i ByteArray.empty) = false := by
  unfold seenF; rw [List.any_eq_false]; intro y hy; obtain ⟨j,hj,e⟩ := List.mem_take_iff_getElem.1 hy; have h7 := hn j i (by omega) h; rw [show xs.getD j ByteArray.empty = y by rw [<- e,List.getD_eq_getElem?_getD,List.getElem?_eq_getElem (by omega)]; rfl] at h7
  simpa using h7
theorem names_any {ad : Option Addr} {cp : Nat} {xs : List ByteArray} (w : World) (h : NMR w ad xs) (hl : xs.length <= 1000000000000) (hn : ∀ i j,i < j -> j < xs.length -> ¬ xs.getD j ByteArray.empty = xs.getD i ByteArray.empty) (hg : ∀ x ∈ xs,nmB x = true /\ x.size <= 140737488355328) : Calls Tryz.prog 31 #[.slice ad xs.length cp] w fun e w' => e = .returned (.bool true) /\ Below w.heap.size w w' := by
  obtain ⟨k,hk⟩ : ∃ k,xs.length = k := ⟨_,rfl⟩; have HK : Hid (xs.length = k) := hk; have HV : Hid (NMR w ad xs) := h; have HN : Hid (∀ i,i < xs.length -> seenF (xs.take i) (xs.getD i ByteArray.empty) = false) := fun i hi => seen_none hn hi
  have HG : Hid (∀ x ∈ xs,nmB x = true /\ x.size <= 140737488355328) := hg; rw [hk] at hl ⊢; clear hk h hn hg; have eM := make_mp Tryz.underlying136 (k : Int) w
  go_enter Tryz.func31,Tryz.ntmps31
  go_wp2_with fail
  clear eM; obtain ⟨W0,hW0⟩ : ∃ W0,w.alloc (Obj.map #[] 0) = W0 := ⟨_,rfl⟩; have HW : Hid (SMP W0 w.heap.size 0 (seenF (xs.take 0)) /\ Below w.heap.size w W0) := by
    rw [<- hW0]; exact ⟨SMP.made (heap_alloc_new w _),bel1 w _⟩
  rw [hW0]; clear hW0
  go_loopg [13] k (fun gk s13 wr => ∃ i : Nat,s13 = .int .i64 (i : Int) /\ i + gk = k /\ SMP wr w.heap.size i (seenF (xs.take i)) /\ Below w.heap.size w wr)
  case atStart => exact ⟨0,rfl,by omega,HW.out⟩
  case round =>
    obtain ⟨i,rfl,hi,hm,hb⟩ := hrel; have HR : Hid (SMP wr w.heap.size i (seenF (xs.take i)) /\ Below w.heap.size w wr) := ⟨hm,hb⟩; clear hm hb
    by_cases hlt : i < k
    · have hlx : i < xs.length := by rw [HK.out]; exact hlt
      obtain ⟨b,o,rfl,hbl,hc⟩ := (HV.out.below HR.out.2) (by rw [HK.out]; omega); have c1 := hc i hlx; have q1 : (i : Int) < (k : Int) := by omega
      have hxm : xs.getD i ByteArray.empty ∈ xs := by rw [List.getD_eq_getElem?_getD,List.getElem?_eq_getElem hlx]; exact List.getElem_mem _
      obtain ⟨g1,g2⟩ := HG.out _ hxm; have HNm : Hid (∀ W,Calls Tryz.prog 47 #[.string (xs.getD i ByteArray.empty)] W fun e w' => e = .returned (.bool true) /\ Below W.heap.size W w') := fun W => by
        have h9 := name_bel (xs.getD i ByteArray.empty) W (by unfold maxLen; omega); rw [g1] at h9; exact h9
      have HPu : Hid (∀ W,Below wr.heap.size wr W -> ∃ w',(Instr.mapUpdate 136 (.map (some w.heap.size)) (.string (xs.getD i ByteArray.empty)) (.agg #[])).run Tryz.prog W = .ok () w' /\ SMP w' w.heap.size (i + 1) (seenF (xs.take (i + 1))) /\ Below w.heap.size w w') := fun W hb => by
        obtain ⟨w',h1,h2,h3⟩ := (HR.out.1.below hb).put (by omega) (xs.getD i ByteArray.empty) g2; rw [<- funext (seen_take hlx)] at h2; have h4 := HR.out.2.trans (below_le' hb HR.out.2.size); exact ⟨w',h1,h2,⟨h3.os.trans h4.os,h3.tape.trans h4.tape,h3.output.trans h4.output,Nat.le_trans h4.size h3.size,fun j hj => (h3.block j (Nat.lt_of_lt_of_le hj h4.size) (fun e => by cases e; omega)).trans (h4.block j hj)⟩⟩
      have hlk := HR.out.1.look (xs.getD i ByteArray.empty) g2; rw [HN.out i hlx] at hlk; clear hc g1 g2 hxm
      generalize xs.getD i ByteArray.empty = nm at *
      go_wp2_with fail
      refine (HNm.out _).mono ?_; rintro e w5 ⟨rfl,hb5⟩; have hw5 : Below wr.heap.size wr w5 := (bel1 wr _).trans (below_le' hb5 (by simp)); obtain ⟨w6,hput,ht6,hb6⟩ := HPu.out _ hw5; have H6 : Hid (SMP w6 w.heap.size (i + 1) (seenF (xs.take (i + 1))) /\ Below w.heap.size w w6) := ⟨ht6,hb6⟩; have zS := zeroS w5; clear hb5 hw5 ht6 hb6 HPu HNm hlk c1
      go_wp2_with fail
      go_roundg (gk - 1)
      case measure => omega
      case rel => exact ⟨i + 1,by simp,by omega,H6.out⟩
    have hik : i = k := by omega
    subst hik
    go_wp2_with fail
    first
      | exact ⟨rfl,HR.out.2⟩
      | (go_ret2; exact ⟨rfl,HR.out.2⟩)
      | (go_ret; exact ⟨rfl,HR.out.2⟩)
end Go.Proofs.YtkpapgfbnledpaaGreatDoor.GP
namespace Go.Proofs.YtkpapgfbnledpaaGreatDoor.GP
open Go.Proofs.YtkpapgfbnledpaaGreatDoor
open Go.ChangeShapes Go.WideShapes Go.ChangeAt Go.RowKit Go.Lib Go.Tm Go.Bw Go.Bn Go.WideMaps Go.Maps Go.ChangeMaps
theorem coneOf_ge (B0 B : Nat) (lim : Int) (L : List Nd) (v : Value) (M1 M2 : Option Nat) {ad : Option Addr} {cp : Nat} {xs : List Int} (w : World) (hS : SM 78 w B0 B lim L v M1 M2) (hP : PAR L) (h : IR w ad xs) (hl : xs.length < 1000000000000000) (hr : ∀ x ∈ xs,isT L x = true) :
    Calls Tryz.prog 26 #[.pointer (some ⟨B,0,none⟩),.slice ad xs.length cp] w fun e w' => ∃ aO cO,e = .returned (.tuple #[.agg #[.pointer (some ⟨B,0,none⟩),.slice aO (og L [] (toN xs)).length cO],.int .i64 0]) /\ Below w.heap.size w w' /\ OR w' aO (og L [] (toN xs)) /\ ∀ b k,aO = some ⟨b,k,none⟩ -> 0 < (og L [] (toN xs)).length -> w.heap.size <= b := by
  have HOk : Hid (∀ W,Below w.heap.size w W -> Calls Tryz.prog 44 #[.pointer (some ⟨B,0,none⟩),.slice ad xs.length cp] W (OrdP W L xs)) := fun W hb => order_ok (cp := cp) B0 B lim L v M1 M2 W (hS.below hb) hP (h.below hb) hl hr
  clear hS hP h hr; unfold OrdP at HOk
  generalize og L [] (toN xs) = O at *
  generalize xs.length = q at *
  go_enter Tryz.func26,Tryz.ntmps26
  go_wp2_with fail
  have HZ : Hid ((w.alloc (Obj.cells #[.pointer none,.slice none 0 0] 68 (0,0))).heap[w.heap.size]? = some (Obj.cells #[.pointer none,.slice none 0 0] 68 (0,0))) := heap_alloc_new w _; refine (HOk.out _ (bel1 _ _)).mono ?_; rintro e w5 ⟨vO,rfl,hb5,ho5⟩; obtain ⟨aO,cO,hvO,hOR,hge⟩ := or_row ho5; subst hvO; have hh := (hb5.block w.heap.size (by simp)).trans HZ.out; have HB5 : Hid (Below w.heap.size w w5 /\ OR w5 aO O) := ⟨(bel1 w _).trans (below_le' hb5 (by simp)),hOR⟩; have k0 : w5.cell? ⟨w.heap.size,0,none⟩ = some (.pointer none) := blk_cell hh 0; have k1 : w5.cell? ⟨w.heap.size,1,none⟩ = some (.slice none 0 0) := blk_cell hh 1; have f0 : w5.frozen? ⟨w.heap.size,0,none⟩ = false := by simp [World.frozen?,hh]
  have f1 : w5.frozen? ⟨w.heap.size,1,none⟩ = false := by simp [World.frozen?,hh]
  have HH : Hid (w5.heap[w.heap.size]? = some (Obj.cells #[.pointer none,.slice none 0 0] 68 (0,0))) := hh; have hsz : w.heap.size < w5.heap.size := (Array.getElem?_eq_some_iff.1 hh).1; have HGE : Hid (∀ b k,aO = some ⟨b,k,none⟩ -> 0 < O.length -> w.heap.size + 1 <= b) := fun b k e h0 => by have := hge b k e h0; simpa using this
  clear hb5 ho5 hOR hh HOk HZ hge
  go_wp2_with fail
  have hf : ((w5.setCell ⟨w.heap.size,0,none⟩ (.pointer (some ⟨B,0,none⟩))).setCell ⟨w.heap.size,1,none⟩ (.slice aO O.length cO)).heap[w.heap.size]? = some (Obj.cells #[.pointer (some ⟨B,0,none⟩),.slice aO O.length cO] 68 (0,0)) :=
    (heap_setCell_same _ _ _ _ _ _ (heap_setCell_same _ _ _ _ _ _ HH.out)).trans rfl
  refine bodyPost_ret (v := .tuple #[.agg #[.pointer (some ⟨B,0,none⟩),.slice aO O.length cO],.int .i64 0]) (res_row (p := 4) (u := 5) rfl _ _ w.heap.size 68 _ (0,0) _ _ rfl hf rfl Tryz.underlying68 rfl (by kernel_rfl)) rfl ?_; refine ⟨aO,cO,rfl,below_set (below_set HB5.out.1 (Nat.le_refl _) _) (Nat.le_refl _) _,fun h0 => ?_,fun b k e h0 => Nat.le_of_succ_le (HGE.out b k e h0)⟩; obtain ⟨b,o,e,hb,hc⟩ := HB5.out.2 h0; have hbn : b ≠ w.heap.size := by
    have := HGE.out b o e h0
    omega
  exact ⟨b,o,e,by simpa using hb,fun j hj => (World.cell?_of_block (a := ⟨b,o + j,none⟩) ((heap_setCell_other _ _ _ _ hbn).trans (heap_setCell_other _ _ _ _ hbn))).trans (hc j hj)⟩
end Go.Proofs.YtkpapgfbnledpaaGreatDoor.GP
namespace Go.Proofs.YtkpapgfbnledpaaGreatDoor.GP
open Go.Proofs.YtkpapgfbnledpaaGreatDoor
open Go.Proofs.YtkpapgfbnledpaaGreatDoor.G2 (V9 VK)
open Go.Proofs.YtkpapgfbnledpaaGreatDoor.GI (INS make_mp code_nil)
open Go.ChangeShapes Go.WideShapes Go.ChangeAt Go.RowKit Go.Lib Go.Tm Go.Bw Go.Bn Go.WideMaps Go.Maps Go.ChangeMaps Go.Shelf
attribute [local go_sem] Oper.semAt_some

theorem toN_b {L : List Nd} {rs : List Int} (hr : ∀ x ∈ rs,isT L x = true) : ∀ r ∈ toN rs,1 <= r /\ r <= L.length /\ True := fun r hr' => by
  obtain ⟨y,hy,rfl⟩ := List.mem_map.1 hr'; have := (of_decide_eq_true (hr y hy) : 1 <= y /\ y <= (L.length : Int)); exact ⟨by omega,by omega,trivial⟩
theorem fst_at {ps : List (ByteArray × Nat)} {i : Nat} (h : i < ps.length) : (ps.map (·.1)).getD i ByteArray.empty = (ps.getD i (ByteArray.empty,0)).1 := by
  rw [List.getD_eq_getElem?_getD,List.getElem?_map,List.getD_eq_getElem?_getD,List.getElem?_eq_getElem h]
  rfl
theorem snd_at {ps : List (ByteArray × Nat)} {i : Nat} (h : i < ps.length) : (ps.map fun p => ((p.2 : Nat) : Int)).getD i 0 = (((ps.getD i (ByteArray.empty,0)).2 : Nat) : Int) := by
  rw [List.getD_eq_getElem?_getD,List.getElem?_map,List.getD_eq_getElem?_getD,List.getElem?_eq_getElem h]
  rfl
theorem tm_take {ps : List (ByteArray × Nat)} {i : Nat} (h : i < ps.length) (y : ByteArray) : tmF (ps.take (i + 1)) y = if y = (ps.getD i (ByteArray.empty,0)).1 then some (ps.getD i (ByteArray.empty,0)).2 else tmF (ps.take i) y := by
  have e : ps.take (i + 1) = ps.take i ++ [ps.getD i (ByteArray.empty,0)] := by
    rw [List.take_add_one,List.getElem?_eq_getElem h,List.getD_eq_getElem?_getD,List.getElem?_eq_getElem h]
    rfl
  rw [e,tmF_snoc]
theorem tm_mem : ∀ (n : Nat) (ps : List (ByteArray × Nat)),ps.length = n -> ∀ y r,tmF ps y = some r -> (y,r) ∈ ps := by
  intro n
  induction n with
  | zero =>
    intro ps hl y r h; obtain rfl := List.eq_nil_of_length_eq_zero hl; cases h
  | succ n ih =>
    intro ps hl y r h; obtain ⟨ps,p,rfl⟩ : ∃ q p,ps = q ++ [p] := by
      rcases List.eq_nil_or_concat ps with rfl | ⟨q,p,e⟩
      · simp at hl
      exact ⟨q,p,by rw [e,List.concat_eq_append]⟩
    rw [tmF_snoc] at h
    split at h
    · rename_i e
      obtain rfl := Option.some.inj h; rw [e]; exact List.mem_append_right _ (List.mem_singleton.2 rfl)
    exact List.mem_append_left _ (ih ps (by simp at hl; exact hl) y r h)
abbrev tmI (ps : List (ByteArray × Nat)) : ByteArray -> Option Int := fun s => (tmF ps s).map fun n => ((n : Nat) : Int)
theorem putfn_ok {aR aN aT : Option Addr} {cR cN cT : Nat} {rs : List Int} {ps : List (ByteArray × Nat)} {B0 B : Nat} {lim : Int} {L : List Nd} {v : Value} {M1 M2 : Option Nat} {V : V9} {x1 x2 : ByteArray -> Nat} (w : World) (hS : SM 78 w B0 B lim L v M1 M2) (hB0 : B0 <= w.heap.size) (hl : 3 * L.length < 1000000000000) (hI : IR w aR rs) (hIK : ∀ W,Kp w W B v M1 M2 -> IR W aR rs) (hr : ∀ x ∈ rs,isT L x = true) (hrl : rs.length <= 1000000000000)
    (hN : NMR w aN (ps.map (·.1))) (hT : IR w aT (ps.map fun p => ((p.2 : Nat) : Int))) (hpl : ps.length <= 1000000000000) (hpt : ∀ p ∈ ps,1 <= p.2 /\ p.2 <= L.length) (hpn : ∀ i j,i < j -> j < ps.length -> ¬ (ps.getD j (ByteArray.empty,0)).1 = (ps.getD i (ByteArray.empty,0)).1) (hpg : ∀ p ∈ ps,nmB p.1 = true /\ p.1.size <= 140737488355328) (hH : PTH V lim L (tmF ps) x1 x2) :
    Calls Tryz.prog 13 #[.pointer (some ⟨B,0,none⟩),.slice aR rs.length cR,.slice aN ps.length cN,.slice aT ps.length cT] w fun e w' => ∃ g2 s,e = .returned (.tuple #[.slice (some ⟨g2,0,none⟩) rs.length rs.length,.int .i64 0]) /\ fP lim L (tmF ps) (og L [] (toN rs)).attach = some s /\ PQ w B0 B lim L v M1 M2 rs s g2 w' := by
  have hP := hH.pars; have HC : Hid (Calls Tryz.prog 26 #[.pointer (some ⟨B,0,none⟩),.slice aR rs.length cR] w fun e w' => ∃ aO cO,e = .returned (.tuple #[.agg #[.pointer (some ⟨B,0,none⟩),.slice aO (og L [] (toN rs)).length cO],.int .i64 0]) /\ Below w.heap.size w w' /\ OR w' aO (og L [] (toN rs)) /\ ∀ b k,aO = some ⟨b,k,none⟩ -> 0 < (og L [] (toN rs)).length -> w.heap.size <= b) := coneOf_ge (cp := cR) B0 B lim L v M1 M2 w hS hP.1 hI (by omega) hr; obtain ⟨hW,_,hroot,_⟩ := og_ok (R := fun _ => True) hP.1 (toN rs) [] (PW.nil L) ⟨fun _ _ _ _ => Or.inl trivial,fun _ _ _ _ => Or.inl trivial⟩ (toN_b hr); obtain ⟨g0,hSR,_,_⟩ := hS.sr; have hlO : (og L [] (toN rs)).length <= L.length := by have := hW.len; simpa using this
  have HVS : Hid (∀ W (aO : Option Addr) cO,Below w.heap.size w W -> OR W aO (og L [] (toN rs)) -> Calls Tryz.prog 27 #[.agg #[.pointer (some ⟨B,0,none⟩),.slice aO (og L [] (toN rs)).length cO]] W fun e w' => ∃ ad cp,e = .returned (.slice ad (varsF L (og L [] (toN rs))).length cp) /\ VR w' ad (varsF L (og L [] (toN rs))) /\ Below W.heap.size W w') := fun W aO cO h1 h2 => vars_any W (hSR.below h1) h2 hW.ob (by omega)
  have hlo := fun k (hk : Own B v M1 M2 k) => hS.lt hk
  have HPT : Hid (∀ W (aO : Option Addr) cO Mi,Below w.heap.size w W -> OR W aO (og L [] (toN rs)) -> (∀ b k,aO = some ⟨b,k,none⟩ -> 0 < (og L [] (toN rs)).length -> w.heap.size <= b) -> w.heap.size <= Mi -> INS W Mi ps.length (tmI ps) -> Calls Tryz.prog 33 #[.agg #[.pointer (some ⟨B,0,none⟩),.slice aO (og L [] (toN rs)).length cO],.slice aR rs.length cR,.map (some Mi)] W fun e w' => ∃ g2 s,e = .returned (.tuple #[.slice (some ⟨g2,0,none⟩) rs.length rs.length,.nilIface]) /\ fP lim L (tmF ps) (og L [] (toN rs)).attach = some s /\ PQ w B0 B lim L v M1 M2 rs s g2 w') := fun W aO cO Mi h1 h2 hge h3 h4 => by
    have hs1 := h1.size; refine (put_ok (N := L.length) (Mi := Mi) (nM := ps.length) (cO := cO) (cR := cR) W (hS.below h1) (Nat.le_trans hB0 hs1) (by omega) hH (fun s r h => (hpt _ (tm_mem _ ps rfl s r h)).2) hW (fun X hX => ⟨h4.keep (hX.block Mi h4.lt (fun ho => by have := hlo _ ho; omega)),fun h0 => ?_,hIK X (kp_pre h1 hX)⟩) (fun x hx => ?_) hrl).mono fun e w' ⟨g2,s,h5,h6,h7⟩ => ⟨g2,s,h5,h6,PQ.back h1 h7⟩
    · obtain ⟨b,o,e,hb,hc⟩ := h2 h0
      have hbw := hge b o e h0; exact ⟨b,o,e,Nat.lt_of_lt_of_le hb hX.size,fun j hj => (World.cell?_of_block (a := ⟨b,o + j,none⟩) (hX.block b hb (fun ho => by have := hlo _ ho; omega))).trans (hc j hj)⟩
    have hm := mxN_ge (hroot _ (List.mem_map.2 ⟨x,hx,rfl⟩)); have := (of_decide_eq_true (hr x hx) : 1 <= x /\ x <= (L.length : Int)); exact ⟨by omega,by omega⟩
  have HVX : Hid (∀ x ∈ varsF L (og L [] (toN rs)),x.nm.size <= 140737488355328 /\ ∀ r,tmF ps x.nm = some r -> ∀ W,Below w.heap.size w W -> Calls Tryz.prog 32 #[.pointer (some ⟨B,0,none⟩),.int .i64 (r : Int)] W fun e w' => e = .returned (.int .i64 x.w) /\ Below W.heap.size W w') := fun x hx => by
    unfold varsF at hx; obtain ⟨t,ht,hx⟩ := List.mem_flatMap.1 hx; unfold vrN at hx
    split at hx
    · rw [List.mem_singleton.1 hx]
      have hb := hW.ob t ht; have hm : L.getD (t - 1) z0 ∈ L := G2.getD_in (by omega); refine ⟨Nat.le_trans (hP.2 _ hm).name (by omega),fun r h W hb' => ?_⟩; obtain ⟨_,r1,r2,hw,_⟩ := hH.put t hb.1 hb.2 r h; have h9 := G2.wid_any B g0 L r r1 r2 w hSR W hb'; rw [hw] at h9; exact h9
    cases hx
  have hvl : (varsF L (og L [] (toN rs))).length <= 1000000000000 := Nat.le_trans (varsF_len L _) (by omega); have HTM : Hid (∀ W,Below w.heap.size w W -> Calls Tryz.prog 30 #[.pointer (some ⟨B,0,none⟩),.slice aT ps.length cT] W fun e w' => e = .returned (.bool true) /\ Below W.heap.size W w') := fun W hb => by
    have h9 := terms_any (ad := aT) (cp := cT) (rs := ps.map fun p => ((p.2 : Nat) : Int)) B0 B lim L v M1 M2 W (hS.below hb) (hT.below hb) (fun x hx => by obtain ⟨p,hp,rfl⟩ := List.mem_map.1 hx; exact isT_n (hpt p hp).1 (hpt p hp).2) (by rw [List.length_map]; exact hpl); rw [List.length_map] at h9; exact h9
  have HNA : Hid (∀ W,Below w.heap.size w W -> Calls Tryz.prog 31 #[.slice aN ps.length cN] W fun e w' => e = .returned (.bool true) /\ Below W.heap.size W w') := fun W hb => by
    have h9 := names_any (ad := aN) (cp := cN) (xs := ps.map (·.1)) W (hN.below hb) (by rw [List.length_map]; exact hpl) (fun i j h1 h2 => by rw [List.length_map] at h2; rw [fst_at h2,fst_at (by omega)]; exact hpn i j h1 h2) (fun x hx => by obtain ⟨p,hp,rfl⟩ := List.mem_map.1 hx; exact hpg p hp); rw [List.length_map] at h9; exact h9
  have HNM : Hid (∀ i,i < ps.length -> ∃ b o c p,aN = some ⟨b,o,none⟩ /\ aT = some ⟨c,p,none⟩ /\ ∀ W,Below w.heap.size w W -> W.cell? ⟨b,o + i,none⟩ = some (.string (ps.getD i (ByteArray.empty,0)).1) /\ W.cell? ⟨c,p + i,none⟩ = some (.int .i64 ((ps.getD i (ByteArray.empty,0)).2 : Int))) := fun i hi => by
    obtain ⟨b,o,e1,_,h1⟩ := hN (by rw [List.length_map]; omega); obtain ⟨c,p,e2,_,h2⟩ := hT (by rw [List.length_map]; omega); refine ⟨b,o,c,p,e1,e2,fun W hb => ?_⟩; have h3 := h1 i (by rw [List.length_map]; exact hi); have h4 := h2 i (by rw [List.length_map]; exact hi); rw [fst_at hi] at h3; rw [snd_at hi] at h4; exact ⟨(hb.cell (block_lt_of_cell h3)).trans h3,(hb.cell (block_lt_of_cell h4)).trans h4⟩
  have HPG : Hid (∀ i,i < ps.length -> (ps.getD i (ByteArray.empty,0)).1.size <= 140737488355328 /\ I64 (((ps.getD i (ByteArray.empty,0)).2 : Nat) : Int)) := fun i hi => by
    have hm : ps.getD i (ByteArray.empty,0) ∈ ps := by rw [List.getD_eq_getElem?_getD,List.getElem?_eq_getElem hi]; exact List.getElem_mem _
    exact ⟨(hpg _ hm).2,by have := (hpt _ hm).2; unfold I64; omega⟩
  generalize hPQ : (fun s g2 w' => PQ w B0 B lim L v M1 M2 rs s g2 w') = PP
  have HPP : Hid (∀ s g2 w' w2,PP s g2 w' -> Below w'.heap.size w' w2 -> PP s g2 w2) := fun s g2 w' w2 h hb => by
    rw [<- hPQ] at h ⊢; exact PQ.below h hb
  have HPT2 : Hid (∀ W (aO : Option Addr) cO Mi,Below w.heap.size w W -> OR W aO (og L [] (toN rs)) -> (∀ b k,aO = some ⟨b,k,none⟩ -> 0 < (og L [] (toN rs)).length -> w.heap.size <= b) -> w.heap.size <= Mi -> INS W Mi ps.length (tmI ps) -> Calls Tryz.prog 33 #[.agg #[.pointer (some ⟨B,0,none⟩),.slice aO (og L [] (toN rs)).length cO],.slice aR rs.length cR,.map (some Mi)] W fun e w' => ∃ g2 s,e = .returned (.tuple #[.slice (some ⟨g2,0,none⟩) rs.length rs.length,.nilIface]) /\ fP lim L (tmF ps) (og L [] (toN rs)).attach = some s /\ PP s g2 w') := by
    rw [<- hPQ]; exact HPT
  have hgoal : (fun (e : Ending) (w' : World) => ∃ g2 s,e = .returned (.tuple #[.slice (some ⟨g2,0,none⟩) rs.length rs.length,.int .i64 0]) /\ fP lim L (tmF ps) (og L [] (toN rs)).attach = some s /\ PQ w B0 B lim L v M1 M2 rs s g2 w') = fun e w' => ∃ g2 s,e = .returned (.tuple #[.slice (some ⟨g2,0,none⟩) rs.length rs.length,.int .i64 0]) /\ fP lim L (tmF ps) (og L [] (toN rs)).attach = some s /\ PP s g2 w' := by rw [<- hPQ]
  rw [hgoal]; clear hgoal hPQ HPT hS hB0 hl hI hIK hr hrl hN hT hpt hpn hpg hH hP hW hroot hSR hlO hlo
  generalize fP lim L (tmF ps) (og L [] (toN rs)).attach = fp at *
  generalize og L [] (toN rs) = O at *
  generalize varsF L O = vs at *
  generalize O.length = n at *
  obtain ⟨nv,hnv⟩ : ∃ nv,vs.length = nv := ⟨_,rfl⟩; have HNV : Hid (vs.length = nv) := hnv; rw [hnv] at HVS hvl; clear hnv; obtain ⟨np,hnp⟩ : ∃ np,ps.length = np := ⟨_,rfl⟩; have HNP : Hid (ps.length = np) := hnp; rw [hnp] at HPT2 HTM HNA HNM HPG hpl ⊢; clear hnp
  generalize rs.length = d at *
  go_enter Tryz.func13,Tryz.ntmps13
  go_wp2_with fail
  refine HC.out.mono ?_; rintro e w1 ⟨aO,cO,rfl,hb1,hO1,hge1⟩; have H1 : Hid (Below w.heap.size w w1 /\ OR w1 aO O) := ⟨hb1,hO1⟩; have HGE : Hid (∀ b k,aO = some ⟨b,k,none⟩ -> 0 < n -> w.heap.size <= b) := hge1; clear hb1 hO1 HC hge1
  go_wp2_with fail
  obtain ⟨Cb,hCb⟩ : ∃ Cb,w1.heap.size = Cb := ⟨_,rfl⟩; obtain ⟨w2,hw2⟩ : ∃ w2,w1.alloc (Obj.cells #[.pointer (some ⟨B,0,none⟩),.slice aO n cO] 68) = w2 := ⟨_,rfl⟩; have H2 : Hid (Below w.heap.size w w2 /\ OR w2 aO O /\ w2.heap[Cb]? = some (Obj.cells #[.pointer (some ⟨B,0,none⟩),.slice aO n cO] 68 (0,0))) := by
    rw [<- hw2,<- hCb]; exact ⟨H1.out.1.trans (below_le' (bel1 w1 _) H1.out.1.size),H1.out.2.below (bel1 w1 _),heap_alloc_new w1 _⟩
  rw [hCb,hw2]; clear hCb hw2 H1; have HUP : Hid (∀ X Y,(Below w.heap.size w X /\ OR X aO O /\ X.heap[Cb]? = some (Obj.cells #[.pointer (some ⟨B,0,none⟩),.slice aO n cO] 68 (0,0))) -> Below X.heap.size X Y -> (Below w.heap.size w Y /\ OR Y aO O /\ Y.heap[Cb]? = some (Obj.cells #[.pointer (some ⟨B,0,none⟩),.slice aO n cO] 68 (0,0)))) := fun X Y h hb => ⟨h.1.trans (below_le' hb h.1.size),h.2.1.below hb,(hb.block _ (Array.getElem?_eq_some_iff.1 h.2.2).1).trans h.2.2⟩
  refine (HTM.out w2 H2.out.1).mono ?_; rintro e w3 ⟨rfl,hb3⟩; have H3 := Lib.hid (HUP.out _ _ H2.out hb3); clear hb3 H2 HTM
  go_wp2_with fail
  refine (HNA.out w3 H3.out.1).mono ?_; rintro e w4 ⟨rfl,hb4⟩; have H4 := Lib.hid (HUP.out _ _ H3.out hb4); clear hb4 H3 HNA; have eM := make_mp Tryz.underlying76 (np : Int) w4
  go_wp2_with fail
  clear eM; obtain ⟨Mi,hMi⟩ : ∃ Mi,w4.heap.size = Mi := ⟨_,rfl⟩; obtain ⟨w5,hw5⟩ : ∃ w5,w4.alloc (.map #[] 0) = w5 := ⟨_,rfl⟩; have HMi : Hid (w4.heap.size = Mi) := hMi; have H5 : Hid (Below w4.heap.size w4 w5 /\ INS w5 Mi 0 (tmI (ps.take 0))) := by
    rw [<- hw5,<- hMi]; exact ⟨bel1 w4 _,INS.made (heap_alloc_new w4 _)⟩
  rw [hw5]
  try rw [hMi]
  clear hw5 hMi
  go_loopg [51] np (fun gk s51 wr => ∃ i : Nat,s51 = .int .i64 (i : Int) /\ i + gk = np /\ Below w4.heap.size w4 wr /\ INS wr Mi i (tmI (ps.take i)))
  case atStart => exact ⟨0,rfl,by omega,H5.out⟩
  case round =>
    obtain ⟨i,rfl,hi,hbr,hin⟩ := hrel; have HR : Hid (Below w4.heap.size w4 wr /\ INS wr Mi i (tmI (ps.take i))) := ⟨hbr,hin⟩; have HRU := Lib.hid (HUP.out _ _ H4.out hbr); clear hbr hin
    by_cases hlt : i < np
    · have hlx : i < ps.length := by rw [HNP.out]; exact hlt
      obtain ⟨b,o,c,p,e1,e2,hcc⟩ := HNM.out i hlt; obtain ⟨c1,c2⟩ := hcc wr HRU.out.1; obtain ⟨g1,g2⟩ := HPG.out i hlt; have q1 : (i : Int) < (np : Int) := by omega
      have HPu : Hid (∀ W,Below wr.heap.size wr W -> ∃ w',(Instr.mapUpdate 76 (.map (some Mi)) (.string (ps.getD i (ByteArray.empty,0)).1) (.int .i64 ((ps.getD i (ByteArray.empty,0)).2 : Int))).run Tryz.prog W = .ok () w' /\ INS w' Mi (i + 1) (tmI (ps.take (i + 1))) /\ Below w4.heap.size w4 w') := fun W hb => by
        obtain ⟨w',h1,h2,h3⟩ := INS.put (HR.out.2.below hb) (by omega) _ g1 _ g2; have h4 := HR.out.1.trans (below_le' hb HR.out.1.size); refine ⟨w',h1,INS.congr h2 (fun y => ?_),⟨h3.os.trans h4.os,h3.tape.trans h4.tape,h3.output.trans h4.output,Nat.le_trans h4.size h3.size,fun j hj => (h3.block j (Nat.lt_of_lt_of_le hj h4.size) (fun e => by cases e; have := HMi.out; omega)).trans (h4.block j hj)⟩⟩; unfold tmI; rw [tm_take hlx]
        split <;> rfl
      subst e1 e2; clear hcc g1 g2
      generalize (ps.getD i (ByteArray.empty,0)).1 = nm at *
      generalize (((ps.getD i (ByteArray.empty,0)).2 : Nat) : Int) = tt at *
      obtain ⟨w6,hput,ht6,hb6⟩ := HPu.out wr (Below.refl _ _); have H6 : Hid (Below w4.heap.size w4 w6 /\ INS w6 Mi (i + 1) (tmI (ps.take (i + 1)))) := ⟨hb6,ht6⟩; clear hb6 ht6 HPu
      go_wp2_with fail
      go_roundg (np - (i + 1))
      case measure => omega
      case rel => exact ⟨i + 1,by simp,by omega,H6.out⟩
    have hik : i = np := by omega
    subst hik; have ht : ps.take i = ps := by rw [<- HNP.out,List.take_length]
    rw [ht] at HR; clear ht H5; have k0 : wr.cell? ⟨Cb,0,none⟩ = some (.pointer (some ⟨B,0,none⟩)) := blk_cell HRU.out.2.2 0; have k1 : wr.cell? ⟨Cb,1,none⟩ = some (.slice aO n cO) := blk_cell HRU.out.2.2 1
    go_wp2_with fail
    refine (HVS.out wr aO cO HRU.out.1 HRU.out.2.1).mono ?_; rintro e w7 ⟨aS,cS,rfl,hv7,hb7⟩; have H7 : Hid (Below w4.heap.size w4 w7 /\ INS w7 Mi i (tmI ps)) := ⟨HR.out.1.trans (below_le' hb7 HR.out.1.size),HR.out.2.below hb7⟩; have HV7 : Hid (VR w7 aS vs) := hv7; clear k0 k1 hv7 hb7 HVS HR
    go_wp2_with fail
    go_loopg [66] nv (fun gk s66 wq => ∃ i : Nat,s66 = .int .i64 (i : Int) /\ i + gk = nv /\ Below w7.heap.size w7 wq)
    case atStart => exact ⟨0,rfl,by omega,Below.refl _ _⟩
    case round =>
      obtain ⟨j,rfl,hj,hbq⟩ := hrel; have HQ : Hid (Below w7.heap.size w7 wr) := hbq; clear hbq
      by_cases hlt : j < nv
      · have hlx : j < vs.length := by rw [HNV.out]; exact hlt
        obtain ⟨b,o,rfl,hbl,hc⟩ := (HV7.out.below HQ.out) (by rw [HNV.out]; omega); obtain ⟨c1,c2,c3⟩ := hc j hlx; have q1 : (j : Int) < (nv : Int) := by omega
        have hxm : vs.getD j vZ ∈ vs := by rw [List.getD_eq_getElem?_getD,List.getElem?_eq_getElem hlx]; exact List.getElem_mem _
        obtain ⟨hs1,hwd⟩ := HVX.out _ hxm; have HX : Hid (∀ o X,Below (wr.alloc o).heap.size (wr.alloc o) X -> Below w.heap.size w X /\ INS X Mi i (tmI ps) /\ Below w7.heap.size w7 X) := fun o X hb => by
          have h1 : Below w7.heap.size w7 X := HQ.out.trans (below_le' ((bel1 wr o).trans (below_le' hb (by simp))) HQ.out.size); have h2 : Below w4.heap.size w4 X := H7.out.1.trans (below_le' h1 H7.out.1.size); exact ⟨(HUP.out _ _ H4.out h2).1,H7.out.2.below h1,h1⟩
        clear hc hxm
        generalize vs.getD j vZ = x at *
        obtain ⟨nm,xw,xn⟩ := x
        dsimp only at c1 c2 c3 hs1 hwd
        have hlk := (HX.out (Obj.cells #[.string nm,.int .i64 xw,.int .u64 xn] 38 (0,0)) _ (Below.refl _ _)).2.1.look nm hs1; cases htm : tmF ps nm with
        | none =>
          rw [show tmI ps nm = none by unfold tmI; rw [htm]; rfl] at hlk
          dsimp only [Option.getD,Option.isSome] at hlk
          clear hwd
          go_wp2_with fail
          refine sq_start (fun _ => True) [4] [0,1,2,3,5,6,4,7,8] (by kernel_rfl) (by kernel_rfl) trivial ?_
          repeat (first
            | (refine sq_skip (by rfl) (by rfl) ?_; simp only [Act.put,List.setIfInBounds_toArray,List.set_cons_zero,List.set_cons_succ])
            | (refine sq_op (v := ?_) (by rfl) (by rfl) (by rfl) ?_ ?_; rotate_left; (focus (intro w _; go_simp <;> with_reducible rfl)); simp only [Act.put,List.setIfInBounds_toArray,List.set_cons_zero,List.set_cons_succ]))
          refine sq_end (fun _ => ?_); have HE2 : Hid (∀ o,Below w7.heap.size w7 (wr.alloc o).drew) := fun o => (HQ.out.trans (below_le' (bel1 wr o) HQ.out.size)).trans ⟨rfl,rfl,rfl,Nat.le_refl _,fun _ _ => rfl⟩
          go_wp2_with fail
          go_roundg (nv - (j + 1))
          case measure => omega
          case rel => exact ⟨j + 1,by simp,by omega,HE2.out _⟩
        | some r =>
          rw [show tmI ps nm = some (r : Int) by unfold tmI; rw [htm]; rfl] at hlk
          dsimp only [Option.getD,Option.isSome] at hlk
          have HWD := Lib.hid (hwd r htm); clear hwd; have hne : (xw != xw) = false := by simp
          have HB0 : Hid (∀ X,Below (wr.alloc (Obj.cells #[.string nm,.int .i64 xw,.int .u64 xn] 38 (0,0))).heap.size (wr.alloc (Obj.cells #[.string nm,.int .i64 xw,.int .u64 xn] 38 (0,0))) X -> X.heap[wr.heap.size]? = some (Obj.cells #[.string nm,.int .i64 xw,.int .u64 xn] 38 (0,0))) := fun X hb => (hb.block wr.heap.size (by simp)).trans (heap_alloc_new wr _)
          go_wp2_with fail
          have hz0 : Below (wr.alloc (Obj.cells #[.string nm,.int .i64 xw,.int .u64 xn] 38)).heap.size (wr.alloc (Obj.cells #[.string nm,.int .i64 xw,.int .u64 xn] 38)) (wr.alloc (Obj.cells #[.string nm,.int .i64 xw,.int .u64 xn] 38)).drew := ⟨rfl,rfl,rfl,Nat.le_refl _,fun _ _ => rfl⟩; refine sq_start (fun X => Below (wr.alloc (Obj.cells #[.string nm,.int .i64 xw,.int .u64 xn] 38)).heap.size (wr.alloc (Obj.cells #[.string nm,.int .i64 xw,.int .u64 xn] 38)) X) [4] [0,1,2,3,5,6,4,7,8] (by kernel_rfl) (by kernel_rfl) hz0 ?_
          repeat (refine sq_op (v := ?_) (by rfl) (by rfl) (by rfl) ?_ ?_; rotate_left; (focus (intro w hSw; have d9 := blk_cell (HB0.out _ hSw) 1; simp at d9; go_simp <;> with_reducible rfl)); simp only [Act.put,List.setIfInBounds_toArray,List.set_cons_zero,List.set_cons_succ])
          refine sq_do (by rfl) (by rfl) (by rfl) (fun K hK => ?_)
          go_simp
          go_at_call 32
          refine (HWD.out _ (HX.out _ _ hz0).1).mono ?_; rintro e w8 ⟨rfl,hb8⟩; have hz8 := hz0.trans (below_le' hb8 hz0.size); refine hK.out _ _ hz8 (fun _ => ?_); clear hK K
          try simp only [Act.put,List.setIfInBounds_toArray,List.set_cons_zero,List.set_cons_succ]
          repeat (refine sq_op (v := ?_) (by rfl) (by rfl) (by rfl) ?_ ?_; rotate_left; (focus (intro w hSw; have d9 := blk_cell (HB0.out _ hSw) 1; simp at d9; go_simp <;> with_reducible rfl)); simp only [Act.put,List.setIfInBounds_toArray,List.set_cons_zero,List.set_cons_succ])
          refine sq_end (fun _ => ?_); have HE2 := Lib.hid (HX.out _ _ hz8).2.2; clear hb8 hz8 hz0 HB0
          go_wp2_with fail
          go_roundg (nv - (j + 1))
          case measure => omega
          case rel => exact ⟨j + 1,by simp,by omega,HE2.out⟩
      have hik : j = nv := by omega
      subst hik; have hb4 : Below w4.heap.size w4 wr := H7.out.1.trans (below_le' HQ.out H7.out.1.size); have HZ := Lib.hid (HUP.out _ _ H4.out hb4); have HIZ : Hid (INS wr Mi i (tmI ps)) := H7.out.2.below HQ.out; have k0 : wr.cell? ⟨Cb,0,none⟩ = some (.pointer (some ⟨B,0,none⟩)) := blk_cell HZ.out.2.2 0; have k1 : wr.cell? ⟨Cb,1,none⟩ = some (.slice aO n cO) := blk_cell HZ.out.2.2 1; have hMiw : w.heap.size <= Mi := by have := HMi.out; have := H4.out.1.size; omega
      clear hb4
      go_wp2_with fail
      refine (HPT2.out wr aO cO Mi HZ.out.1 HZ.out.2.1 HGE.out hMiw HIZ.out).mono ?_; rintro e w8 ⟨g2,s,rfl,hf8,hp8⟩; have H8 : Hid (fp = some s /\ ∀ X,Below w8.heap.size w8 X -> PP s g2 X) := ⟨hf8,fun X hX => HPP.out s g2 w8 X hp8 hX⟩; clear hf8 hp8 HPT2
      go_wp2_with fail
      refine (code_nil w8).mono ?_; rintro e w9 ⟨rfl,hb9⟩; have H9 : Hid (fp = some s /\ PP s g2 w9) := ⟨H8.out.1,H8.out.2 w9 hb9⟩; clear hb9 H8 k0 k1
      go_wp2_with fail
      first
        | exact ⟨g2,s,rfl,H9.out⟩
        | (go_ret2; exact ⟨g2,s,rfl,H9.out⟩)
end Go.Proofs.YtkpapgfbnledpaaGreatDoor.GP
