import Derived.Test.YtfljcdccepnidaaGreatDoorWzG
import Derived.Test.YtfljcdccepnidaaGreatDoorOpF
import Derived.Test.YtfljcdccepnidaaGreatDoorRows
import Derived.Test.YtfljcdccepnidaaGreatDoorCards
import Derived.Test.YtfljcdccepnidaaGreatDoorTie
import Derived.LaidMore
import Derived.ShutString
import Derived.SizedLaws
import Derived.ChangeOld
import Derived.Carry
import Derived.Stop.Joined
import Derived.Stop.LaidErr
import Derived.Lib.LaidTab
import Derived.SevenTiedAt
import Derived.Deep.Slices
import Derived.Deep.Strs
import Derived.Deep.DeepHandedRow
namespace Go.Proofs.YtfljcdccepnidaaGreatDoor
open Go.ChangeShapes Go.WideShapes Go.ChangeAt Go.RowKit Go.Lib

theorem laid_cell {P : Program} {W : World} {base : Nat} {sp : Nat -> Bool} {held : Bool} {fuel : Nat} {t e : TypeId} {n k : Nat} {fs : Array Field} {cs : List Value} {ds : List (DataW Unit)} {p : List MemPlace} {enc : TypeId × Value -> Unit}
    (ht : P.underlying t = some (.array n e)) (he : P.underlying e = some (.struct fs)) (hk : P.cellsOf e = k) (hct : P.cellsOf t = n * k)
    (h : DataW.trod enc P W base sp held fuel t cs = some (.agg ds,p)) {j i : Nat} {f : Field} {parts : List (DataW Unit)} {l : DataW Unit} (hj : j < n) (hf : fs[i]? = some f) (hc1 : P.cellsOf f.type = 1) (ho : f.offset < k) (hd : ds[j]? = some (.agg parts)) (hl : parts[i]? = some l) :
    ∃ v m q,cs[j * k + f.offset]? = some v /\ DataW.trod enc P W base sp held m f.type [v] = some (l,q) := by
  obtain ⟨xs,m,_,hx,hlen,hxl,hel⟩ := DataW.trod_array ht h; have h1 := hel j hj; rw [hk] at h1; obtain ⟨x,hxj⟩ : ∃ x,xs[j]? = some x := ⟨xs[j]'(by omega),List.getElem?_eq_getElem (by omega)⟩; rw [hxj] at h1; have hds : ds = xs.map (·.1) := by have := congrArg Prod.fst hx; simpa using this
  have hx1 : x.1 = .agg parts := by
    rw [hds,List.getElem?_map,hxj] at hd
    simpa using hd
  obtain ⟨ys,m2,_,hy,hl2,hyl,hf2⟩ := DataW.trod_struct he h1; have h3 := hf2 i f hf; have hys : parts = ys.map (·.1) := by
    have := congrArg Prod.fst hy; rw [hx1] at this
    simpa using this
  rw [hys,List.getElem?_map] at hl; obtain ⟨y,hyi,rfl⟩ := Option.map_eq_some_iff.1 hl; rw [hyi,hc1] at h3; have hlt : j * k + f.offset < cs.length := by
    rw [hlen,hct]; have := Nat.mul_le_mul_right k hj; rw [Nat.succ_mul] at this
    omega
  refine ⟨cs[j * k + f.offset],m2,y.2,List.getElem?_eq_getElem hlt,?_⟩; rw [<- h3]
  congr 1
  apply List.ext_getElem?
  intro i2; cases i2 with
  | zero => simp [List.getElem?_drop,ho,List.getElem?_eq_getElem hlt]
  | succ i2 => simp [List.getElem?_take]
theorem laidOut : laidOutB Tryz.prog = true := by kernel_rfl
theorem gSh : Tryz.prog.globalNamed "cadence/lang.shapes" = some 1 := by kernel_rfl
theorem tSh : (Tryz.prog.globals[1]?).map (·.type) = some 153 := by kernel_rfl
theorem gSf : Tryz.prog.globalNamed "cadence/lang.stmtFields" = some 0 := by kernel_rfl
theorem tSf : (Tryz.prog.globals[0]?).map (·.type) = some 139 := by kernel_rfl
def shapeParts : DataW Unit -> List (DataW Unit)
  | .agg l => l
  | _ => []
set_option maxRecDepth 100000 in
theorem of_laid {W : World} (h : laidMetH Tryz.prog Rows.wfCalledUptoRow.laid W) : Lf.TBL 1 W /\ Lf.TBF 0 W /\ 1 < W.heap.size := by
  rw [MakeChecks.laidMetH_plain _ _ _ (by kernel_rfl)] at h; have hh := h.tail; obtain ⟨ps,⟨g',t',cs,fuel,p,q,hg',ht',hvar,hd,_,_⟩,_⟩ := h; obtain rfl := Option.some.inj (gSh.symm.trans hg'); obtain rfl := Option.some.inj (tSh.symm.trans ht'); obtain ⟨ps2,⟨g2,t2,cs2,fuel2,p2,q2,hg2,ht2,hvar2,hd2,_,_⟩,_⟩ := hh; obtain rfl := Option.some.inj (gSf.symm.trans hg2); obtain rfl := Option.some.inj (tSf.symm.trans ht2); have T1 : Lf.TBL 1 W := by
    intro kn h1 h26; have hc := World.var?_cell gSh hvar (kn * 3 + 1); rw [hc,Array.getElem?_toList.symm]; have hpos : ∃ l,(shapeParts Rows.laid_cadence_lang_shapes)[kn]? = some (.agg [l,.lit (.int .i64 (Lf.prt kn)),.lit (.string (((shapeParts Rows.laid_cadence_lang_shapes).map fun d => match d with | .agg [_,_,.lit (.string z)] => z | _ => []).getD kn []))]) := by
      have : kn = 1 ∨ kn = 2 ∨ kn = 3 ∨ kn = 4 ∨ kn = 5 ∨ kn = 6 ∨ kn = 7 ∨ kn = 8 ∨ kn = 9 ∨ kn = 10 ∨ kn = 11 ∨ kn = 12 ∨ kn = 13 ∨ kn = 14 ∨ kn = 15 ∨ kn = 16 ∨ kn = 17 ∨ kn = 18 ∨ kn = 19 ∨ kn = 20 ∨ kn = 21 ∨ kn = 22 ∨ kn = 23 ∨ kn = 24 ∨ kn = 25 ∨ kn = 26 := by omega
      rcases this with rfl | rfl | rfl | rfl | rfl | rfl | rfl | rfl | rfl | rfl | rfl | rfl | rfl | rfl | rfl | rfl | rfl | rfl | rfl | rfl | rfl | rfl | rfl | rfl | rfl | rfl <;> exact ⟨_,rfl⟩
    obtain ⟨l,hp⟩ := hpos; obtain ⟨v,m,q9,hv,ht⟩ := laid_cell (k := 3) (j := kn) (i := 1) Tryz.underlying153 Tryz.underlying152 (by kernel_rfl) (by kernel_rfl) hd (by omega) rfl (by kernel_rfl) (by decide) hp rfl; obtain ⟨z,hz,hx,_⟩ := DataW.trod_int Tryz.underlying3 ht; cases hz; have hz2 : z = Lf.prt kn := by have := congrArg Prod.fst hx; simpa using this.symm
    rw [hz2] at hv; exact hv
  have T2 : Lf.TBF 0 W := by
    intro kn h1 h5; have hb : ∀ i bb,i < 6 -> (match (shapeParts Rows.laid_cadence_lang_stmtFields)[kn]? with | some (.agg l) => l[i]? | _ => none) = some (.lit (.bool bb)) -> W.cell? ⟨0,kn * 6 + i,none⟩ = some (.bool bb) := by
      intro i bb hi hm; have hc := World.var?_cell gSf hvar2 (kn * 6 + i); rw [hc,Array.getElem?_toList.symm]; cases hq : (shapeParts Rows.laid_cadence_lang_stmtFields)[kn]? with
      | none => rw [hq] at hm; cases hm
      | some d =>
        rw [hq] at hm; cases d with
        | agg parts =>
          have hf : ∃ f : Field,(#[{ name := "name",type := 4,offset := 0,embedded := false,tag := "",pkgPath := "cadence/lang",byteOffset := 0 },{ name := "at",type := 4,offset := 1,embedded := false,tag := "",pkgPath := "cadence/lang",byteOffset := 1 },{ name := "e",type := 4,offset := 2,embedded := false,tag := "",pkgPath := "cadence/lang",byteOffset := 2 },{ name := "bounds",type := 4,offset := 3,embedded := false,tag := "",pkgPath := "cadence/lang",byteOffset := 3 },{ name := "then",type := 4,offset := 4,embedded := false,tag := "",pkgPath := "cadence/lang",byteOffset := 4 },{ name := "otherwise",type := 4,offset := 5,embedded := false,tag := "",pkgPath := "cadence/lang",byteOffset := 5 }] : Array Field)[i]? = some f /\ f.type = 4 /\ f.offset = i := by
            have : i = 0 ∨ i = 1 ∨ i = 2 ∨ i = 3 ∨ i = 4 ∨ i = 5 := by omega
            rcases this with rfl | rfl | rfl | rfl | rfl | rfl <;> exact ⟨_,rfl,rfl,rfl⟩
          obtain ⟨f,hf1,hf2,hf3⟩ := hf; obtain ⟨v,m,q9,hv,ht⟩ := laid_cell (k := 6) (j := kn) (i := i) (f := f) Tryz.underlying139 Tryz.underlying138 (by kernel_rfl) (by kernel_rfl) hd2 (by omega) hf1 (by rw [hf2]; kernel_rfl) (by omega) hq hm; rw [hf2] at ht; obtain ⟨z,hz,hx⟩ := DataW.trod_bool Tryz.underlying4 ht; cases hz; have hz2 : bb = z := by have := congrArg Prod.fst hx; simpa using this
          rw [hf3] at hv; rw [hz2]; exact hv
        | _ => cases hm
    have : kn = 1 ∨ kn = 2 ∨ kn = 3 ∨ kn = 4 ∨ kn = 5 := by omega
    rcases this with rfl | rfl | rfl | rfl | rfl <;> exact ⟨hb 0 _ (by omega) rfl,hb 1 _ (by omega) rfl,hb 2 _ (by omega) rfl,hb 3 _ (by omega) rfl,hb 4 _ (by omega) rfl,hb 5 _ (by omega) rfl⟩
  refine ⟨T1,T2,?_⟩; exact block_lt_of_cell (T1 1 (by omega) (by omega))
set_option maxRecDepth 100000 in
theorem op_program {H : Type} {enc : TypeId × Value -> H} {W : World} {base b2 : Nat} {v : Value} {d : DataW H} {q : List MemPlace} (hv : Value.okWide Tryz.prog W .any base 25 v)
    (h : DataW.Trod enc Tryz.prog W b2 (fun _ => true) true 25 v d q) (hb : Rows.uptoBulk d <= 1048576) :
    ∃ (p : Pg) (N n : Nat) (vD vB : Value),v = .agg #[.string p.s,.int .i64 p.wd,.int .i64 p.ln,vD,vB] /\ RDs W (fun j => j < W.heap.size) p.Ds vD /\ RB W (fun j => j < W.heap.size) (N + 1) (n + 1) p.Bs vB /\ RG p /\ wtP p <= 1048576 := by
  obtain ⟨cells,rfl,hsz⟩ := okWide_struct Tryz.underlying25 hv; obtain ⟨fuel,hf⟩ := h; have hf' : DataW.trod enc Tryz.prog W b2 (fun _ => true) true fuel 25 cells.toList = some (d,q) := hf; obtain ⟨xs,n1,rfl,hx,hl,hlen,hf2⟩ := DataW.trod_struct Tryz.underlying25 hf'; have hl5 : cells.toList.length = 5 := by rw [hl]; kernel_rfl
  obtain ⟨cl⟩ := cells
  match xs,hlen,cl,hl5 with
  | [y0,y1,y2,y3,y4],_,[c0,c1,c2,c3,c4],_ =>
    have h0 : DataW.trod enc Tryz.prog W b2 (fun _ => true) true n1 9 [c0] = some y0 := hf2 0 _ rfl; have h1 : DataW.trod enc Tryz.prog W b2 (fun _ => true) true n1 3 [c1] = some y1 := hf2 1 _ rfl; have h2 : DataW.trod enc Tryz.prog W b2 (fun _ => true) true n1 3 [c2] = some y2 := hf2 2 _ rfl; have h3 : DataW.trod enc Tryz.prog W b2 (fun _ => true) true n1 22 [c3] = some y3 := hf2 3 _ rfl; have h4 : DataW.trod enc Tryz.prog W b2 (fun _ => true) true n1 23 [c4] = some y4 := hf2 4 _ rfl; have hd : d = .agg ([y0,y1,y2,y3,y4].map (·.1)) := congrArg Prod.fst hx; have hB : 1 + Rows.uptoBulk y0.1 + Rows.uptoBulk y3.1 + Rows.uptoBulk y4.1 <= Rows.uptoBulk d := by rw [hd]; simp only [List.map_cons,List.map_nil,Rows.uptoBulk,Rows.uptoBulkAll]; omega
    obtain ⟨s,e0,ey,_⟩ := DataW.trod_string Tryz.underlying9 h0; obtain ⟨wd,e1,_,hw1⟩ := DataW.trod_int Tryz.underlying3 h1; obtain ⟨ln,e2,_,hw2⟩ := DataW.trod_int Tryz.underlying3 h2; have hy0 : Rows.uptoBulk y0.1 <= 1048576 := by omega
    have hnb : NB s := Op.nb_of (H := H) (by rw [ey] at hy0; exact hy0); obtain ⟨Ds,hDs,hDw,hDn⟩ := Op.op_decls h3 (by omega); obtain ⟨Bs,hBs,hBw,hBn⟩ := Op.op_stmts n1 (fun f2 _ cs x hx hbx => Op.op_stmt f2 cs x hx hbx) _ _ h4 (by omega); cases e0; cases e1; cases e2; refine ⟨⟨s,wd,ln,Ds,Bs⟩,n1,n1,c3,c4,rfl,hDs,hBs (n1 + 1) (n1 + 1) (by omega) (by omega),⟨?_,?_,hnb,fun i => ?_,fun d hd => ?_,Op.wf_i hw2,Op.wf_i hw1,fun d hd => (hDn d hd).2.1,fun d hd => (hDn d hd).2.2,fun d hd => (hBn d hd).2,fun d hd => ⟨fun x hx => ((hBn d hd).1.2.1 x hx).2,fun x hx => ((hBn d hd).1.2.2 x hx).2⟩⟩,?_⟩
    · show wtD Ds <= 1048576
      omega
    · show wtS Bs.flatten <= 1048576
      omega
    · show NB (Ds.getD i dd0).s
      by_cases hi : i < Ds.length
      · exact (hDn _ (getD_memD hi)).1
      rw [List.getD_eq_getElem?_getD,List.getElem?_eq_none (by omega)]; unfold NB
      decide
    · exact ⟨(hBn d hd).1.1,fun x hx => ((hBn d hd).1.2.1 x hx).1,fun x hx => ((hBn d hd).1.2.2 x hx).1⟩
    show wtD Ds + wtS Bs.flatten <= 1048576
    omega
theorem ownK : ownKnob Tryz.prog.godebug = none := by kernel_rfl
end Go.Proofs.YtfljcdccepnidaaGreatDoor
namespace Go.Proofs.YtfljcdccepnidaaGreatDoor.wfCalled
open Go.ChangeShapes Go.WideShapes Go.ChangeAt Go.RowKit

set_option maxRecDepth 100000 in
theorem door_met (os : Os) (args : Array Value) : laidMet Tryz.prog Rows.wfCalledUptoRow.laid ((World.doorLaid Tryz.prog 4000 os).forCall (fun _ _ => 0) ⟨#[],args,[]⟩).memory :=
  laidMet_of_run' 8 (by kernel_rfl) (by kernel_rfl)
set_option maxRecDepth 100000 in
theorem contract (H : Type) (enc : TypeId × Value -> H) (W : World) (base : Nat) (args : Array Value) (ds gs : List (DataW H)) (before : List MemPlace)
    (hval : ∀ (j : Nat) t v,Tryz.f3.params[j]? = some t -> args[j]? = some v -> Value.okWide Tryz.prog W .any base t v)
    (hW : DataW.Whole enc Tryz.prog Tryz.f3.params.toList Rows.wfCalledSpec.vars false W args.toList ds gs before) (hk : Rows.uptoSmall H (ds ++ gs) = true) (hL : laidMetH Tryz.prog Rows.wfCalledUptoRow.laid W) :
    Calls Tryz.prog 3 args W fun e W' => ∃ v,e = .returned v /\ Rows.wfCalledSpec.post enc Tryz.prog Tryz.f3 false true false false W args v W' := by
  have hW' := hW; obtain ⟨p,q,hA0,hV,rfl,hfz,hnd⟩ := hW; have hA : DataW.TrodAll enc Tryz.prog W 0 (fun _ => true) true Tryz.f3.params.toList args.toList ds p := hA0; rw [Tryz.params3] at hA hval; obtain ⟨v0,vs0,d0,ds0,p0,q0,hargs,rfl,rfl,h0,r0⟩ := trodAll_cons hA; obtain ⟨v1,vs1,d1,ds1,p1,q1,hargs1,rfl,rfl,h1,r1⟩ := trodAll_cons r0; obtain ⟨v2,vs2,d2,ds2,p2,q2,hargs2,rfl,rfl,h2,r2⟩ := trodAll_cons r1; obtain ⟨rfl,rfl,rfl⟩ := trodAll_nil r2; obtain rfl : args = #[v0,v1,v2] := by cases args; simp_all
  obtain ⟨rfl,rfl⟩ := trodVars_none hV; have hbk := Op.bulks.bound hk; have hb0 : Rows.uptoBulk d0 <= 1048576 := Nat.le_trans (Op.bulks.part (by simp)) hbk; have hb2 : Rows.uptoBulk d2 <= 1048576 := Nat.le_trans (Op.bulks.part (by simp)) hbk; have k2 := h2; have lt2 : ∀ x ∈ p2,x.block < W.heap.size := by obtain ⟨m,hm⟩ := k2; exact DataW.trod_lt m _ _ _ hm
  have k0 := h0; have k1 := h1; have lt1 : ∀ x ∈ p1,x.block < W.heap.size := by obtain ⟨m,hm⟩ := k1; exact DataW.trod_lt m _ _ _ hm
  have lt0 : ∀ x ∈ p0,x.block < W.heap.size := by obtain ⟨m,hm⟩ := k0; exact DataW.trod_lt m _ _ _ hm
  obtain ⟨p,N,n,vD,vB,rfl,hDs,hBs,hRG,hwt⟩ := op_program (hval 0 25 v0 rfl rfl) h0 hb0; obtain ⟨wh,rfl,hwh⟩ : ∃ wh : Int,v1 = .int .i64 wh /\ I64 wh := by
    obtain ⟨f,hf⟩ := h1; obtain ⟨x,hx⟩ := okWide_int Tryz.underlying3 (hval 1 3 v1 rfl rfl); have hx' : v1 = .int .i64 x := hx; subst hx'; have hf' : DataW.trod enc Tryz.prog W 0 (fun _ => true) true f 3 [.int .i64 x] = some (d1,p1) := hf; obtain ⟨x',e1,_,hw⟩ := DataW.trod_int Tryz.underlying3 hf'; cases e1; exact ⟨x,rfl,Op.wf_i hw⟩
  obtain ⟨b,rfl,hbn⟩ : ∃ b : ByteArray,v2 = .string b /\ b.size <= 1048576 := by
    obtain ⟨f,hf⟩ := h2; obtain ⟨x,hx⟩ := okWide_string Tryz.underlying9 (hval 2 9 v2 rfl rfl); have hx' : v2 = .string x := hx; subst hx'; have hf' : DataW.trod enc Tryz.prog W 0 (fun _ => true) true f 9 [.string x] = some (d2,p2) := hf; obtain ⟨s,e0,ey,_⟩ := DataW.trod_string Tryz.underlying9 hf'; cases e0; refine ⟨x,rfl,?_⟩; have hd2 : d2 = .lit (.string x.data.toList) := congrArg Prod.fst ey; rw [hd2] at hb2
    simp [Rows.uptoBulk] at hb2
    have e : x.data.size = x.size := rfl
    omega
  obtain ⟨hT,hF,hGB⟩ := of_laid hL; clear hA0; simp only [List.append_nil] at hW'; obtain ⟨fb,hfb⟩ : ∃ fb : Bool,(fb = true ↔ okPf p) := by
    by_cases h : okPf p
    · exact ⟨true,by simp [h]⟩
    exact ⟨false,by simp [h]⟩
  refine (law_called wh b hbn hwh fb hfb hRG hDs hBs (fun j hj => hj) (by omega) hGB hT hF).mono fun e W' ⟨he,bel⟩ => ?_
  subst he; exact ⟨_,rfl,_,_,_,[],_,[],hW',trodAll_mk1 (shut_bool Tryz.underlying4 _),(trodAll_cons_mk (Below.trod laidOut (by kernel_rfl) (of_decide_eq_true (by kernel_rfl)) k0 bel lt0) (trodAll_cons_mk (Below.trod laidOut (by kernel_rfl) (of_decide_eq_true (by kernel_rfl)) k1 bel lt1) (trodAll_cons_mk (Below.trod laidOut (by kernel_rfl) (of_decide_eq_true (by kernel_rfl)) k2 bel lt2) trodAll_mk0))),rfl,bel.frame _,fun h => by cases h⟩
theorem reads (os : Os) {H : Type} (enc : TypeId × Value -> H) : ∃ places,DataW.whole enc Tryz.prog ((World.doorLaid Tryz.prog 4000 os).forCall (fun _ _ => 0) ⟨#[],#[.agg #[.string ⟨#[]⟩,.int .i64 0,.int .i64 0,.slice none 0 0,.slice none 0 0],.int .i64 0,.string ⟨#[]⟩],[]⟩).memory Tryz.f3.params.toList Rows.wfCalledSpec.vars false #[Value.agg #[.string ⟨#[]⟩,.int .i64 0,.int .i64 0,.slice none 0 0,.slice none 0 0],.int .i64 0,.string ⟨#[]⟩].toList 8 = some ([.agg [.lit (.string []),.lit (.int .i64 0),.lit (.int .i64 0),.nil,.nil],.lit (.int .i64 0),.lit (.string [])],[],places) :=
  ⟨[],by kernel_rfl⟩
set_option maxRecDepth 100000 in
theorem liftedUpto (os : Os) (started : os.Started) (H : Type) (enc : TypeId × Value -> H) (F : Stop.Interp) :
    ReturnsInHanded {} Tryz.checked os 3 .any ((Rows.OpenSpec.upto Rows.wfCalledSpec).preRow enc Tryz.prog Tryz.f3 Rows.wfCalledUptoRow.domain false Rows.wfCalledUptoRow.laid) (((Rows.OpenSpec.upto Rows.wfCalledSpec).at F).post enc Tryz.prog Tryz.f3 false true false false) := by
  obtain ⟨places,hx⟩ := reads os enc; refine returnsInHanded_of_row (C := Tryz.checked) (s := Rows.OpenSpec.upto Rows.wfCalledSpec) ownK started (by kernel_rfl) Tryz.func3
    (witness_row_at (enc := enc) (C := Tryz.checked) false (World.doorLaid Tryz.prog 4000 os) #[.agg #[.string ⟨#[]⟩,.int .i64 0,.int .i64 0,.slice none 0 0,.slice none 0 0],.int .i64 0,.string ⟨#[]⟩] rfl (by kernel_rfl) (by kernel_rfl) (by kernel_rfl)
      (OpenSpec.preRow_of_cond 8 hx (by kernel_rfl) (fun k hk => by cases hk; kernel_rfl) (by kernel_rfl) (door_met os _))) ?_
  intro W base args ds gs before hval hW _ hcond hsz hL _ _; exact contract H enc W base args ds gs before hval hW (hcond _ rfl) hL
theorem saidUpto : Rows.WfCalledUptoSaid :=
  OpenClaim.holds_of_cond 3 Tryz.f3 rfl rfl rfl rfl rfl rfl rfl ⟨rfl,rfl,rfl,rfl,rfl⟩ rfl rfl rfl rfl rfl (by kernel_rfl) Tryz.func3 (by kernel_rfl)
    (of_decide_eq_true (by kernel_rfl)) (by unfold Func.isWrapper; first | (rw [if_pos (by decide +kernel)]; kernel_rfl) | (rw [if_neg (by decide +kernel)]; exact ⟨rfl,rfl⟩))
    (fun os started H enc _ F => by rw [OpenClaim.pre_eq_preRow]; exact liftedUpto os started H enc F)
theorem plain (f : FuncId) (fn : Func) (hf : Tryz.pinned.checked.prog.funcNamed "cadence/cadencelaw16.WfCalled" = some f) (hfn : Tryz.pinned.checked.prog.funcs[f]? = some fn) :
    true = Tryz.pinned.checked.prog.looks [] /\ ∀ (j : Nat) t,fn.params[j]? = some t -> Tryz.pinned.checked.prog.wantsStandIn t = false := by
  obtain rfl : f = 3 := Option.some.inj ((show Tryz.prog.funcNamed "cadence/cadencelaw16.WfCalled" = some 3 by kernel_rfl).symm.trans hf) |>.symm; obtain rfl : fn = Tryz.f3 := (Option.some.inj (Tryz.func3.symm.trans hfn)).symm; refine ⟨by kernel_rfl,fun j t ht => ?_⟩; rw [Tryz.params3] at ht; have : t = 25 ∨ t = 3 ∨ t = 9 := by simpa using Array.mem_of_getElem? ht
  rcases this with rfl | rfl | rfl
  · exact (show Tryz.prog.wantsStandIn 25 = false by kernel_rfl)
  · exact (show Tryz.prog.wantsStandIn 3 = false by kernel_rfl)
  exact (show Tryz.prog.wantsStandIn 9 = false by kernel_rfl)
end Go.Proofs.YtfljcdccepnidaaGreatDoor.wfCalled
namespace Go.Proofs.YtfljcdccepnidaaGreatDoor
theorem wfCalled_holds : Rows.WfCalledUptoCardSaid :=
  Claim7.holds_tied_plain_at .later [] _ _ _ _ wfCalled.saidUpto (fun _ h => by cases h) (by kernel_rfl) (fun _ h => by cases h) wfCalledUpto_row_tie rfl ⟨rfl,rfl⟩ (by kernel_rfl) rfl wfCalled.plain (by kernel_rfl)
#print axioms wfCalled_holds
end Go.Proofs.YtfljcdccepnidaaGreatDoor
