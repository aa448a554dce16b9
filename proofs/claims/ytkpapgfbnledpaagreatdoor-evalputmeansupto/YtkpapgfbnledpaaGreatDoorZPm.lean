import Derived.Test.YtkpapgfbnledpaaGreatDoorEwH
import Derived.Test.YtkpapgfbnledpaaGreatDoorRows
import Derived.Test.YtkpapgfbnledpaaGreatDoorCards
import Derived.Test.YtkpapgfbnledpaaGreatDoorTie
import Derived.LaidMore
import Derived.ShutString
import Derived.SizedLaws
import Derived.ChangeOld
import Derived.Carry
import Derived.OpenShut
import Derived.Stop.Joined
import Derived.Stop.LaidErr
import Derived.Lib.LaidTab
import Derived.SevenTiedAt
import Derived.Deep.Slices
import Derived.Deep.Strs
import Derived.Deep.DeepHandedRow
import Derived.Shelf.Vars
import Derived.Lay
import Derived.LaidHandle
import Derived.LaidSub
set_option maxHeartbeats 8000000
set_option maxRecDepth 100000
namespace Go.Proofs.YtkpapgfbnledpaaGreatDoor.GP
open Go.Proofs.YtkpapgfbnledpaaGreatDoor
open Go.Proofs.YtkpapgfbnledpaaGreatDoor.G3 (ldG_sto ldG_roots ldG_len lgo_len lgo_num sto_nil)
open Go.ChangeShapes Go.WideShapes Go.ChangeAt Go.RowKit Go.Lib Go.Tm Go.Bw Go.Bn Go.WideMaps Go.Maps Go.ChangeMaps Go.Shelf

theorem putm_ok (l : List UInt8) {aU aP : Option Addr} {cU cP : Nat} {nums : List Nat} {pk : List Int} (w : World) (hE : ENV w) (h9 : 10 <= w.heap.size) (hl : l.length <= 1048575) (hN : G2.NR w aU nums) (hnl : nums.length <= 1048576) (hnu : ∀ x ∈ nums,x <= 18446744073709551615) (hP : IR w aP pk) (hpl : pk.length <= 1048576) :
    Calls Tryz.prog 3 #[.string ⟨l.toArray⟩,.slice aU nums.length cU,.slice aP pk.length cP] w fun e w' => e = .returned (.bool true) /\ Below w.heap.size w w' := by
  obtain ⟨G,hG⟩ : ∃ G,ldG 0 (lgo [] l) [] [] = G := ⟨_,rfl⟩; have h1 := ldG_sto 0 (lgo [] l) [] [] sto_nil (fun x hx => by cases hx); have h2 := ldG_roots 0 1048575 (lgo [] l) [] [] (fun x hx => by have := lgo_len l [] x hx; simp at this; omega); have h3 := ldG_len 0 (lgo [] l) [] []; have h4 := lgo_num l []; rw [hG] at h1 h2 h3; obtain ⟨L,rs,kN,cI⟩ := G
  dsimp only at h1 h2 h3
  rw [List.length_nil,Nat.zero_add] at h3; refine pm_any _ (q := rs.length) (rs := rs) (cU := cU) w (by omega) rfl (by omega) hP hN (live_ok w hE h9) (fun W hb => ?_); refine (lload_rt l W (hE.oth (R := w.heap.size) (OTH.of hb) h9) (Nat.le_trans h9 hb.size) hl L rs kN cI hG).mono ?_; rintro e w' ⟨hb2,h | ⟨B,aR,cR,he,hld,hrt⟩⟩
  · exact ⟨hb2,Or.inl h⟩
  obtain ⟨vs,ix,nd,fa,fi,fv,vals,Q,hpm⟩ := pmf_of (pk := pk) (aU := aU) (cU := cU) (nums := nums) hb2 hld hrt h1.1 h1.2 (by omega) (by omega) rfl (by omega) hnu; exact ⟨hb2,Or.inr ⟨B,aR,cR,vs,ix,nd,fa,fi,fv,vals,W.heap.size,Q,hb.size,he,hpm⟩⟩
end Go.Proofs.YtkpapgfbnledpaaGreatDoor.GP
namespace Go.Proofs.YtkpapgfbnledpaaGreatDoor
open Go.ChangeShapes Go.WideShapes Go.ChangeAt Go.RowKit Go.Lib
open Go.ChangeMaps (open_string shut_string)
open Go.Proofs.YtkpapgfbnledpaaGreatDoor.G2 (NR)
namespace bulks
theorem one_le {H : Type} (d : DataW H) : 1 <= Rows.uptoBulk d := by
  cases d with
  | lit l => cases l <;> simp [Rows.uptoBulk]
  | nil => simp [Rows.uptoBulk]
  | ptr d => simp [Rows.uptoBulk]
  | slice elems spare => simp [Rows.uptoBulk]
  | agg parts => simp [Rows.uptoBulk]
  | iface t d => simp [Rows.uptoBulk]
  | map entries => simp [Rows.uptoBulk]
  | held h => simp [Rows.uptoBulk]
theorem part {H : Type} {d : DataW H} {l : List (DataW H)} (h : d ∈ l) : Rows.uptoBulk d <= Rows.uptoBulkAll l := by
  induction l with
  | nil => cases h
  | cons x r ih =>
    simp only [Rows.uptoBulkAll]; cases List.mem_cons.1 h with
    | inl e => subst e; omega
    | inr e => have := ih e; omega
theorem len {H : Type} (l : List (DataW H)) : l.length <= Rows.uptoBulkAll l := by
  induction l with
  | nil => simp [Rows.uptoBulkAll]
  | cons x r ih => have := one_le x; simp only [Rows.uptoBulkAll,List.length_cons]; omega
theorem slice {H : Type} (elems spare : List (DataW H)) : elems.length + spare.length + 1 <= Rows.uptoBulk (.slice elems spare) := by
  have h1 := len elems; have h2 := len spare; simp only [Rows.uptoBulk]
  omega
theorem field {H : Type} {parts : List (DataW H)} {d : DataW H} (h : d ∈ parts) : Rows.uptoBulk d <= Rows.uptoBulk (.agg parts) := by
  have := part h; simp only [Rows.uptoBulk]
  omega
end bulks
theorem bounds_u64' {a : Int} (h : (Lit.int .u64 a).wf = true) : 0 <= a /\ a < 18446744073709551616 := by
  have e : IntKind.u64.min = 0 := rfl; have e2 : IntKind.u64.max = 18446744073709551615 := rfl
  simp [Lit.wf] at h
  omega
theorem cellsW : Tryz.prog.cellsOf 36 = 1 := by kernel_rfl
theorem open_words {H : Type} {enc : TypeId × Value -> H} {W : World} {base b2 : Nat} {v : Value} {d : DataW H} {p : List MemPlace} (hv : Value.okWide Tryz.prog W .any base 22 v)
    (h : DataW.Trod enc Tryz.prog W b2 (fun _ => true) true 22 v d p) (hb : Rows.uptoBulk d <= 1048576) :
    ∃ (ad : Option Addr) (cap : Nat) (ws : List Nat),v = .slice ad ws.length cap /\ NR W ad ws /\ (∀ x ∈ ws,x < 18446744073709551616) /\ ws.length <= 1048576 := by
  obtain ⟨a',len,cap',rfl⟩ := okWide_slice Tryz.underlying22 hv; obtain ⟨fuel,hf⟩ := h; have hf' : DataW.trod enc Tryz.prog W b2 (fun _ => true) true fuel 22 [.slice a' len cap'] = some (d,p) := hf
  rcases open_ints Tryz.underlying22 Tryz.underlying36 cellsW hf' with ⟨hcs,hd⟩ | ⟨ad,l,c,zs,hcs,hbb,hl,hm,hz,hx,hcell,hwz⟩
  · cases hcs
    exact ⟨none,0,[],rfl,fun h => absurd h (by simp),fun s hs => absurd hs (by simp),by simp⟩
  cases hcs; simp only [if_true] at hz; have hbb2 : len <= 1048576 := by
    have hb' : Rows.uptoBulk (H := H) (.slice (lits .u64 (zs.take len)) (lits .u64 (zs.drop len))) <= 1048576 := by
      have hd : d = .slice (lits .u64 (zs.take len)) (lits .u64 (zs.drop len)) := congrArg Prod.fst hx; rw [hd] at hb; exact hb
    have h5 := bulks.slice (H := H) (lits .u64 (zs.take len)) (lits .u64 (zs.drop len)); have h6 : (lits (H := H) .u64 (zs.take len)).length = len := by simp [lits]; omega
    rw [h6] at h5
    omega
  have hnn : ∀ i,i < len -> zs.getD i 0 = (((zs.getD i 0).toNat : Nat) : Int) /\ (zs.getD i 0).toNat < 18446744073709551616 := fun i hi => by
    have hm2 : zs.getD i 0 ∈ zs := by rw [List.getD_eq_getElem?_getD,List.getElem?_eq_getElem (by omega)]; exact List.getElem_mem _
    have := bounds_u64' (hwz _ hm2)
    omega
  have hlen : ((List.range len).map fun i => (zs.getD i 0).toNat).length = len := by simp
  have hget : ∀ j,j < len -> ((List.range len).map fun i => (zs.getD i 0).toNat).getD j 0 = (zs.getD j 0).toNat := fun j hj => by
    rw [List.getD_eq_getElem?_getD,List.getElem?_map,List.getElem?_range hj]
    rfl
  refine ⟨some ad,cap',(List.range len).map fun i => (zs.getD i 0).toNat,by rw [hlen],fun hp => ?_,fun s hs => ?_,by rw [hlen]; exact hbb2⟩
  · rw [hlen] at hp
    have h0 := hcell 0 (by omega); have e := addr_lit h0; have hlt : ad.block < W.heap.size := by
      have := block_lt_of_cell h0; rw [e] at this; exact this
    refine ⟨ad.block,ad.off,by rw [<- e],hlt,fun j hj => ?_⟩; rw [hlen] at hj; have hj2 := hcell j (by omega); rw [e,Addr.add_lit] at hj2; rw [hj2,hget j hj,<- (hnn j hj).1]
  obtain ⟨i,hi,rfl⟩ := List.mem_map.1 hs; exact (hnn i (List.mem_range.1 hi)).2
theorem cellsI : Tryz.prog.cellsOf 3 = 1 := by kernel_rfl
theorem open_rowI {H : Type} {enc : TypeId × Value -> H} {W : World} {base b2 : Nat} {v : Value} {d : DataW H} {p : List MemPlace} (hv : Value.okWide Tryz.prog W .any base 23 v)
    (h : DataW.Trod enc Tryz.prog W b2 (fun _ => true) true 23 v d p) (hb : Rows.uptoBulk d <= 1048576) :
    ∃ (ad : Option Addr) (cap : Nat) (ws : List Int),v = .slice ad ws.length cap /\ IR W ad ws /\ ws.length <= 1048576 := by
  obtain ⟨a',len,cap',rfl⟩ := okWide_slice Tryz.underlying23 hv; obtain ⟨fuel,hf⟩ := h; have hf' : DataW.trod enc Tryz.prog W b2 (fun _ => true) true fuel 23 [.slice a' len cap'] = some (d,p) := hf
  rcases open_ints Tryz.underlying23 Tryz.underlying3 cellsI hf' with ⟨hcs,hd⟩ | ⟨ad,l,c,zs,hcs,hbb,hl,hm,hz,hx,hcell,hwz⟩
  · cases hcs
    exact ⟨none,0,[],rfl,fun h => absurd h (by simp),by simp⟩
  cases hcs; simp only [if_true] at hz; have hbb2 : len <= 1048576 := by
    have hb' : Rows.uptoBulk (H := H) (.slice (lits .i64 (zs.take len)) (lits .i64 (zs.drop len))) <= 1048576 := by
      have hd : d = .slice (lits .i64 (zs.take len)) (lits .i64 (zs.drop len)) := congrArg Prod.fst hx; rw [hd] at hb; exact hb
    have h5 := bulks.slice (H := H) (lits .i64 (zs.take len)) (lits .i64 (zs.drop len)); have h6 : (lits (H := H) .i64 (zs.take len)).length = len := by simp [lits]; omega
    rw [h6] at h5
    omega
  have hlen : (zs.take len).length = len := by simp; omega
  refine ⟨some ad,cap',zs.take len,by rw [hlen],fun hp => ?_,by rw [hlen]; exact hbb2⟩; rw [hlen] at hp; have h0 := hcell 0 (by omega); have e := addr_lit h0; have hlt : ad.block < W.heap.size := by
    have := block_lt_of_cell h0; rw [e] at this; exact this
  refine ⟨ad.block,ad.off,by rw [<- e],hlt,fun j hj => ?_⟩; rw [hlen] at hj; have hj2 := hcell j (by omega); rw [e,Addr.add_lit] at hj2; rw [hj2]; have hg : (zs.take len).getD j 0 = zs.getD j 0 := by
    rw [List.getD_eq_getElem?_getD,List.getD_eq_getElem?_getD,List.getElem?_take,if_pos hj]
  rw [hg]
theorem gSyn : Tryz.prog.globalNamed "strconv.ErrSyntax" = some 8 := by kernel_rfl
theorem gRan : Tryz.prog.globalNamed "strconv.ErrRange" = some 9 := by kernel_rfl
theorem tSyn : (Tryz.prog.globals[8]?).map (·.type) = some 84 := by kernel_rfl
theorem tRan : (Tryz.prog.globals[9]?).map (·.type) = some 84 := by kernel_rfl
theorem cellsES : Tryz.prog.cellsOf 279 = 1 := by kernel_rfl
theorem cells9 : Tryz.prog.cellsOf 9 = 1 := by kernel_rfl
theorem star : "*" ++ "errors.errorString" = "*errors.errorString" := by decide
theorem rowES (u : TypeId) (h : Tryz.prog.typeName? 3 u = some "*errors.errorString") : u = 277 :=
  typeName_ptr_named (nm := "errors.errorString") (by rw [star]; kernel_rfl) (by kernel_rfl) (by decide) u (by rw [star]; exact h)
theorem gWds : Tryz.prog.globalNamed "cadence/term.opWords" = some 0 := by kernel_rfl
theorem tWds : (Tryz.prog.globals[0]?).map (·.type) = some 167 := by kernel_rfl
theorem cellsSt : Tryz.prog.cellsOf 9 = 1 := by kernel_rfl
theorem cellsWds : Tryz.prog.cellsOf 167 = 34 := by kernel_rfl
theorem cells_of_strs {H : Type} {enc : TypeId × Value -> H} {P : Program} {w : World} {base : Nat} {sp : Nat -> Bool} {held : Bool} {fuel : Nat} {t e : TypeId} {n : Nat} {cs : List Value} {zs : List (List UInt8)} {p : List MemPlace}
    (ht : P.underlying t = some (.array n e)) (he : P.underlying e = some .string) (hce : P.cellsOf e = 1) (hct : P.cellsOf t = n)
    (h : DataW.trod enc P w base sp held fuel t cs = some (.agg (zs.map fun z => .lit (.string z)),p)) : cs = zs.map fun z => Value.string ⟨z.toArray⟩ := by
  cases fuel with
  | zero => simp [DataW.trod] at h
  | succ fuel =>
    simp only [DataW.trod,ht,hce,hct,Nat.mul_one] at h
    split at h
    · rename_i hl
      obtain ⟨xs,hm,hx⟩ := Option.map_eq_some_iff.1 h; have hxs : xs.map (·.1) = zs.map fun z => (DataW.lit (.string z) : DataW H) := by
        have := congrArg Prod.fst hx
        simpa using this
      have hxl : xs.length = n := by simpa using Lib.mapM_length hm
      have hzl : zs.length = n := by
        have := congrArg List.length hxs
        simp at this
        omega
      apply List.ext_getElem?
      intro i
      by_cases hi : i < n
      · obtain ⟨b,hb,hf⟩ := Lib.mapM_at hm i i (by simp [hi])
        obtain ⟨z,hc,rfl,_⟩ := DataW.trod_string he hf; have h1 : cs[i]? = some (.string z) := by
          have := congrArg (·[0]?) hc
          simpa [List.getElem?_take,List.getElem?_drop] using this
        have h2 : (xs.map (·.1))[i]? = some (DataW.lit (.string z.data.toList) : DataW H) := by simp [hb]
        rw [hxs] at h2; simp only [List.getElem?_map,Option.map_eq_some_iff,DataW.lit.injEq,Lit.string.injEq] at h2; obtain ⟨z',hz',e2⟩ := h2; rw [h1,List.getElem?_map,hz',e2]
        rfl
      rw [List.getElem?_eq_none (by omega),List.getElem?_eq_none (by simp; omega)]
    cases h
theorem strs_of_head {P : Program} {W : World} {name : String} {zs : List (List UInt8)} {rest : List (String × DataW Unit)} {g : Nat} {t e : TypeId} {n : Nat}
    (hg : P.globalNamed name = some g) (hty : (P.globals[g]?).map (·.type) = some t) (ht : P.underlying t = some (.array n e)) (he : P.underlying e = some .string) (hce : P.cellsOf e = 1) (hct : P.cellsOf t = n)
    (h : laidMet P ((name,.agg (zs.map fun z => .lit (.string z))) :: rest) W) (i : Nat) (hi : i < zs.length) : W.cell? ⟨g,i,none⟩ = some (.string ⟨(zs.getD i []).toArray⟩) := by
  obtain ⟨ps,⟨g',t',cs,fuel,p,q,hg',ht',hvar,hd,_,_⟩,_⟩ := h; obtain rfl := Option.some.inj (hg.symm.trans hg'); obtain rfl := Option.some.inj (hty.symm.trans ht'); have e := cells_of_strs ht he hce hct hd; have hv2 : W.var? P name = some (zs.map fun z => Value.string ⟨z.toArray⟩).toArray := by rw [hvar,<- e]
  have := World.var?_cell hg hv2 i
  simpa [List.getD,hi] using this
def wdsZ : List (List UInt8) := [[],[116,114,117,101],[102,97,108,115,101],[99,111,110,115,116],[118,97,114],[110,111,116],[97,110,100],[111,114],[120,111,114],[101,113],[117,108,116],[117,108,101],[115,108,116],[115,108,101],[105,116,101],[99,111,109],[110,101,103],[98,97,110,100],[98,111,114],[98,120,111,114],[97,100,100],[115,117,98],[109,117,108],[100,105,118],[114,101,109],[115,104,108],[115,104,114],[115,97,114],[114,111,108],[114,111,114],[99,97,116],[115,108,105,99,101],[122,101,120,116],[115,101,120,116]]
def laid8 : List (String × DataW Unit) := [("math/bits.deBruijn32tab",Rows.laid_math_bits_deBruijn32tab),("math/bits.deBruijn64tab",Rows.laid_math_bits_deBruijn64tab),("internal/strconv.uint64pow10",Rows.laid_internal_strconv_uint64pow10),("unicode/utf8.acceptRanges",Rows.laid_unicode_utf8_acceptRanges),("strconv.ErrRange",Rows.laid_strconv_ErrRange),("strconv.ErrSyntax",Rows.laid_strconv_ErrSyntax),("cadence/term.opWords",Rows.laid_cadence_term_opWords),("unicode/utf8.first",Rows.laid_unicode_utf8_first)]
theorem of_laid {W : World} (h : laidMetH Tryz.prog Rows.evalPutMeansUptoRow.laid W) (hsh : W.ShapedOpen Tryz.prog) : ENV W /\ 10 <= W.heap.size := by
  have e : (Rows.evalPutMeansUptoRow.laid.filter fun x => x.2.handleName?.isNone) = laid8 := by kernel_rfl
  have h0 : laidMet Tryz.prog laid8 W := by rw [<- e]; exact (laidMetH_iff.1 h).1
  have h4 := h0.tail.tail.tail.tail; have h5 := h4.tail; have h6 := h5.tail; obtain ⟨a1,s1,hv1,-,-,-⟩ := laid_sentinel h4 gRan tRan Tryz.underlying84 rowES Tryz.underlying277 Tryz.underlying279 rfl rfl Tryz.underlying9 cellsES cells9; obtain ⟨a0,s0,hv0,-,-,-⟩ := laid_sentinel h5 gSyn tSyn Tryz.underlying84 rowES Tryz.underlying277 Tryz.underlying279 rfl rfl Tryz.underlying9 cellsES cells9; have hcR := World.var?_cell gRan hv1 0; refine ⟨⟨⟨_,by have h0 := World.var?_cell gSyn hv0 0; simpa using h0,Or.inr ⟨_,_,rfl⟩⟩,⟨_,by have h0 := World.var?_cell gRan hv1 0; simpa using h0,Or.inr ⟨_,_,rfl⟩⟩,?_,fun op ho => ?_⟩,?_⟩
  · exact cell_of_shapedOpen_int (t := 3) (zero := #[.int .i64 0]) hsh (by decide +kernel) (by kernel_rfl) rfl (by kernel_rfl) (by kernel_rfl) Tryz.underlying3
  · exact strs_of_head (zs := wdsZ) gWds tWds Tryz.underlying167 Tryz.underlying9 cellsSt cellsWds h6 op ho
  obtain ⟨y,hc2⟩ : ∃ y,W.cell? ⟨9,0,none⟩ = some y := ⟨_,by simpa using hcR⟩; have b0 := cell_blt hc2; exact b0
theorem bulk_pm {H : Type} {l : List UInt8} {d e : DataW H} (hk : Rows.uptoSmall H [.lit (.string l),d,e] = true) : l.length <= 1048575 /\ Rows.uptoBulk d <= 1048576 /\ Rows.uptoBulk e <= 1048576 := by
  have h : Rows.uptoBulkAll (H := H) [.lit (.string l),d,e] <= 1048576 := of_decide_eq_true hk; simp only [Rows.uptoBulkAll,Rows.uptoBulk] at h
  omega
end Go.Proofs.YtkpapgfbnledpaaGreatDoor
namespace Go.Proofs.YtkpapgfbnledpaaGreatDoor.evalPutMeans
open Go.ChangeShapes Go.WideShapes Go.ChangeAt Go.RowKit
open Go.ChangeMaps (open_string shut_string)

theorem laidMet_over {P : Program} {w0 : World} {laid : List (String × DataW Unit)} (args : Array Value) (hf : w0.layFits P laid [] = true) (hi : w0.layIfaces P laid (w0.layVars P laid) = true) :
    laidMet P laid ((w0.layVars P laid).forCall (fun _ _ => 0) ⟨#[],args,[]⟩).memory := by
  have e1 : (laid.filter fun x => (laid.map (·.1)).contains x.1) = laid := List.filter_eq_self.2 fun x hx => List.contains_iff_mem.2 (List.mem_map.2 ⟨x,hx,rfl⟩)
  have e2 : (laid.filter fun x => !(laid.map (·.1)).contains x.1) = [] := List.filter_eq_nil_iff.2 fun x hx => by rw [List.contains_iff_mem.2 (List.mem_map.2 ⟨x,hx,rfl⟩)]; simp
  have h : laidMet P laid (w0.layVars P laid) := laidMet_layVars (w0 := w0) (laid.map (·.1)) [] (by rw [e1]) (by rw [e1]; exact hf) (by rw [e1]; exact hi) (by rw [e2]; exact LaidIn.none); exact h.of_heap (by simp [World.memory,World.forCall,Input.heap])
theorem door_met {w0 : World} (args : Array Value) (hf : w0.layFits Tryz.prog laid8 [] = true) (hi : w0.layIfaces Tryz.prog laid8 (w0.layVars Tryz.prog laid8) = true)
    (hh : (Rows.evalPutMeansUptoRow.laid.filter fun x => x.2.handleName?.isSome).all (handleAtB Tryz.prog ((w0.layVars Tryz.prog laid8).forCall (fun _ _ => 0) ⟨#[],args,[]⟩).memory) = true) : laidMetH Tryz.prog Rows.evalPutMeansUptoRow.laid ((w0.layVars Tryz.prog laid8).forCall (fun _ _ => 0) ⟨#[],args,[]⟩).memory := by
  refine laidMetH_of_parts ?_ hh; have e : (Rows.evalPutMeansUptoRow.laid.filter fun x => x.2.handleName?.isNone) = laid8 := by kernel_rfl
  rw [e]; exact laidMet_over args hf hi
theorem contract (H : Type) (enc : TypeId × Value -> H) (W : World) (base : Nat) (args : Array Value) (ds gs : List (DataW H)) (before : List MemPlace)
    (hval : ∀ (j : Nat) t v,Tryz.f3.params[j]? = some t -> args[j]? = some v -> Value.okWide Tryz.prog W .any base t v)
    (hW : DataW.Whole enc Tryz.prog Tryz.f3.params.toList Rows.evalPutMeansSpec.vars false W args.toList ds gs before) (hk : Rows.uptoSmall H (ds ++ gs) = true) (hL : laidMetH Tryz.prog Rows.evalPutMeansUptoRow.laid W) (hsh : W.ShapedOpen Tryz.prog) :
    Calls Tryz.prog 3 args W fun e W' => ∃ v,e = .returned v /\ Rows.evalPutMeansSpec.post enc Tryz.prog Tryz.f3 false true false false W args v W' := by
  have hW' := hW; obtain ⟨p,q,hA0,hV,rfl,hfz,hnd⟩ := hW; have hA : DataW.TrodAll enc Tryz.prog W 0 (fun _ => true) true Tryz.f3.params.toList args.toList ds p := hA0; rw [Tryz.params3] at hA hval; obtain ⟨v0,vs0,d0,ds0,p0,q0,hargs,rfl,rfl,h0,r0⟩ := trodAll_cons hA; obtain ⟨v1,vs1,d1,ds1,p1,q1,hargs1,rfl,rfl,h1,r1⟩ := trodAll_cons r0; obtain ⟨v2,vs2,d2,ds2,p2,q2,hargs2,rfl,rfl,h2,r2⟩ := trodAll_cons r1; obtain ⟨rfl,rfl,rfl⟩ := trodAll_nil r2; obtain rfl : args = #[v0,v1,v2] := by cases args; simp_all
  obtain ⟨rfl,rfl⟩ := trodVars_none hV; obtain ⟨a0,rfl,rfl,rfl,w0⟩ := open_string Tryz.underlying9 (hval 0 9 v0 rfl rfl) h0; obtain ⟨hb0,hb1,hb2⟩ := bulk_pm hk; have k1 := h1; have lt1 : ∀ x ∈ p1,x.block < W.heap.size := by obtain ⟨m,hm⟩ := k1; exact DataW.trod_lt m _ _ _ hm
  obtain ⟨ad1,cap1,ws1,rfl,wd1,b641,ln1⟩ := open_words (hval 1 22 v1 rfl rfl) h1 hb1; have k2 := h2; have lt2 : ∀ x ∈ p2,x.block < W.heap.size := by obtain ⟨m,hm⟩ := k2; exact DataW.trod_lt m _ _ _ hm
  obtain ⟨ad2,cap2,ws2,rfl,wd2,ln2⟩ := open_rowI (hval 2 23 v2 rfl rfl) h2 hb2; have hst : a0 = ⟨a0.data.toList.toArray⟩ := by simp
  clear hA0; simp only [List.append_nil] at hW'; obtain ⟨hen,h9⟩ := of_laid hL hsh; have hwalk := GP.putm_ok (cU := cap1) (cP := cap2) a0.data.toList W hen h9 hb0 wd1 (by omega) (fun x hx => by have := b641 x hx; omega) wd2 (by omega); rw [<- hst] at hwalk; refine hwalk.mono fun e W' ⟨he,bel⟩ => ?_
  subst he; exact ⟨_,rfl,_,_,_,[],_,[],hW',trodAll_mk1 (shut_bool Tryz.underlying4 _),(trodAll_cons_mk (shut_string Tryz.underlying9 w0) (trodAll_cons_mk (Below.trod laidOut (by kernel_rfl) (of_decide_eq_true (by kernel_rfl)) k1 bel lt1) (trodAll_cons_mk (Below.trod laidOut (by kernel_rfl) (of_decide_eq_true (by kernel_rfl)) k2 bel lt2) trodAll_mk0))),rfl,bel.frame _,fun h => by cases h⟩
theorem liftedUpto (os : Os) (started : os.Started) (H : Type) (enc : TypeId × Value -> H) (F : Stop.Interp) :
    ReturnsInHanded {} Tryz.checked os 3 .any ((Rows.OpenSpec.upto Rows.evalPutMeansSpec).preRow enc Tryz.prog Tryz.f3 Rows.evalPutMeansUptoRow.domain false Rows.evalPutMeansUptoRow.laid) (((Rows.OpenSpec.upto Rows.evalPutMeansSpec).at F).post enc Tryz.prog Tryz.f3 false true false false) := by
  refine returnsInHanded_of_row (C := Tryz.checked) (s := Rows.OpenSpec.upto Rows.evalPutMeansSpec) own started (by kernel_rfl) Tryz.func3
    (witness_row_at (enc := enc) (C := Tryz.checked) false (World.layVars Tryz.prog ({ World.holding Tryz.prog os ⟨#[],#[],[]⟩ with heap := (World.holding Tryz.prog os ⟨#[],#[],[]⟩).heap.modify 1 fun
      | .cells _ t frozen => .cells #[.iface 209 (.agg #[.pointer (some ⟨10,84,none⟩)])] t frozen
      | o => o } : World) laid8) #[.string ByteArray.empty,.slice none 0 0,.slice none 0 0] (by rw [World.layVars_os]; rfl) (by kernel_rfl) (by kernel_rfl) (by kernel_rfl)
      (OpenSpec.preRow_of_cond (x := ([.lit (.string []),.nil,.nil],[],[])) 8 (by kernel_rfl) (by kernel_rfl) (fun k hk => by cases hk; kernel_rfl) (by kernel_rfl) (door_met _ (by kernel_rfl) (by kernel_rfl) (by kernel_rfl)))) ?_
  intro W base args ds gs before hval hW _ hcond _ hL hsh _; exact contract H enc W base args ds gs before hval hW (hcond _ rfl) hL hsh
theorem saidUpto : Rows.EvalPutMeansUptoSaid :=
  OpenClaim.holds_of_cond 3 Tryz.f3 rfl rfl rfl rfl rfl rfl rfl ⟨rfl,rfl,rfl,rfl,rfl⟩ rfl rfl rfl rfl rfl (by kernel_rfl) Tryz.func3 (by kernel_rfl)
    (of_decide_eq_true (by kernel_rfl)) (by unfold Func.isWrapper; first | (rw [if_pos (by decide +kernel)]; kernel_rfl) | (rw [if_neg (by decide +kernel)]; exact ⟨rfl,rfl⟩))
    (fun os started H enc _ F => by rw [OpenClaim.pre_eq_preRow]; exact liftedUpto os started H enc F)
theorem plain (f : FuncId) (fn : Func) (hf : Tryz.pinned.checked.prog.funcNamed "cadence/cadencelaw08.EvalPutMeans" = some f) (hfn : Tryz.pinned.checked.prog.funcs[f]? = some fn) :
    true = Tryz.pinned.checked.prog.looks [] /\ ∀ (j : Nat) t,fn.params[j]? = some t -> Tryz.pinned.checked.prog.wantsStandIn t = false := by
  obtain rfl : f = 3 := Option.some.inj ((show Tryz.prog.funcNamed "cadence/cadencelaw08.EvalPutMeans" = some 3 by kernel_rfl).symm.trans hf) |>.symm; obtain rfl : fn = Tryz.f3 := (Option.some.inj (Tryz.func3.symm.trans hfn)).symm; refine ⟨by kernel_rfl,fun j t ht => ?_⟩; rw [Tryz.params3] at ht; have : t = 9 ∨ t = 22 ∨ t = 23 := by simpa using Array.mem_of_getElem? ht
  rcases this with rfl | rfl | rfl
  · exact (show Tryz.prog.wantsStandIn 9 = false by kernel_rfl)
  · exact (show Tryz.prog.wantsStandIn 22 = false by kernel_rfl)
  exact (show Tryz.prog.wantsStandIn 23 = false by kernel_rfl)
end Go.Proofs.YtkpapgfbnledpaaGreatDoor.evalPutMeans
namespace Go.Proofs.YtkpapgfbnledpaaGreatDoor
theorem evalPutMeans_holds : Rows.EvalPutMeansUptoCardSaid :=
  Claim7.holds_tied_plain_at .later [] _ _ _ _ evalPutMeans.saidUpto (fun _ h => by cases h) (by kernel_rfl) (fun _ h => by cases h) evalPutMeansUpto_row_tie rfl ⟨rfl,rfl⟩ (by kernel_rfl) rfl evalPutMeans.plain (by kernel_rfl)
end Go.Proofs.YtkpapgfbnledpaaGreatDoor
