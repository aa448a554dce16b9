import Derived.Test.YtkpapgfbnledpaaGreatDoorTlI
import Derived.Deep.AppendLies
set_option maxHeartbeats 8000000
set_option maxRecDepth 100000
namespace Go.Proofs.YtkpapgfbnledpaaGreatDoor
open Go.ChangeShapes Go.WideShapes Go.ChangeAt Go.RowKit Go.Lib Go.Tm Go.Bw Go.Bn Go.Bd

theorem row_is {w w' : World} {base e size n : Nat} {v : Value} {L : List Value} (h : w.ownsRow base e size v n L) (hb : ∀ j,v.ownBlock = some j -> w'.heap[j]? = w.heap[j]?) : w'.ownsRow base e size v n L := by
  refine ⟨h.1,?_⟩
  rcases h.2 with h3 | ⟨b,cap,cur,e,h4,h5,h6⟩
  · exact Or.inl h3
  exact Or.inr ⟨b,cap,cur,e,h4,(hb b (by rw [e]; rfl)).trans h5,h6⟩
theorem row_ty {w : World} {base e size n g : Nat} {v : Value} {L : List Value} (h : w.ownsRow base e size v n L) (hg : v.ownBlock = some g) : ∃ cs,w.heap[g]? = some (.cells cs e (0,0)) := by
  rcases h.2 with ⟨h3,_⟩ | ⟨b,cap,cur,e5,h4,h5,h6⟩
  · rw [h3] at hg
    cases hg
  rw [e5] at hg; cases hg; exact ⟨_,h5⟩
theorem row_ne {w : World} {base e size n g : Nat} {v : Value} {L : List Value} {cs : Array Value} {t : TypeId} {m : Nat × Nat} (h : w.ownsRow base e size v n L) (hg : w.heap[g]? = some (.cells cs t m)) (ht : e ≠ t) : v.ownBlock ≠ some g := fun e2 => by
  obtain ⟨cs2,h2⟩ := row_ty h e2; rw [hg] at h2; cases h2; exact ht rfl
theorem row_base {w : World} {base base' e size n : Nat} {v : Value} {L : List Value} (h : w.ownsRow base' e size v n L) (hb : base <= base') : w.ownsRow base e size v n L := by
  refine ⟨h.1,?_⟩
  rcases h.2 with h3 | ⟨b,cap,cur,e,h4,h5,h6⟩
  · exact Or.inl h3
  exact Or.inr ⟨b,cap,cur,e,Nat.le_trans hb h4,h5,h6⟩
theorem row_formJ {w : World} {base e size n : Nat} {v : Value} {L : List Value} (h : w.ownsRow base e size v n L) : ∃ a c,v = .slice a n c := by
  rcases h.2 with ⟨h3,h0⟩ | ⟨b,cap,cur,e5,h4,h5,h6⟩
  · exact ⟨none,0,by rw [h3,h0]⟩
  exact ⟨_,_,e5⟩
theorem ints_at {w : World} {base n : Nat} {a : Option Addr} {c : Nat} {ts : List Int} (h : w.ownsRow base 3 1 (.slice a n c) n (ts.map (Value.int .i64))) (hn : ts.length = n) (h0 : 0 < n) : ∃ g,a = some ⟨g,0,none⟩ /\ ∀ j,j < n -> w.cell? ⟨g,j,none⟩ = some (.int .i64 (ts.getD j 0)) := by
  rcases h.2 with ⟨_,e⟩ | ⟨g,cap,cur,e,_⟩
  · omega
  cases e; refine ⟨g,rfl,fun j hj => ?_⟩; rw [h.cellAt j (by omega),List.getElem?_map,List.getD_eq_getElem?_getD,List.getElem?_eq_getElem (by omega)]
  rfl
theorem SM.not {ty : TypeId} {w : World} {B0 B : Nat} {lim : Int} {L : List Nd} {v : Value} {M1 M2 : Option Nat} (h : SM ty w B0 B lim L v M1 M2) {R : Nat} {cs : Array Value} {t : TypeId} {fr : Nat × Nat} (hR : w.heap[R]? = some (.cells cs t fr)) (h1 : t ≠ ty) (h2 : t ≠ 40) : ¬ Own B v M1 M2 R := fun ho => by
  rcases ho with e | e | e | e
  · subst e
    have hb := h.blk; rw [hR] at hb; cases hb; exact h1 rfl
  · obtain ⟨cur,hc⟩ := row_blk h.row e
    rw [hR] at hc; cases hc; exact h2 rfl
  · obtain ⟨D,hm,_⟩ := h.m1
    obtain ⟨es,clock,hc⟩ := hm.block e; rw [hR] at hc; cases hc
  obtain ⟨D,hm,_⟩ := h.m2; obtain ⟨es,clock,hc⟩ := hm.block e; rw [hR] at hc; cases hc
theorem SM.stands {ty : TypeId} {w w' : World} {B0 B : Nat} {lim : Int} {L : List Nd} {v : Value} {M1 M2 : Option Nat} (h : SM ty w B0 B lim L v M1 M2) (hb : ∀ k,Own B v M1 M2 k -> w'.heap[k]? = w.heap[k]?) : SM ty w' B0 B lim L v M1 M2 := by
  refine ⟨(hb B (Or.inl rfl)).trans h.blk,row_is h.row (fun j hj => hb j (Or.inr (Or.inl hj))),?_,?_,h.b0,h.b1,h.ne,h.nil,h.nil2,h.okL,h.wds,h.limI,h.len⟩
  · obtain ⟨D,hm,hF⟩ := h.m1
    exact ⟨D,hm.keep (fun m es clock e h1 => (hb m (Or.inr (Or.inr (Or.inl e)))).trans h1),hF⟩
  obtain ⟨D,hm,hF⟩ := h.m2; exact ⟨D,hm.keep (fun m es clock e h1 => (hb m (Or.inr (Or.inr (Or.inr e)))).trans h1),hF⟩
theorem ENV.bel {H0 : Nat} {w0 W : World} (h : ENV w0) (hb : Below H0 w0 W) (h9 : 10 <= H0) : ENV W := by
  obtain ⟨⟨e1,h1,h2⟩,⟨e2,h3,h4⟩,⟨m,h5⟩,h6⟩ := h; have hc : ∀ g i v,g < 10 -> w0.cell? ⟨g,i,none⟩ = some v -> W.cell? ⟨g,i,none⟩ = some v := fun g i v hg hh => (World.cell?_of_block (a := ⟨g,i,none⟩) (hb.block g (by omega))).trans hh
  exact ⟨⟨e1,hc _ _ _ (by decide) h1,h2⟩,⟨e2,hc _ _ _ (by decide) h3,h4⟩,⟨m,hc _ _ _ (by decide) h5⟩,fun op hop => hc _ _ _ (by decide) (h6 op hop)⟩
structure AST (H0 : Nat) (w0 W : World) (R T B : Nat) (lim : Int) (L : List Nd) (ts : List Int) (tv : Value) (k : Int) (s rest : List UInt8) : Prop where
  bel : Below H0 w0 W
  le : H0 <= w0.heap.size
  h9 : 10 <= H0
  env : ENV w0
  sm : ∃ v M1 M2,SM 78 W H0 B lim L v M1 M2
  rb : RBx W R (.pointer (some ⟨B,0,none⟩)) tv k s
  row : W.ownsRow H0 3 1 tv ts.length (ts.map (Value.int .i64))
  tb : W.heap[T]? = some (.cells #[.string ⟨rest.toArray⟩] 9 (0,0))
  hR : H0 <= R
  hT : H0 <= T
  sl : s.length <= 1048576
  rl : rest.length <= 1048576
  tl : ts.length <= 1048576
section
variable {H0 : Nat} {w0 W W' : World} {R T B : Nat} {lim : Int} {L : List Nd} {ts : List Int} {tv : Value} {k : Int} {s s' rest : List UInt8}
theorem AST.ev (h : AST H0 w0 W R T B lim L ts tv k s rest) : ENV W := h.env.bel h.bel h.h9
theorem AST.rt (h : AST H0 w0 W R T B lim L ts tv k s rest) : R ≠ T := fun e => by
  have h1 := h.rb; have h2 := h.tb; unfold RBx at h1; rw [e,h2] at h1; cases h1
theorem AST.rw (h : AST H0 w0 W R T B lim L ts tv k s rest) : RW W R ts tv := by
  obtain ⟨a,c,e⟩ := row_formJ h.row; have hrow := h.row; rw [e] at hrow; refine ⟨a,c,e,fun h0 => ?_⟩; obtain ⟨g,e2,hc⟩ := ints_at hrow rfl h0; refine ⟨g,e2,fun e3 => ?_,hc⟩; have := row_ne (g := R) hrow h.rb (by decide)
  apply this
  rw [e2,e3]
  rfl
theorem AST.oth (h : AST H0 w0 W R T B lim L ts tv k s rest) (ho : OTH R W W') (hb : RBx W' R (.pointer (some ⟨B,0,none⟩)) tv k s') (hl : s'.length <= 1048576) : AST H0 w0 W' R T B lim L ts tv k s' rest := by
  obtain ⟨v,M1,M2,hS⟩ := h.sm; have hbb := h.bel; have hle := h.le; have hsz := hbb.size; refine ⟨⟨ho.os.trans hbb.os,ho.tape.trans hbb.tape,ho.output.trans hbb.output,Nat.le_trans hsz ho.size,fun j hj => (ho.block j (by omega) (by have := h.hR; omega)).trans (hbb.block j hj)⟩,hle,h.h9,h.env,⟨v,M1,M2,hS.stands (fun q hq => ho.block q (hS.lt hq) (fun e => by subst e; exact hS.not h.rb (by decide) (by decide) hq))⟩,hb,?_,(ho.block T (Array.getElem?_eq_some_iff.1 h.tb).1 (fun e => h.rt e.symm)).trans h.tb,h.hR,h.hT,hl,h.rl,h.tl⟩; exact row_is h.row (fun j hj => ho.block j (h.row.lt j hj).2 (fun e => row_ne h.row h.rb (by decide) (by rw [hj,e])))
theorem AST.make {v : Value} {M1 M2 : Option Nat} {L' : List Nd} (h : AST H0 w0 W R T B lim L ts tv k s rest) (hS : SM 78 W H0 B lim L v M1 M2) (hA : AddP 78 W H0 B lim L' v M1 M2 W') : AST H0 w0 W' R T B lim L' ts tv k s rest := by
  obtain ⟨v',N1,N2,hS',hk,_,_⟩ := hA; have hbb := h.bel; have hsz := hbb.size; have hle := h.le; refine ⟨hk.below hbb (by omega) (fun q hq => hS.ge hq),hle,h.h9,h.env,⟨v',N1,N2,hS'⟩,?_,?_,?_,h.hR,h.hT,h.sl,h.rl,h.tl⟩
  · exact (hk.block R h.rb.lt (hS.not h.rb (by decide) (by decide))).trans h.rb
  · refine row_is h.row (fun j hj => hk.block j (h.row.lt j hj).2 ?_)
    obtain ⟨cs,hc⟩ := row_ty h.row hj; exact hS.not hc (by decide) (by decide)
  exact (hk.block T (Array.getElem?_eq_some_iff.1 h.tb).1 (hS.not h.tb (by decide) (by decide))).trans h.tb
end
theorem cell_one_new (w : World) (v : Value) (t : TypeId) : ∀ j u,([v] : List Value)[j]? = some u -> (w.alloc (.cells #[v] t)).cell? ((⟨w.heap.size,0,none⟩ : Addr).add j) = some u := fun j u hu => by
  cases j with
  | zero =>
    simp at hu
    subst hu; rw [Addr.add_lit,Nat.zero_add,cell_of (heap_alloc_new _ _)]
    rfl
  | succ j => simp at hu
theorem rtO_cons (ts : List Int) (u : List UInt8) (us : List (List UInt8)) : rtO ts (u :: us) = (match ptO ts u with
    | none => none
    | some t => (rtO ts us).map (t :: ·)) := rfl
structure RST (w W : World) (R : Nat) (p tv : Value) (k : Int) (ts : List Int) (s : List UInt8) (acc : List Int) (v : Value) (Fo : Option (List Int)) : Prop where
  oth : OTH R w W
  box : RBx W R p tv k s
  sl : s.length <= 1048576
  row : W.ownsRow w.heap.size 3 1 v acc.length (acc.map (Value.int .i64))
  eq : Fo = (rtO ts (wds s)).map (acc ++ ·)
  lt : R < w.heap.size
  al : acc.length + (wds s).length <= 1048577
theorem RST.push {w w3 w5 : World} {R : Nat} {p tv : Value} {k t : Int} {ts : List Int} {s : List UInt8} {acc : List Int} {v : Value} {Fo : Option (List Int)} {g na cap : Nat} (hna : acc.length = na) (ho : OTH R w w3) (hb : RBx w3 R p tv k s) (hl : s.length <= 1048576) (he : Fo = (rtO ts (wds s)).map ((acc ++ [t]) ++ ·)) (hlt : R < w.heap.size) (hal : acc.length + 1 + (wds s).length <= 1048577)
    (hr : w3.ownsRow w.heap.size 3 1 v na (acc.map (Value.int .i64))) (hown : w5.ownsRow w.heap.size 3 1 (.slice (some ⟨g,0,none⟩) (na + 1) cap) (na + 1) (acc.map (Value.int .i64) ++ [.int .i64 t])) (hgr : (w3.alloc (.cells #[.int .i64 t] 3)).grownBy w5 v.ownBlock) : RST w w5 R p tv k ts s (acc ++ [t]) (.slice (some ⟨g,0,none⟩) (na + 1) cap) Fo := by
  have hz := ho.size; have hb1 := bel1 w3 (.cells #[.int .i64 t] 3); have key : ∀ j,j < w3.heap.size -> v.ownBlock ≠ some j -> w5.heap[j]? = w3.heap[j]? := fun j hj hn => (hgr.block j (by simp; omega) (fun e => hn e.symm)).trans (hb1.block j hj)
  refine ⟨⟨hgr.os.trans ho.os,hgr.tape.trans ho.tape,hgr.output.trans ho.output,Nat.le_trans hz (Nat.le_trans hb1.size hgr.size),fun j hj hn => (key j (by omega) (fun e => by have := (hr.lt j e).1; omega)).trans (ho.block j hj hn)⟩,(key R (by omega) (fun e => by have := (hr.lt R e).1; omega)).trans hb,hl,?_,he,hlt,by rw [List.length_append]; exact hal⟩; rw [List.length_append,List.map_append,hna]; exact hown
theorem wgo_num : ∀ (l cur : List UInt8),(wgo cur l).length <= l.length + 1
  | [],cur => by unfold wgo; split <;> simp
  | c :: r,cur => by
    unfold wgo
    split
    · split
      · have := wgo_num r []; simp; omega
      have := wgo_num r []; simp; omega
    have := wgo_num r (cur ++ [c]); simp; omega
theorem roots_any {w : World} {R : Nat} {p tv : Value} {k : Int} {s : List UInt8} {ts : List Int} (h : RBx w R p tv k s) (hT : RW w R ts tv) (htl : ts.length <= 1048576) (hE : ENV w) (hR : 10 <= R) (hs : s.length <= 1048576) :
    Calls Tryz.prog 85 #[.pointer (some ⟨R,0,none⟩)] w fun e w' => OTH R w w' /\ ((rtO ts (wds s) = none /\ e = gv k 3) ∨ ∃ rs v s',rtO ts (wds s) = some rs /\ e = .returned v /\ w'.ownsRow w.heap.size 3 1 v rs.length (rs.map (Value.int .i64)) /\ RBx w' R p tv k s' /\ s'.length <= 1048576) := by
  generalize hPP : (fun (e : Ending) (w' : World) => OTH R w w' /\ ((rtO ts (wds s) = none /\ e = gv k 3) ∨ ∃ rs v s',rtO ts (wds s) = some rs /\ e = .returned v /\ w'.ownsRow w.heap.size 3 1 v rs.length (rs.map (Value.int .i64)) /\ RBx w' R p tv k s' /\ s'.length <= 1048576)) = PP
  have HNo : Hid (∀ w',OTH R w w' -> rtO ts (wds s) = none -> PP (gv k 3) w') := fun w' h1 h2 => by rw [<- hPP]; exact ⟨h1,Or.inl ⟨h2,rfl⟩⟩
  have HYe : Hid (∀ w' rs v s',OTH R w w' -> rtO ts (wds s) = some rs -> w'.ownsRow w.heap.size 3 1 v rs.length (rs.map (Value.int .i64)) -> RBx w' R p tv k s' -> s'.length <= 1048576 -> PP (.returned v) w') := fun w' rs v s' h1 h2 h3 h4 h5 => by rw [<- hPP]; exact ⟨h1,Or.inr ⟨rs,v,s',h2,rfl,h3,h4,h5⟩⟩
  clear hPP; obtain ⟨Fo,hFo⟩ : ∃ Fo,rtO ts (wds s) = Fo := ⟨_,rfl⟩; have H0 : Hid (RST w w R p tv k ts s [] (.slice none 0 0) Fo) := ⟨OTH.refl _ _,h,hs,World.ownsRow_nil _ _ _ _,by rw [hFo]; cases Fo <;> rfl,h.lt,by have := wgo_num s []; simp; unfold wds; omega⟩; rw [hFo] at HNo HYe; have HE : Hid (∀ W,OTH R w W -> ENV W /\ RW W R ts tv) := fun W ho => ⟨hE.oth ho hR,hT.oth ho⟩
  have HR : Hid (10 <= R /\ ts.length <= 1048576) := ⟨hR,htl⟩; obtain ⟨i0,hi,hz0,hz1,hz2⟩ := info_parts (P := Tryz.prog) (e := 3) (z := .int .i64 0) (size := 1) (bytes := 8) (by kernel_rfl); clear h hT htl hE hR hs hFo
  go_enter Tryz.func85,Tryz.ntmps85
  go_wp2_with fail
  go_loopg [3] 1048580 (fun gk v3 wr => ∃ s' acc,gk + acc.length = 1048580 /\ Aside (RST w wr R p tv k ts s' acc v3 Fo))
  case atStart => exact ⟨s,[],rfl,H0.out⟩
  case round =>
    obtain ⟨s1,acc,hg,HA⟩ := hrel; have HS : Hid (RST w wr R p tv k ts s1 acc u3 Fo) := HA.out; clear HA H0; obtain ⟨na,hna⟩ : ∃ na,acc.length = na := ⟨_,rfl⟩; have HNa : Hid (acc.length = na) := hna; rw [hna] at hg; clear hna; have HM : Hid (Calls Tryz.prog 111 #[.pointer (some ⟨R,0,none⟩)] wr fun e w' => e = .returned (.bool (decide (Lib.trimLeftB s1 32 ≠ []))) /\ OTH R wr w' /\ RBx w' R p tv k (Lib.trimLeftB s1 32)) := more_any HS.out.box
    by_cases hm : Lib.trimLeftB s1 32 = []
    · have hd : decide (Lib.trimLeftB s1 32 ≠ []) = false := by simp [hm]
      rw [hd] at HM; have HO : Hid (Fo = some acc) := by show _ = _; rw [HS.out.eq,wds_nil hm]; simp [rtO]
      clear hm hd
      go_wp2_with fail
      refine HM.out.mono ?_; rintro e w2 ⟨rfl,ho,hb⟩; have HZ : Hid (PP (.returned u3) w2) := HYe.out w2 acc u3 _ (HS.out.oth.trans ho) HO.out (by
        refine row_is HS.out.row (fun j hj => ho.block j (HS.out.row.lt j hj).2 (fun e => ?_)); have := (HS.out.row.lt j hj).1; have := HS.out.lt
        omega) hb (Nat.le_trans (trim_le s1) HS.out.sl)
      clear ho hb HM
      go_wp2_with fail
      first | exact HZ.out | (go_ret; exact HZ.out)
    have hd : decide (Lib.trimLeftB s1 32 ≠ []) = true := by simp [hm]
    rw [hd] at HM; have HNe : Hid (wds s1 ≠ []) := wds_ne hm; clear hm hd
    go_wp2_with fail
    refine HM.out.mono ?_; rintro e w2 ⟨rfl,ho,hb⟩; have HS2 : Hid (RST w w2 R p tv k ts (Lib.trimLeftB s1 32) acc u3 Fo) := ⟨HS.out.oth.trans ho,hb,Nat.le_trans (trim_le s1) HS.out.sl,by
      refine row_is HS.out.row (fun j hj => ho.block j (HS.out.row.lt j hj).2 (fun e => ?_)); have := (HS.out.row.lt j hj).1; have := HS.out.lt
      omega,by rw [wds_trim]; exact HS.out.eq,HS.out.lt,by rw [wds_trim]; exact HS.out.al⟩
    have HNe2 : Hid (wds (Lib.trimLeftB s1 32) ≠ []) := by show _ ≠ _; rw [wds_trim]; exact HNe.out
    clear ho hb HM HS HNe
    generalize Lib.trimLeftB s1 32 = s2 at *
    go_wp2_with fail
    refine (part_any HS2.out.box (HE.out _ HS2.out.oth).2 HR.out.2 (HE.out _ HS2.out.oth).1 HR.out.1 HS2.out.sl).mono ?_; rintro e w3 ⟨ho,⟨h1,rfl⟩ | ⟨t,s3,h1,rfl,hb,hl,u,hu,hsm⟩⟩
    · have HZ : Hid (PP (gv k 3) w3) := HNo.out w3 (HS2.out.oth.trans ho) (by
        rw [HS2.out.eq]; cases hw : wds s2 with
        | nil => exact absurd hw HNe2.out
        | cons u us =>
          rw [hw,partO_cons] at h1; have : ptO ts u = none := by
            cases e : ptO ts u with
            | none => rfl
            | some t => rw [e] at h1; cases h1
          rw [rtO_cons,this]
          rfl)
      clear h1 ho; unfold gv at HZ ⊢
      go_wp2_with fail
      exact ⟨by first | trivial | rfl,HZ.out⟩
    have hrow : w3.ownsRow w.heap.size 3 1 u3 acc.length (acc.map (Value.int .i64)) := by
      refine row_is HS2.out.row (fun j hj => ho.block j (HS2.out.row.lt j hj).2 (fun e => ?_)); have := (HS2.out.row.lt j hj).1; have := HS2.out.lt
      omega
    have hwz : w.heap.size <= w3.heap.size := Nat.le_trans HS2.out.oth.size ho.size; rw [HNa.out] at hrow; have HRow : Hid (w3.ownsRow w.heap.size 3 1 u3 na (acc.map (Value.int .i64))) := hrow; have HW3 : Hid (OTH R w w3 /\ RBx w3 R p tv k s3 /\ s3.length <= 1048576 /\ Fo = (rtO ts (wds s3)).map ((acc ++ [t]) ++ ·) /\ R < w.heap.size /\ acc.length + 1 + (wds s3).length <= 1048577) := ⟨HS2.out.oth.trans ho,hb,hl,by
      rw [HS2.out.eq,hu,rtO_cons,hsm]; cases rtO ts (wds s3) <;> simp,HS2.out.lt,by have := HS2.out.al; rw [hu] at this; simp at this; omega⟩
    have hal : na <= 1048577 := by have := HW3.out.2.2.2.2.2; rw [HNa.out] at this; omega
    clear h1 ho hb hl hu hsm hrow HS2 HNe2
    go_wp2_with (at_builtin; refine wpList_append_lies _ rfl _ _ 23 rfl w.heap.size 3 i0 (.int .i64 0) 1 8 Tryz.underlying23 hi hz0 hz1 hz2 rfl (by decide) _ _ _ rfl (HRow.out.alloc _) ⟨w3.heap.size,0,none⟩ 1 1 [.int .i64 t] rfl rfl (cell_one_new _ _ _) (by intro u hu; simp at hu; subst hu; rfl) (by omega) (by unfold maxLen; omega) (by omega) (by simp; omega) (w3.heap.size + 1) (by simp) ?_; intro g5 cap5 w5 hown5 hgrow5 hat5 hlt5; have HN5 : Aside (RST w w5 R p tv k ts s3 (acc ++ [t]) (.slice (some ⟨g5,0,none⟩) (na + 1) cap5) Fo) := RST.push HNa.out HW3.out.1 HW3.out.2.1 HW3.out.2.2.1 HW3.out.2.2.2.1 HW3.out.2.2.2.2.1 HW3.out.2.2.2.2.2 HRow.out hown5 hgrow5; clear hown5 hgrow5 hat5 hlt5)
    go_roundg (gk - 1)
    case measure => omega
    case rel => exact ⟨s3,acc ++ [t],by rw [List.length_append,HNa.out]; simp; omega,HN5⟩
end Go.Proofs.YtkpapgfbnledpaaGreatDoor
namespace Go.Proofs.YtkpapgfbnledpaaGreatDoor
open Go.ChangeShapes Go.WideShapes Go.ChangeAt Go.RowKit Go.Lib Go.Tm Go.Bw Go.Bn Go.Bd

section
variable {H0 : Nat} {w0 W W' : World} {R T B : Nat} {lim : Int} {L : List Nd} {ts : List Int} {tv : Value} {k : Int} {s s' rest : List UInt8}
theorem AST.over (h : AST H0 w0 W R T B lim L ts tv k s rest) (hb : Below W.heap.size W W') : AST H0 w0 W' R T B lim L ts tv k s rest := h.oth (OTH.of hb) (h.rb.over hb) h.sl
theorem AST.push {w5 : World} {t : Int} {g n cap : Nat} (h : AST H0 w0 W R T B lim L ts tv k s rest) (hn : ts.length = n) (hl : n + 1 <= 1048576) (hown : w5.ownsRow H0 3 1 (.slice (some ⟨g,0,none⟩) (n + 1) cap) (n + 1) (ts.map (Value.int .i64) ++ [.int .i64 t])) (hgr : (W.alloc (.cells #[.int .i64 t] 3)).grownBy w5 tv.ownBlock) :
    w5.heap[R]? = W.heap[R]? /\ AST H0 w0 (w5.setCell ⟨R,1,none⟩ (.slice (some ⟨g,0,none⟩) (n + 1) cap)) R T B lim L (ts ++ [t]) (.slice (some ⟨g,0,none⟩) (n + 1) cap) k s rest := by
  obtain ⟨v,M1,M2,hS⟩ := h.sm; have hle := h.le; have hz := h.bel.size; have hb1 := bel1 W (.cells #[.int .i64 t] 3); have key : ∀ j,j < W.heap.size -> tv.ownBlock ≠ some j -> w5.heap[j]? = W.heap[j]? := fun j hj hne => (hgr.block j (by simp; omega) (fun e => hne e.symm)).trans (hb1.block j hj)
  have hRn : tv.ownBlock ≠ some R := row_ne h.row h.rb (by decide); have hR5 := key R h.rb.lt hRn; have hTl := (Array.getElem?_eq_some_iff.1 h.tb).1; have hTn : tv.ownBlock ≠ some T := row_ne h.row h.tb (by decide); have hrb5 : w5.heap[R]? = some (.cells #[.pointer (some ⟨B,0,none⟩),tv,.int .i64 k,.string ⟨s.toArray⟩] 121 (0,0)) := hR5.trans h.rb; have oth : ∀ j,j ≠ R -> (w5.setCell ⟨R,1,none⟩ (.slice (some ⟨g,0,none⟩) (n + 1) cap)).heap[j]? = w5.heap[j]? := fun j hj => heap_setCell_other _ _ _ _ hj
  refine ⟨hR5,⟨hgr.os.trans h.bel.os,hgr.tape.trans h.bel.tape,hgr.output.trans h.bel.output,?_,fun j hj => ?_⟩,hle,h.h9,h.env,⟨v,M1,M2,hS.stands (fun q hq => ?_)⟩,?_,?_,?_,h.hR,h.hT,h.sl,h.rl,by rw [List.length_append,hn]; exact hl⟩
  · rw [World.size_setCell]
    exact Nat.le_trans hz (Nat.le_trans hb1.size hgr.size)
  · rw [oth j (by have := h.hR; omega),key j (by omega) (fun e => by have := (h.row.lt j e).1; omega),h.bel.block j hj]
  · have hq1 : q ≠ R := fun e => by subst e; exact hS.not h.rb (by decide) (by decide) hq
    rw [oth q hq1,key q (hS.lt hq) (fun e => by
      obtain ⟨cs,hc⟩ := row_ty h.row e; exact hS.not hc (by decide) (by decide) hq)]
  · unfold RBx
    rw [heap_setCell_same _ _ 1 _ _ _ hrb5]
    simp
  · rw [List.length_append,hn,List.map_append]
    refine row_is hown (fun j hj => oth j (fun e => ?_)); exact row_ne hown hrb5 (by decide) (by rw [hj,e])
  exact (oth T (fun e => h.rt e.symm)).trans ((key T hTl hTn).trans h.tb)
end
/-! ### the node of a line -/
theorem lnO_cons (ts : List Int) (L : List Nd) (u o : List UInt8) (us : List (List UInt8)) : lnO ts L (u :: o :: us) = (if smN u = some (ts.length + 1) then (if opO o = 0 then none else (fgo ts (flB (opO o)) us (nd1 (opO o)) 0).map (fin L)) else none) := rfl
theorem lnO_one {ts : List Int} {L : List Nd} {u : List UInt8} {us : List (List UInt8)} (h : smN u ≠ some (ts.length + 1)) : lnO ts L (u :: us) = none := by
  cases us with
  | nil => rfl
  | cons o r => rw [lnO_cons,if_neg h]
theorem lnO_oper {ts : List Int} {L : List Nd} {u : List UInt8} {us : List (List UInt8)} (h : operO us = none) : lnO ts L (u :: us) = none := by
  cases us with
  | nil => rfl
  | cons o r =>
    rw [operO_cons] at h; have h0 : opO o = 0 := by
      by_cases e : opO o = 0
      · exact e
      rw [if_neg e] at h; cases h
    rw [lnO_cons,if_pos h0]
    split <;> rfl
theorem lnO_go {ts : List Int} {L : List Nd} {u o : List UInt8} {r : List (List UInt8)} (h1 : smN u = some (ts.length + 1)) (h2 : opO o ≠ 0) : lnO ts L (u :: o :: r) = (match fgS ts (flB (opO o)) r (nd1 (opO o)) 0 with
    | some (m,[]) => some (fin L m)
    | _ => none) := by
  rw [lnO_cons,if_pos h1,if_neg h2,fgo_fgS]; cases fgS ts (flB (opO o)) r (nd1 (opO o)) 0 with
  | none => rfl
  | some x =>
    obtain ⟨m,l⟩ := x; cases l <;> rfl
theorem fst1_ok {ts : List Int} {f : UInt8} {u : List UInt8} {n m : Nd} {k : Nat} (hts : ∀ t ∈ ts,I64 t) (hu : u.length <= 1048576) (hn : n.ok) (h : fst1 ts f u n k = some m) : m.ok := by
  have hsm : ∀ v,smN u = some v -> v < 2147483648 := fun v hv => by
    unfold smN at hv; cases e : numO u with
    | none => rw [e] at hv; cases hv
    | some x =>
      rw [e] at hv
      by_cases hx : x < 2147483648
      · simp only [if_pos hx] at hv; cases hv; exact hx
      simp only [if_neg hx] at hv; cases hv
  unfold fst1 at h
  split at h
  · cases e : ptO ts u with
    | none => rw [e] at h; cases h
    | some t =>
      rw [e] at h; cases h; have ht : I64 t := by
        unfold ptO at e
        split at e
        · split at e
          · rename_i v _ hv
            cases e; have hm : ts.getD (v - 1) 0 ∈ ts := by
              rw [List.getD_eq_getElem?_getD,List.getElem?_eq_getElem (by omega)]; exact List.getElem_mem _
            exact hts _ hm
          cases e
        cases e
      unfold setP
      split
      · exact ⟨hn.op,hn.w,ht,hn.b,hn.c,hn.num,hn.name⟩
      split
      · exact ⟨hn.op,hn.w,hn.a,ht,hn.c,hn.num,hn.name⟩
      exact ⟨hn.op,hn.w,hn.a,hn.b,ht,hn.num,hn.name⟩
  split at h
  · split at h
    · cases e : numO u with
      | none => rw [e] at h; cases h
      | some v =>
        rw [e] at h; cases h; have := numO_lt e; exact ⟨hn.op,hn.w,hn.a,hn.b,hn.c,by unfold U64; simp only; omega,hn.name⟩
    cases e : smN u with
    | none => rw [e] at h; cases h
    | some v =>
      rw [e] at h; cases h; have := hsm v e; exact ⟨hn.op,hn.w,hn.a,hn.b,hn.c,by unfold U64; simp only; omega,hn.name⟩
  split at h
  · cases e : smN u with
    | none => rw [e] at h; cases h
    | some v =>
      rw [e] at h; cases h; have := hsm v e; exact ⟨hn.op,by unfold I64; simp only; omega,hn.a,hn.b,hn.c,hn.num,hn.name⟩
  cases h; exact ⟨hn.op,hn.w,hn.a,hn.b,hn.c,hn.num,by simp only; rw [size_ba]; omega⟩
theorem fgS_ok {ts : List Int} (hts : ∀ t ∈ ts,I64 t) : ∀ {fs : List UInt8} {us : List (List UInt8)} {n m : Nd} {k : Nat} {r : List (List UInt8)},(∀ u ∈ us,u.length <= 1048576) -> n.ok -> fgS ts fs us n k = some (m,r) -> m.ok
  | [],_,_,_,_,_,_,hn,h => by cases h; exact hn
  | _ :: _,[],_,_,_,_,_,_,h => by cases h
  | f :: fs,u :: us,n,m,k,r,hu,hn,h => by
    rw [fgS_cons] at h; cases e : fst1 ts f u n k with
    | none => rw [e] at h; cases h
    | some m1 =>
      rw [e] at h; exact fgS_ok hts (fun x hx => hu x (List.mem_cons_of_mem _ hx)) (fst1_ok hts (hu u (List.mem_cons_self ..)) hn e) h
theorem fin_ok {L : List Nd} {n : Nd} (hL : Wds L) (hn : n.ok) : (fin L n).ok := by
  unfold fin
  split
  · exact hn
  refine ⟨hn.op,?_,hn.a,hn.b,hn.c,hn.num,hn.name⟩; have h1 := wd_lo hL n.a; have h2 := wd_lo hL n.b; unfold mw I64
  simp only
  repeat' split
  all_goals omega
theorem nd1_ok {op : Nat} (h : op <= 33) : (nd1 op).ok := ⟨by unfold nd1 I64; simp only; omega,by unfold nd1 I64; simp only; omega,by unfold nd1 I64; simp only; omega,by unfold nd1 I64; simp only; omega,by unfold nd1 I64; simp only; omega,by unfold nd1 U64; simp only; omega,by unfold nd1; simp⟩
end Go.Proofs.YtkpapgfbnledpaaGreatDoor
