import Derived.Test.YtfljcdccepnidaaGreatDoorWvU
import Derived.Test.YtfljcdccepnidaaGreatDoorRows
import Derived.WalkKit
import Derived.ProofKit
import Derived.OpenShut
import Derived.SizedLaws
import Derived.Carry
import Derived.Deep.Slices
import Derived.Deep.Strs
namespace Go.Proofs.YtfljcdccepnidaaGreatDoor.Op
open Go.ChangeShapes Go.WideShapes Go.ChangeAt Go.RowKit

theorem cE4 : Tryz.prog.cellsOf 43 = 4 := by kernel_rfl
theorem cS14 : Tryz.prog.cellsOf 46 = 14 := by kernel_rfl
theorem cD4 : Tryz.prog.cellsOf 34 = 4 := by kernel_rfl
theorem cU1 : Tryz.prog.cellsOf 40 = 1 := by kernel_rfl
theorem addr_lit {w : World} {x : Addr} {v : Value} (h : w.cell? (x.add 0) = some v) : x = ⟨x.block,x.off,none⟩ := by
  obtain ⟨b,o,s⟩ := x; cases s with
  | none => rfl
  | some k =>
    simp only [World.cell?,Addr.add,if_true] at h
    split at h
    · simp at h
    cases h
namespace bulks
theorem one_le {H : Type} (d : DataW H) : 1 <= Rows.uptoBulk d := by
  cases d with
  | lit l => cases l <;> simp [Rows.uptoBulk]
  | nil => simp [Rows.uptoBulk]
  | ptr d => simp [Rows.uptoBulk]
  | slice elems spare => simp [Rows.uptoBulk]
  | agg parts => simp [Rows.uptoBulk]
  | iface t d => simp [Rows.uptoBulk]
  | map entries => simp [Rows.uptoBulk]
  | held h => simp [Rows.uptoBulk]
theorem part {H : Type} {d : DataW H} {l : List (DataW H)} (h : d ∈ l) : Rows.uptoBulk d <= Rows.uptoBulkAll l := by
  induction l with
  | nil => cases h
  | cons x r ih =>
    simp only [Rows.uptoBulkAll]; cases List.mem_cons.1 h with
    | inl e => subst e; omega
    | inr e => have := ih e; omega
theorem len {H : Type} (l : List (DataW H)) : l.length <= Rows.uptoBulkAll l := by
  induction l with
  | nil => simp [Rows.uptoBulkAll]
  | cons x r ih => have := one_le x; simp only [Rows.uptoBulkAll,List.length_cons]; omega
theorem slice {H : Type} (elems spare : List (DataW H)) : elems.length + spare.length + 1 <= Rows.uptoBulk (.slice elems spare) := by
  have h1 := len elems; have h2 := len spare; simp only [Rows.uptoBulk]
  omega
theorem field {H : Type} {parts : List (DataW H)} {d : DataW H} (h : d ∈ parts) : Rows.uptoBulk d <= Rows.uptoBulk (.agg parts) := by
  have := part h; simp only [Rows.uptoBulk]
  omega
theorem bound {H : Type} {l : List (DataW H)} (hk : Rows.uptoSmall H l = true) : Rows.uptoBulkAll l <= 1048576 := of_decide_eq_true hk
theorem sum_le {H : Type} (c : Nat) (l : List (DataW H)) : ∀ (g : Nat -> Nat),(∀ j d,l[j]? = some d -> g j <= c * Rows.uptoBulk d) -> ((List.range l.length).map g).sum <= c * Rows.uptoBulkAll l := by
  induction l with
  | nil => intro g _; simp
  | cons x r ih =>
    intro g h; have h0 := h 0 x rfl; have h1 := ih (fun j => g (j + 1)) (fun j d hd => h (j + 1) d (by simpa using hd)); rw [List.length_cons,List.range_succ_eq_map,List.map_cons,List.sum_cons,List.map_map]; have e : (g ∘ Nat.succ) = fun j => g (j + 1) := rfl
    rw [e]; simp only [Rows.uptoBulkAll,Nat.mul_add]
    omega
end bulks
theorem open_list {H : Type} {enc : TypeId × Value -> H} {W : World} {b2 : Nat} {t e : TypeId} {k : Nat} (ht : Tryz.prog.underlying t = some (.slice e)) (hc : Tryz.prog.cellsOf e = k) (hk : 0 < k) {f : Nat} {sl : Value} {y : DataW H × List MemPlace} (h : DataW.trod enc Tryz.prog W b2 (fun _ => true) true f t [sl] = some y) (hb : Rows.uptoBulk y.1 <= 1048576) :
    ∃ ad len cap f2,∃ D : List (DataW H × List MemPlace),sl = .slice ad len cap /\ len <= cap /\ D.length = len /\ len <= 1048576 /\ f2 < f /\ Rows.uptoBulkAll (D.map (·.1)) <= Rows.uptoBulk y.1 /\ (0 < len -> ∃ b o,ad = some ⟨b,o,none⟩ /\ b < W.heap.size /\ ∀ j,j < len -> ∃ cs d,D[j]? = some d /\ cs.length = k /\ (∀ i,i < k -> W.cell? ⟨b,o + j * k + i,none⟩ = cs[i]?) /\ DataW.trod enc Tryz.prog W b2 (fun _ => true) true f2 e cs = some d) := by
  rcases DataW.trod_slice ht h with ⟨hcs,hx⟩ | ⟨a,len,cap,elems,rest,n,hfn,hcs,hx,hb1,hl,hm,hlen,hel,hsp,hns⟩
  · obtain rfl : sl = .slice none 0 0 := by simpa using hcs
    cases f with
    | zero => simp [DataW.trod] at h
    | succ f => exact ⟨none,0,0,f,[],rfl,by omega,rfl,by omega,by omega,by simp [Rows.uptoBulkAll],fun h => absurd h (by omega)⟩
  obtain rfl : sl = .slice (some a) len cap := by simpa using hcs
  have hy : y.1 = .slice (elems.map (·.1)) (rest.map (·.1)) := by rw [hx]
  have h1 := bulks.slice (elems.map (·.1)) (rest.map (·.1)); rw [<- hy] at h1; simp only [List.length_map] at h1; refine ⟨some a,len,cap,n,elems,rfl,hl,hlen,by omega,by omega,by rw [hy]; simp only [Rows.uptoBulk]; omega,fun h0 => ?_⟩; have hcell : ∀ j,j < len -> ∃ cs d,elems[j]? = some d /\ W.cells? b2 (a.add (j * k)) k = some cs /\ DataW.trod enc Tryz.prog W b2 (fun _ => true) true n e cs = some d := fun j hj => by
    have h2 := hel j hj; rw [hc] at h2; obtain ⟨d,hd⟩ : ∃ d,elems[j]? = some d := ⟨elems[j]'(by omega),List.getElem?_eq_getElem (by omega)⟩; rw [hd] at h2; obtain ⟨cs,h3,h4⟩ := Option.bind_eq_some_iff.1 h2; exact ⟨cs,d,hd,h3,h4⟩
  obtain ⟨cs0,d0,_,h3,_⟩ := hcell 0 h0; obtain ⟨_,hcl,hcc⟩ := World.cells?_some h3; have h5 := hcc 0 hk; obtain ⟨v0,hv0⟩ : ∃ v,cs0[0]? = some v := ⟨cs0[0]'(by omega),List.getElem?_eq_getElem (by omega)⟩; rw [hv0] at h5; have e9 : (a.add (0 * k)).add 0 = a.add 0 := by rw [Nat.zero_mul]; obtain ⟨b,o,q⟩ := a; cases q <;> simp [Addr.add]
  have h6 : W.cell? (a.add 0) = some v0 := by rw [<- e9]; exact h5
  have e1 := addr_lit h6; have hlt : a.block < W.heap.size := by
    have := block_lt_of_cell h6; rw [e1] at this; exact this
  refine ⟨a.block,a.off,by rw [<- e1],hlt,fun j hj => ?_⟩; obtain ⟨cs,d,hd,h7,h8⟩ := hcell j hj; obtain ⟨_,hcl2,hcc2⟩ := World.cells?_some h7; refine ⟨cs,d,hd,hcl2,fun i hi => ?_,h8⟩; rw [<- hcc2 i hi]; rw [e1,Addr.add_lit,Addr.add_lit]
theorem wf_u {n : Int} (h : (Lit.int .u64 n).wf = true) : U64 n := by
  simp only [Lit.wf,Bool.and_eq_true,decide_eq_true_eq] at h; rw [show IntKind.u64.min = 0 from rfl,show IntKind.u64.max = 18446744073709551615 from rfl] at h; unfold U64
  omega
theorem wf_i {n : Int} (h : (Lit.int .i64 n).wf = true) : I64 n := by
  simp only [Lit.wf,Bool.and_eq_true,decide_eq_true_eq] at h; rw [show IntKind.i64.min = -9223372036854775808 from rfl,show IntKind.i64.max = 9223372036854775807 from rfl] at h; unfold I64
  omega
theorem nb_of {H : Type} {s : ByteArray} (h : Rows.uptoBulk (.lit (.string s.data.toList) : DataW H) <= 1048576) : NB s := by
  unfold NB
  simp [Rows.uptoBulk] at h
  have e : s.data.size = s.size := rfl
  omega
section
variable {α : Type} {len : Nat} {g : Nat -> α}
theorem pk_len : ((List.range len).map g).length = len := by simp
theorem pk_get {j : Nat} (h : j < len) (d : α) : ((List.range len).map g).getD j d = g j := by
  rw [List.getD_eq_getElem?_getD,List.getElem?_map,List.getElem?_range h]
  rfl
theorem pk_mem {x : α} (h : x ∈ (List.range len).map g) : ∃ j,j < len /\ x = g j := by
  obtain ⟨j,hj,rfl⟩ := List.mem_map.1 h; exact ⟨j,by simpa using hj,rfl⟩
end
theorem pk_flat {α : Type} {len : Nat} {g : Nat -> List α} {x : α} (h : x ∈ ((List.range len).map g).flatten) : ∃ j,j < len /\ x ∈ g j := by
  obtain ⟨l,hl,hx⟩ := List.mem_flatten.1 h; obtain ⟨j,hj,rfl⟩ := pk_mem hl; exact ⟨j,hj,hx⟩
theorem flat_len {α : Type} (g : Nat -> List α) (l : List Nat) : ((l.map g).flatten).length = (l.map (fun j => (g j).length)).sum := by
  induction l with
  | nil => rfl
  | cons a r ih => simp only [List.map_cons,List.flatten_cons,List.length_append,List.sum_cons,ih]
theorem flat_wt (g : Nat -> List Sd) (l : List Nat) : wtS ((l.map g).flatten) = (l.map (fun j => wtS (g j))).sum := by
  induction l with
  | nil => rfl
  | cons a r ih => simp only [List.map_cons,List.flatten_cons,wtS_app,List.sum_cons,ih]
theorem decl_wt (g : Nat -> Dd) (l : List Nat) : wtD (l.map g) = (l.map (fun j => 1 + (g j).vs.length)).sum := by
  induction l with
  | nil => rfl
  | cons a r ih => simp only [List.map_cons,wtD,List.sum_cons,ih]
variable {H : Type} {enc : TypeId × Value -> H} {W : World} {b2 : Nat}
theorem op_words {f : Nat} {sl : Value} {y : DataW H × List MemPlace} (h : DataW.trod enc Tryz.prog W b2 (fun _ => true) true f 32 [sl] = some y) (hb : Rows.uptoBulk y.1 <= 1048576) : ∃ vs ad cap,sl = .slice ad vs.length cap /\ U6 W (fun j => j < W.heap.size) vs ad /\ vs.length <= Rows.uptoBulk y.1 /\ ∀ v ∈ vs,U64 v := by
  obtain ⟨ad,len,cap,f2,D,rfl,hcap,hD,hlen,hf2,hbk,hel⟩ := open_list Tryz.underlying32 cU1 (by omega) h hb; have key : ∀ j,∃ x : Int,j < len -> U64 x /\ ∀ b o,ad = some ⟨b,o,none⟩ -> W.cell? ⟨b,o + j,none⟩ = some (.int .u64 x) := fun j => by
    by_cases hj : j < len
    · obtain ⟨b,o,e,hlt,h5⟩ := hel (by omega)
      obtain ⟨cs,d,hd,hl,hc,ht⟩ := h5 j hj; obtain ⟨x,e1,_,hw⟩ := DataW.trod_int Tryz.underlying40 ht; subst e1; refine ⟨x,fun _ => ⟨wf_u hw,fun b' o' e' => ?_⟩⟩; rw [e] at e'; cases e'; have := hc 0 (by omega)
      simpa using this
    exact ⟨0,fun h => absurd h hj⟩
  obtain ⟨g,hg⟩ := Classical.axiomOfChoice key; refine ⟨(List.range len).map g,ad,cap,by rw [pk_len],fun h0 => ?_,?_,fun v hv => ?_⟩
  · rw [pk_len] at h0 ⊢
    obtain ⟨b,o,e,hlt,_⟩ := hel h0; refine ⟨b,o,e,hlt,fun j hj => ?_⟩; rw [pk_get hj]; exact (hg j hj).2 b o e
  · rw [pk_len,<- hD]
    have := bulks.len (D.map (·.1)); rw [List.length_map] at this
    omega
  obtain ⟨j,hj,rfl⟩ := pk_mem hv; exact (hg j hj).1
def XN (L : List Nd) : Prop := ∀ x ∈ L,NB x.s /\ U64 x.x
set_option maxRecDepth 100000 in
theorem op_expr : ∀ (f : Nat) (cs : List Value) (x : DataW H × List MemPlace),DataW.trod enc Tryz.prog W b2 (fun _ => true) true f 43 cs = some x -> Rows.uptoBulk x.1 <= 1048576 -> ∃ L,(∀ n,f <= n -> RE W (fun j => j < W.heap.size) n L cs) /\ L.length <= Rows.uptoBulk x.1 /\ XN L := by
  intro f
  induction f using Nat.strongRecOn with
  | ind f ih =>
    intro cs x h hb; obtain ⟨xs,n,rfl,rfl,hl,hlen,hf⟩ := DataW.trod_struct Tryz.underlying43 h; rw [cE4] at hl
    match xs,hlen,cs,hl with
    | [y0,y1,y2,y3],_,[c0,c1,c2,c3],_ =>
      have h0 : DataW.trod enc Tryz.prog W b2 (fun _ => true) true n 3 [c0] = some y0 := hf 0 _ rfl; have h1 : DataW.trod enc Tryz.prog W b2 (fun _ => true) true n 40 [c1] = some y1 := hf 1 _ rfl; have h2 : DataW.trod enc Tryz.prog W b2 (fun _ => true) true n 9 [c2] = some y2 := hf 2 _ rfl; have h3 : DataW.trod enc Tryz.prog W b2 (fun _ => true) true n 41 [c3] = some y3 := hf 3 _ rfl; have hB : 1 + Rows.uptoBulk y2.1 + Rows.uptoBulk y3.1 <= Rows.uptoBulk (.agg ([y0,y1,y2,y3].map (·.1))) := by simp only [List.map_cons,List.map_nil,Rows.uptoBulk,Rows.uptoBulkAll]; omega
      have hb : Rows.uptoBulk (.agg ([y0,y1,y2,y3].map (·.1))) <= 1048576 := hb; obtain ⟨k,e0,_,_⟩ := DataW.trod_int Tryz.underlying3 h0; obtain ⟨xx,e1,_,hw⟩ := DataW.trod_int Tryz.underlying40 h1; obtain ⟨s,e2,ey,_⟩ := DataW.trod_string Tryz.underlying9 h2; cases e0; cases e1; cases e2; have hy2 : Rows.uptoBulk y2.1 <= 1048576 := by omega
      have hnb : NB s := nb_of (H := H) (by rw [ey] at hy2; exact hy2); obtain ⟨ad,len,cap,f2,D,rfl,hcap,hD,hln,hf2,hbk,hel⟩ := open_list Tryz.underlying41 cE4 (by omega) h3 (by omega); have key : ∀ j,∃ L : List Nd,j < len -> (∃ d,D[j]? = some d /\ L.length <= Rows.uptoBulk d.1) /\ XN L /\ ∀ b o,ad = some ⟨b,o,none⟩ -> ∃ v0 v1 v2 v3,W.cell? ⟨b,o + j * 4,none⟩ = some v0 /\ W.cell? ⟨b,o + j * 4 + 1,none⟩ = some v1 /\ W.cell? ⟨b,o + j * 4 + 2,none⟩ = some v2 /\ W.cell? ⟨b,o + j * 4 + 3,none⟩ = some v3 /\ ∀ m,f2 <= m -> RE W (fun j => j < W.heap.size) m L [v0,v1,v2,v3] := fun j => by
        by_cases hj : j < len
        · obtain ⟨b,o,e,hlt,h5⟩ := hel (by omega)
          obtain ⟨cs,d,hd,hl,hc,ht⟩ := h5 j hj; have hdb : Rows.uptoBulk d.1 <= Rows.uptoBulkAll (D.map (·.1)) := bulks.part (List.mem_map.2 ⟨d,List.mem_of_getElem? hd,rfl⟩); obtain ⟨L,g1,g2,g3⟩ := ih f2 (by omega) cs d ht (by omega); refine ⟨L,fun _ => ⟨⟨d,hd,g2⟩,g3,fun b' o' e' => ?_⟩⟩; rw [e] at e'; cases e'
          match cs,hl with
          | [v0,v1,v2,v3],_ => exact ⟨v0,v1,v2,v3,hc 0 (by omega),hc 1 (by omega),hc 2 (by omega),hc 3 (by omega),g1⟩
        exact ⟨[],fun h => absurd h hj⟩
      obtain ⟨g,hg⟩ := Classical.axiomOfChoice key; refine ⟨⟨k,xx,s,((List.range len).map g).length,hts ((List.range len).map g) + 1⟩ :: ((List.range len).map g).flatten,fun m hm => ?_,?_,fun x hx => ?_⟩
      · cases m with
        | zero => omega
        | succ m =>
          refine ⟨k,xx,s,ad,cap,(List.range len).map g,rfl,by rw [pk_len],fun h0 => ?_⟩; rw [pk_len] at h0 ⊢; obtain ⟨b,o,e,hlt,_⟩ := hel h0; refine ⟨b,o,e,hlt,fun j hj => ?_⟩; rw [pk_get hj]; obtain ⟨v0,v1,v2,v3,w0,w1,w2,w3,hE⟩ := (hg j hj).2.2 b o e; exact ⟨v0,v1,v2,v3,w0,w1,w2,w3,hE m (by omega)⟩
      · have h7 := bulks.sum_le 1 (D.map (·.1)) (fun j => (g j).length) (fun j d hd => by
          obtain ⟨d',hd',rfl⟩ : ∃ d',D[j]? = some d' /\ d'.1 = d := by simpa using hd
          obtain ⟨⟨d2,hd2,h9⟩,_⟩ := hg j (by rw [<- hD]; exact (List.getElem?_eq_some_iff.1 hd').1); rw [hd'] at hd2; cases hd2; rw [Nat.one_mul]; exact h9)
        rw [List.length_map,hD] at h7; rw [List.length_cons,flat_len]
        show _ <= Rows.uptoBulk (.agg ([y0,y1,y2,y3].map (·.1)))
        omega
      rcases List.mem_cons.1 hx with rfl | hx
      · exact ⟨hnb,wf_u hw⟩
      obtain ⟨j,hj,hx⟩ := pk_flat hx; exact (hg j hj).2.1 x hx
def SN (S : List Sd) : Prop := ∀ d ∈ S,(NB d.s /\ XN d.A /\ XN d.E) /\ U64 d.lo /\ U64 d.hi
def OS (W : World) (f : Nat) (cs : List Value) (B : Nat) : Prop := ∃ S,(∀ n N,f <= n -> f <= N -> RT W (fun j => j < W.heap.size) N (RB W (fun j => j < W.heap.size) N n) S cs) /\ wtS S <= B /\ SN S
theorem op_stmts (f : Nat) (ih : ∀ f2,f2 < f -> ∀ (cs : List Value) (x : DataW H × List MemPlace),DataW.trod enc Tryz.prog W b2 (fun _ => true) true f2 46 cs = some x -> Rows.uptoBulk x.1 <= 1048576 -> OS W f2 cs (Rows.uptoBulk x.1)) (sl : Value) (y : DataW H × List MemPlace) (h : DataW.trod enc Tryz.prog W b2 (fun _ => true) true f 23 [sl] = some y) (hb : Rows.uptoBulk y.1 <= 1048576) : ∃ Bs,(∀ n N,f <= n -> f <= N -> RB W (fun j => j < W.heap.size) N n Bs sl) /\ wtS Bs.flatten <= Rows.uptoBulk y.1 /\ SN Bs.flatten := by
  obtain ⟨ad,len,cap,f2,D,rfl,hcap,hD,hln,hf2,hbk,hel⟩ := open_list Tryz.underlying23 cS14 (by omega) h hb; have key : ∀ j,∃ S : List Sd,j < len -> (∃ d,D[j]? = some d /\ wtS S <= Rows.uptoBulk d.1) /\ SN S /\ ∀ b o,ad = some ⟨b,o,none⟩ -> ∃ vs : List Value,vs.length = 14 /\ (∀ i,i < 14 -> W.cell? ⟨b,o + j * 14 + i,none⟩ = some (vs.getD i undef)) /\ ∀ n N,f2 <= n -> f2 <= N -> RT W (fun j => j < W.heap.size) N (RB W (fun j => j < W.heap.size) N n) S vs := fun j => by
    by_cases hj : j < len
    · obtain ⟨b,o,e,hlt,h5⟩ := hel (by omega)
      obtain ⟨cs,d,hd,hl,hc,ht⟩ := h5 j hj; have hdb : Rows.uptoBulk d.1 <= Rows.uptoBulkAll (D.map (·.1)) := bulks.part (List.mem_map.2 ⟨d,List.mem_of_getElem? hd,rfl⟩); obtain ⟨S,g1,g2,g3⟩ := ih f2 hf2 cs d ht (by omega); refine ⟨S,fun _ => ⟨⟨d,hd,g2⟩,g3,fun b' o' e' => ?_⟩⟩; rw [e] at e'; cases e'; exact ⟨cs,hl,fun i hi => by rw [hc i hi,List.getD_eq_getElem?_getD,List.getElem?_eq_getElem (by omega)]; rfl,g1⟩
    exact ⟨[],fun h => absurd h hj⟩
  obtain ⟨g,hg⟩ := Classical.axiomOfChoice key; refine ⟨(List.range len).map g,fun n N hn hN => ?_,?_,fun d hd => ?_⟩
  · cases n with
    | zero => omega
    | succ n =>
      refine ⟨ad,cap,by rw [pk_len],fun h0 => ?_⟩; rw [pk_len] at h0 ⊢; obtain ⟨b,o,e,hlt,_⟩ := hel h0; refine ⟨b,o,e,⟨hlt,hcap⟩,fun j hj => ?_⟩; rw [pk_get hj]; obtain ⟨vs,h1,h2,h3⟩ := (hg j hj).2.2 b o e; exact ⟨vs,h1,h2,h3 n N (by omega) (by omega)⟩
  · have h7 := bulks.sum_le 1 (D.map (·.1)) (fun j => wtS (g j)) (fun j d hd => by
      obtain ⟨d',hd',rfl⟩ : ∃ d',D[j]? = some d' /\ d'.1 = d := by simpa using hd
      obtain ⟨⟨d2,hd2,h9⟩,_⟩ := hg j (by rw [<- hD]; exact (List.getElem?_eq_some_iff.1 hd').1); rw [hd'] at hd2; cases hd2; rw [Nat.one_mul]; exact h9)
    rw [List.length_map,hD] at h7; rw [flat_wt]
    omega
  obtain ⟨j,hj,hx⟩ := pk_flat hd; exact (hg j hj).2.1 d hx
set_option maxRecDepth 100000 in
theorem op_stmt : ∀ (f : Nat) (cs : List Value) (x : DataW H × List MemPlace),DataW.trod enc Tryz.prog W b2 (fun _ => true) true f 46 cs = some x -> Rows.uptoBulk x.1 <= 1048576 -> OS W f cs (Rows.uptoBulk x.1) := by
  intro f
  induction f using Nat.strongRecOn with
  | ind f ih =>
    intro cs x h hb; obtain ⟨xs,n1,rfl,rfl,hl,hlen,hf⟩ := DataW.trod_struct Tryz.underlying46 h; rw [cS14] at hl
    match xs,hlen,cs,hl with
    | [y0,y1,y2,y3,y4,y5,y6,y7],_,[c0,c1,c2,c3,c4,c5,c6,c7,c8,c9,c10,c11,c12,c13],_ =>
      have h0 : DataW.trod enc Tryz.prog W b2 (fun _ => true) true n1 3 [c0] = some y0 := hf 0 _ rfl; have h1 : DataW.trod enc Tryz.prog W b2 (fun _ => true) true n1 9 [c1] = some y1 := hf 1 _ rfl; have h2 : DataW.trod enc Tryz.prog W b2 (fun _ => true) true n1 43 [c2,c3,c4,c5] = some y2 := by have h9 : DataW.trod enc Tryz.prog W b2 (fun _ => true) true n1 43 (([c0,c1,c2,c3,c4,c5,c6,c7,c8,c9,c10,c11,c12,c13].drop 2).take (Tryz.prog.cellsOf 43)) = some y2 := hf 2 _ rfl; rw [cE4] at h9; exact h9
      have h3 : DataW.trod enc Tryz.prog W b2 (fun _ => true) true n1 43 [c6,c7,c8,c9] = some y3 := by have h9 : DataW.trod enc Tryz.prog W b2 (fun _ => true) true n1 43 (([c0,c1,c2,c3,c4,c5,c6,c7,c8,c9,c10,c11,c12,c13].drop 6).take (Tryz.prog.cellsOf 43)) = some y3 := hf 3 _ rfl; rw [cE4] at h9; exact h9
      have h4 : DataW.trod enc Tryz.prog W b2 (fun _ => true) true n1 40 [c10] = some y4 := hf 4 _ rfl; have h5 : DataW.trod enc Tryz.prog W b2 (fun _ => true) true n1 40 [c11] = some y5 := hf 5 _ rfl; have h6 : DataW.trod enc Tryz.prog W b2 (fun _ => true) true n1 23 [c12] = some y6 := hf 6 _ rfl; have h7 : DataW.trod enc Tryz.prog W b2 (fun _ => true) true n1 23 [c13] = some y7 := hf 7 _ rfl; have hB : 1 + Rows.uptoBulk y1.1 + Rows.uptoBulk y2.1 + Rows.uptoBulk y3.1 + Rows.uptoBulk y6.1 + Rows.uptoBulk y7.1 <= Rows.uptoBulk (.agg ([y0,y1,y2,y3,y4,y5,y6,y7].map (·.1))) := by simp only [List.map_cons,List.map_nil,Rows.uptoBulk,Rows.uptoBulkAll]; omega
      have hb : Rows.uptoBulk (.agg ([y0,y1,y2,y3,y4,y5,y6,y7].map (·.1))) <= 1048576 := hb; obtain ⟨k,e0,_,_⟩ := DataW.trod_int Tryz.underlying3 h0; obtain ⟨s,e1,ey,_⟩ := DataW.trod_string Tryz.underlying9 h1; obtain ⟨lo,e4,_,hw4⟩ := DataW.trod_int Tryz.underlying40 h4; obtain ⟨hi,e5,_,hw5⟩ := DataW.trod_int Tryz.underlying40 h5; obtain ⟨LA,hA,hA2,hA3⟩ := op_expr n1 _ _ h2 (by omega); obtain ⟨LE,hE,hE2,hE3⟩ := op_expr n1 _ _ h3 (by omega); have hy1 : Rows.uptoBulk y1.1 <= 1048576 := by omega
      have hnb : NB s := nb_of (H := H) (by rw [ey] at hy1; exact hy1); cases e0; cases e1; cases e4; cases e5; have ih' : ∀ f2,f2 < n1 -> ∀ (cs : List Value) (x : DataW H × List MemPlace),DataW.trod enc Tryz.prog W b2 (fun _ => true) true f2 46 cs = some x -> Rows.uptoBulk x.1 <= 1048576 -> OS W f2 cs (Rows.uptoBulk x.1) := fun f2 hf2 cs x hx hbx => ih f2 (by omega) cs x hx hbx
      obtain ⟨BT,hT,hT2,hT3⟩ := op_stmts n1 ih' _ _ h6 (by omega); obtain ⟨BE,hO,hO2,hO3⟩ := op_stmts n1 ih' _ _ h7 (by omega); refine ⟨⟨k,s,LA,LE,lo,hi,BT.length,BE.length⟩ :: (BT.flatten ++ BE.flatten),fun n N hn hN => ?_,?_,fun d hd => ?_⟩
      · exact ⟨k,s,c2,c3,c4,c5,c6,c7,c8,c9,lo,hi,c12,c13,LA,LE,BT,BE,rfl,rfl,hA N (by omega),hE N (by omega),hT n N (by omega) (by omega),hO n N (by omega) (by omega)⟩
      · simp only [wtS,wtS_app]
        show _ <= Rows.uptoBulk (.agg ([y0,y1,y2,y3,y4,y5,y6,y7].map (·.1)))
        omega
      rcases List.mem_cons.1 hd with rfl | hd
      · exact ⟨⟨hnb,hA3,hE3⟩,wf_u hw4,wf_u hw5⟩
      rcases List.mem_append.1 hd with hd | hd
      · exact hT3 d hd
      exact hO3 d hd
set_option maxRecDepth 100000 in
theorem op_decl {f : Nat} {cs : List Value} {d : DataW H × List MemPlace} (ht : DataW.trod enc Tryz.prog W b2 (fun _ => true) true f 34 cs = some d) (hb : Rows.uptoBulk d.1 <= 1048576) : ∃ dd : Dd,1 + dd.vs.length <= Rows.uptoBulk d.1 /\ (NB dd.s /\ I64 dd.z /\ ∀ v ∈ dd.vs,U64 v) /\ RD W (fun j => j < W.heap.size) dd cs := by
  obtain ⟨xs,n1,rfl,rfl,hl',hlen',hf⟩ := DataW.trod_struct Tryz.underlying34 ht; rw [cD4] at hl'
  match xs,hlen',cs,hl' with
  | [y0,y1,y2,y3],_,[c0,c1,c2,c3],_ =>
    have h0 : DataW.trod enc Tryz.prog W b2 (fun _ => true) true n1 3 [c0] = some y0 := hf 0 _ rfl; have h1 : DataW.trod enc Tryz.prog W b2 (fun _ => true) true n1 9 [c1] = some y1 := hf 1 _ rfl; have h2 : DataW.trod enc Tryz.prog W b2 (fun _ => true) true n1 3 [c2] = some y2 := hf 2 _ rfl; have h3 : DataW.trod enc Tryz.prog W b2 (fun _ => true) true n1 32 [c3] = some y3 := hf 3 _ rfl; have hB : 1 + Rows.uptoBulk y1.1 + Rows.uptoBulk y3.1 <= Rows.uptoBulk (.agg ([y0,y1,y2,y3].map (·.1))) := by simp only [List.map_cons,List.map_nil,Rows.uptoBulk,Rows.uptoBulkAll]; omega
    have hb5 : Rows.uptoBulk (.agg ([y0,y1,y2,y3].map (·.1))) <= 1048576 := hb; obtain ⟨k,e0,_,_⟩ := DataW.trod_int Tryz.underlying3 h0; obtain ⟨s,e1,ey,_⟩ := DataW.trod_string Tryz.underlying9 h1; obtain ⟨z,e2,_,hw⟩ := DataW.trod_int Tryz.underlying3 h2; obtain ⟨vs,av,cv,e3,hU,hvl,hvu⟩ := op_words h3 (by omega); have hy1 : Rows.uptoBulk y1.1 <= 1048576 := by omega
    have hnb : NB s := nb_of (H := H) (by rw [ey] at hy1; exact hy1); cases e0; cases e1; cases e2; subst e3; refine ⟨⟨k,s,z,vs⟩,?_,⟨hnb,wf_i hw,hvu⟩,av,cv,rfl,hU⟩
    show 1 + vs.length <= Rows.uptoBulk (.agg ([y0,y1,y2,y3].map (·.1)))
    omega
theorem op_decls {f : Nat} {sl : Value} {y : DataW H × List MemPlace} (h : DataW.trod enc Tryz.prog W b2 (fun _ => true) true f 22 [sl] = some y) (hb : Rows.uptoBulk y.1 <= 1048576) : ∃ Ds,RDs W (fun j => j < W.heap.size) Ds sl /\ wtD Ds <= Rows.uptoBulk y.1 /\ ∀ d ∈ Ds,NB d.s /\ I64 d.z /\ ∀ v ∈ d.vs,U64 v := by
  obtain ⟨ad,len,cap,f2,D,rfl,hcap,hD,hln,hf2,hbk,hel⟩ := open_list Tryz.underlying22 cD4 (by omega) h hb; have key : ∀ j,∃ dd : Dd,j < len -> (∃ d,D[j]? = some d /\ 1 + dd.vs.length <= Rows.uptoBulk d.1) /\ (NB dd.s /\ I64 dd.z /\ ∀ v ∈ dd.vs,U64 v) /\ ∀ b o,ad = some ⟨b,o,none⟩ -> ∃ v0 v1 v2 v3,W.cell? ⟨b,o + j * 4,none⟩ = some v0 /\ W.cell? ⟨b,o + j * 4 + 1,none⟩ = some v1 /\ W.cell? ⟨b,o + j * 4 + 2,none⟩ = some v2 /\ W.cell? ⟨b,o + j * 4 + 3,none⟩ = some v3 /\ RD W (fun j => j < W.heap.size) dd [v0,v1,v2,v3] := fun j => by
    by_cases hj : j < len
    · obtain ⟨b,o,e,hlt,h5⟩ := hel (by omega)
      obtain ⟨cs,d,hd,hl,hc,ht⟩ := h5 j hj; have hdb : Rows.uptoBulk d.1 <= Rows.uptoBulkAll (D.map (·.1)) := bulks.part (List.mem_map.2 ⟨d,List.mem_of_getElem? hd,rfl⟩); obtain ⟨dd,g1,g2,g3⟩ := op_decl ht (by omega); refine ⟨dd,fun _ => ⟨⟨d,hd,g1⟩,g2,fun b' o' e' => ?_⟩⟩; rw [e] at e'; cases e'
      match cs,hl with
      | [v0,v1,v2,v3],_ => exact ⟨v0,v1,v2,v3,hc 0 (by omega),hc 1 (by omega),hc 2 (by omega),hc 3 (by omega),g3⟩
    exact ⟨dd0,fun h => absurd h hj⟩
  obtain ⟨g,hg⟩ := Classical.axiomOfChoice key; refine ⟨(List.range len).map g,⟨ad,cap,by rw [pk_len],fun h0 => ?_⟩,?_,fun d hd => ?_⟩
  · rw [pk_len] at h0 ⊢
    obtain ⟨b,o,e,hlt,_⟩ := hel h0; refine ⟨b,o,e,hlt,fun j hj => ?_⟩; rw [pk_get hj]; exact (hg j hj).2.2 b o e
  · have h7 := bulks.sum_le 1 (D.map (·.1)) (fun j => 1 + (g j).vs.length) (fun j d hd => by
      obtain ⟨d',hd',rfl⟩ : ∃ d',D[j]? = some d' /\ d'.1 = d := by simpa using hd
      obtain ⟨⟨d2,hd2,h9⟩,_⟩ := hg j (by rw [<- hD]; exact (List.getElem?_eq_some_iff.1 hd').1); rw [hd'] at hd2; cases hd2; rw [Nat.one_mul]; exact h9)
    rw [List.length_map,hD] at h7; rw [decl_wt]
    omega
  obtain ⟨j,hj,rfl⟩ := pk_mem hd; exact (hg j hj).2.1
end Go.Proofs.YtfljcdccepnidaaGreatDoor.Op
