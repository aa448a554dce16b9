import Derived.Test.YtkpapgfbnledpaaGreatDoorRows
import Derived.OrdersHeld
import Derived.Deep.RegionHeld3
import Derived.Deep.RegionHeld
namespace Go.Proofs.YtkpapgfbnledpaaGreatDoor


def nthO : List Oper -> Nat -> Option Oper
  | [],_ => none
  | o :: _,0 => some o
  | _ :: r,n + 1 => nthO r n
theorem nthO_get : ∀ (L : List Oper) (i : Nat),L[i]? = nthO L i
  | [],_ => rfl
  | _ :: _,0 => rfl
  | _ :: r,n + 1 => by rw [List.getElem?_cons_succ,nthO_get r n]; rfl
theorem nthO_at {L : List Oper} {i : Nat} {o : Oper} (h : nthO L i = some o) : L.toArray[i]? = some o := by
  rw [List.getElem?_toArray,nthO_get,h]
def nthV : List Value -> Nat -> Option Value
  | [],_ => none
  | o :: _,0 => some o
  | _ :: r,n + 1 => nthV r n
theorem nthV_get : ∀ (L : List Value) (i : Nat),L[i]? = nthV L i
  | [],_ => rfl
  | _ :: _,0 => rfl
  | _ :: r,n + 1 => by rw [List.getElem?_cons_succ,nthV_get r n]; rfl
def gst (L : List Oper) (t : List Value) (o : Oper) : Bool := match o.guard with
  | none => true
  | some (g,b) => match nthO L g with
    | some og => match og.dst with
      | some d => match nthV t d with
        | some (.bool c) => c == b
        | _ => false
      | none => false
    | none => false
theorem gst_eq (L : List Oper) (t : Array Value) (o : Oper) : Region.wanted o (yielded L.toArray t) = gst L t.toList o := by
  unfold Region.wanted gst; cases o.guard with
  | none => rfl
  | some gb =>
    obtain ⟨g,b⟩ := gb
    dsimp only
    unfold yielded; rw [List.getElem?_toArray,nthO_get]; cases nthO L g with
    | none => rfl
    | some og =>
      dsimp only [Option.bind_some]
      cases og.dst with
      | none => rfl
      | some d =>
        dsimp only [Option.bind_some]
        rw [<- Array.getElem?_toList,nthV_get]; cases nthV t.toList d with
        | none => rfl
        | some v => cases v <;> simp
def chq (ops : Array Oper) (cs : List Nat) : Array Bool -> List Nat -> Bool
  | listed,[] => (Region.ready .any ops listed).isEmpty
  | listed,i :: r => (if cs.contains i then Region.ready .any ops listed == [i] else Region.free .any ops listed i && (Region.ready .any ops listed).contains i) && chq ops cs (listed.setIfInBounds i true) r
def SQ (P : Program) (L : List Oper) (Q : Exit -> Act -> World -> Prop) (S : World -> Prop) (cs l : List Nat) (a : Act) (w : World) : Prop := ∀ listed,Region.noSelect L.toArray = true -> chq L.toArray cs listed l = true -> S w -> wpAnyH P .any L.toArray Q S l.length listed a w
section
variable {P : Program} {L : List Oper} {Q : Exit -> Act -> World -> Prop} {S : World -> Prop} {cs l : List Nat} {a : Act} {w : World}
theorem sq_of (cs l : List Nat) (hc : (Region.noSelect L.toArray && (l.length == L.toArray.size && chq L.toArray cs (Array.replicate L.toArray.size false) l)) = true) (hS : S w) (h : SQ P L Q S cs l a w) : wpAnyH P .any L.toArray Q S L.toArray.size (Array.replicate L.toArray.size false) a w := by
  simp only [Bool.and_eq_true,beq_iff_eq] at hc; have h5 := h _ hc.1 hc.2.2 hS; rw [hc.2.1] at h5; exact h5
theorem sq_start {id : Nat} (S : World -> Prop) (cs l : List Nat) (hm : P.follows .mixedOrders = true) (hc : (Region.noSelect L.toArray && (l.length == L.toArray.size && chq L.toArray cs (Array.replicate L.toArray.size false) l)) = true) (hS : S w.drew) (h : SQ P L Q S cs l a w.drew) : (Code.region id L.toArray true).wp P Q a w := wp_region_held_drew hm hS (fun hS => sq_of cs l hc hS h)
theorem sq_skip {i : Nat} {r : List Nat} {o : Oper} (hi : nthO L i = some o) (hw : gst L a.tmps.toList o = false) (h : SQ P L Q S cs r (a.put o.dst undef) w) (hQ : ∀ c a w,Q (.panic c) (a.put o.dst undef) w -> Q (.panic c) a w := by exact fun _ _ _ h => h) : SQ P L Q S cs (i :: r) a w := by
  intro listed hn hc hS; rw [<- gst_eq] at hw; simp only [chq,Bool.and_eq_true] at hc; obtain ⟨h1,h2⟩ := hc
  by_cases hm : cs.contains i = true
  · rw [if_pos hm,beq_iff_eq] at h1
    refine wpAnyH_ready h1 (by simp) (AllReadyH.cons (nthO_at hi) (fun K hK => ?_) AllReadyH.nil); rw [hw]; exact hK _ _ hS (fun hS => h _ hn h2 hS)
  rw [if_neg hm,Bool.and_eq_true] at h1; exact wpAnyH_take (nthO_at hi) hn h1.1 h1.2 hQ (Or.inr ⟨hw,rfl⟩) hS (h _ hn h2 hS)
theorem sq_op {i : Nat} {r : List Nat} {o : Oper} {v : Value} (hi : nthO L i = some o) (hm : cs.contains i = false) (hw : gst L a.tmps.toList o = true) (hy : ∀ w,S w -> (execOp a.eval o).run P w = .ok (.value v) w) (h : SQ P L Q S cs r (a.put o.dst v) w) (hQ : ∀ c a w,Q (.panic c) (a.put o.dst v) w -> Q (.panic c) a w := by exact fun _ _ _ h => h) : SQ P L Q S cs (i :: r) a w := by
  intro listed hn hc hS; rw [<- gst_eq] at hw; simp only [chq,Bool.and_eq_true] at hc; obtain ⟨h1,h2⟩ := hc; rw [if_neg (by rw [hm]; simp),Bool.and_eq_true] at h1; exact wpAnyH_take (nthO_at hi) hn h1.1 h1.2 hQ (Or.inl ⟨hw,hy⟩) hS (h _ hn h2 hS)
theorem sq_do {i : Nat} {r : List Nat} {o : Oper} (hi : nthO L i = some o) (hm : cs.contains i = true) (hw : gst L a.tmps.toList o = true) (h : ∀ K' : Act -> World -> Prop,Shut (∀ a w,S w -> (S w -> SQ P L Q S cs r a w) -> K' a w) -> Oper.wp P o a w K' Q) : SQ P L Q S cs (i :: r) a w := by
  intro listed hn hc hS; rw [<- gst_eq] at hw; simp only [chq,Bool.and_eq_true] at hc; obtain ⟨h1,h2⟩ := hc; rw [if_pos hm,beq_iff_eq] at h1; refine wpAnyH_ready h1 (by simp) (AllReadyH.cons (nthO_at hi) (fun K hK => ?_) AllReadyH.nil); rw [if_pos hw]; exact h K (fun a w hS hq => hK _ _ hS (fun hS => hq hS _ hn h2 hS))
theorem sq_end (h : S w -> Q .normal a w) : SQ P L Q S cs [] a w := by
  intro listed hn hc hS; simp only [chq,List.isEmpty_iff] at hc; exact wpAnyH_done hc (h hS) _
end


section
variable {P : Program} {ops : Array Oper} {Q : Exit -> Act -> World -> Prop} {md : Region.Mode} {S : World -> Prop} {z : Nat}
def AnyE (P : Program) (md : Region.Mode) (ops : Array Oper) (Q : Exit -> Act -> World -> Prop) (S : World -> Prop) (z : Nat) : Nat -> Array Bool -> Act -> World -> Prop
  | 0,l,a,w => Region.ready md ops l = [] /\ Q .normal a w
  | n + 1,l,a,w => (Region.ready md ops l = [] -> Q .normal a w) /\ ∀ i ∈ Region.ready md ops l,wpOp P ops Q i (fun a' w' => (i ≠ z -> S w') /\ AnyE P md ops Q S z n (l.setIfInBounds i true) a' w') a w
theorem AnyE.any : ∀ (n : Nat) (l : Array Bool) (a : Act) (w : World),AnyE P md ops Q S z n l a w -> wpAny P md ops Q n l a w
  | 0,_,_,_,h => h
  | n + 1,_,_,_,h => ⟨h.1,fun i hi => wpOp_mono (fun a' w' h' => AnyE.any n _ a' w' h'.2) (h.2 i hi)⟩
def awaits (md : Region.Mode) (ops : Array Oper) (z i : Nat) : Bool := match ops[z]? with
  | some o => o.after.any fun e => Region.binds md e && e.on == i
  | none => false
theorem awaits.not {i : Nat} {l : Array Bool} (h : awaits md ops z i = true) (hi : i ∈ Region.ready md ops l) : ¬ z ∈ Region.ready md ops l := fun hz => by
  obtain ⟨_,o,ho,hall⟩ := mem_ready.1 hz; unfold awaits at h; rw [ho] at h; obtain ⟨j,hj,he⟩ := Array.any_eq_true.1 h; rw [Bool.and_eq_true,beq_iff_eq] at he; have h1 := hall _ (Array.getElem_mem hj) he.1; have h0 := (mem_ready.1 hi).1; rw [he.2] at h1
  rcases Nat.lt_or_ge i l.size with h' | h'
  · simp [h'] at h0 h1
    rw [h0] at h1; cases h1
  simp [Array.getElem?_eq_none h'] at h1
theorem AnyE.first {i : Nat} {oi : Oper} {v : Value} (hi : ops[i]? = some oi) (hsel : ∀ (j : Nat) (o : Oper) cs b,ops[j]? = some o -> o.op ≠ .select cs b) (hQ : ∀ c a w,Q (.panic c) (a.put oi.dst v) w -> Q (.panic c) a w) (hz : awaits md ops z i = true) :
    ∀ (n : Nat) (l : Array Bool) (a : Act) (w : World),(∀ j oj,ops[j]? = some oj -> j ≠ i -> l.getD j true = false -> (∀ e ∈ oj.after,Region.binds md e = true -> e.on ≠ i) -> oi.apart ops oj = true) -> i ∈ Region.ready md ops l -> YieldsIf P ops S oi v a -> S w -> AnyE P md ops Q S z n (l.setIfInBounds i true) (a.put oi.dst v) w -> AnyE P md ops Q S z (n + 1) l a w := by
  intro n
  induction n with
  | zero =>
    intro l a w _ hr hy hS H; refine ⟨fun h => (by rw [h] at hr; cases hr),fun j hj => ?_⟩
    by_cases hji : j = i
    · subst hji
      exact hy.wpOp hi hS ⟨fun _ => hS,H⟩
    have h5 := ready_mono hj hji; rw [H.1] at h5; cases h5
  | succ n ih =>
    intro l a w hfree hr hy hS H; refine ⟨fun h => (by rw [h] at hr; cases hr),fun j hj => ?_⟩
    by_cases hji : j = i
    · subst hji
      exact hy.wpOp hi hS ⟨fun _ => hS,H⟩
    have hjz : j ≠ z := fun e => awaits.not hz hr (e ▸ hj)
    have h1 := H.2 j (ready_mono hj hji); obtain ⟨hjun,oj,hoj,hall⟩ := mem_ready.1 hj; have hnot : ∀ e ∈ oj.after,Region.binds md e = true -> e.on ≠ i := fun e he hb heq => by
      have h1 := hall e he hb; have h0 := (mem_ready.1 hr).1; rw [heq] at h1
      rcases Nat.lt_or_ge i l.size with h' | h'
      · simp [h'] at h0 h1
        rw [h0] at h1; cases h1
      simp [Array.getElem?_eq_none h'] at h1
    have h2 := wpOp_putIf hoj (hfree j oj hoj hji hjun hnot) (fun cs b => hsel i oi cs b hi) (fun cs b => hsel j oj cs b hoj) hQ hy h1; have hfree' : ∀ k ok,ops[k]? = some ok -> k ≠ i -> (l.setIfInBounds j true).getD k true = false -> (∀ e ∈ ok.after,Region.binds md e = true -> e.on ≠ i) -> oi.apart ops ok = true := fun k ok hk hki hun hno => by
      refine hfree k ok hk hki ?_ hno
      by_cases hjk : j = k
      · subst hjk
        exact hjun
      rw [getD_set_ne true hjk] at hun; exact hun
    refine wpOp_mono (fun a' w' h3 => ⟨h3.2.1,ih (l.setIfInBounds j true) a' w' hfree' (ready_mono hr (Ne.symm hji)) h3.1 (h3.2.1 hjz) ?_⟩) h2; rw [Array.setIfInBounds_comm _ _ hji]; exact h3.2.2
theorem AnyE.take {i : Nat} {oi : Oper} {v : Value} {n : Nat} {l : Array Bool} {a : Act} {w : World} (hi : ops[i]? = some oi) (hs : Region.noSelect ops = true) (hf : Region.free md ops l i = true) (hr : (Region.ready md ops l).contains i = true) (hz : awaits md ops z i = true)
    (hQ : ∀ c a w,Q (.panic c) (a.put oi.dst v) w -> Q (.panic c) a w) (hy : YieldsIf P ops S oi v a) (hS : S w) (h : AnyE P md ops Q S z n (l.setIfInBounds i true) (a.put oi.dst v) w) : AnyE P md ops Q S z (n + 1) l a w :=
  AnyE.first hi (Region.noSelect_spec hs) hQ hz n l a w (Region.free_spec hi hf) (by simpa using hr) hy hS h
theorem AnyE.one {i : Nat} {o : Oper} {n : Nat} {l : Array Bool} {a : Act} {w : World} (hr : Region.ready md ops l = [i]) (ho : ops[i]? = some o)
    (h : ∀ K' : Act -> World -> Prop,Shut (∀ a w,(i ≠ z -> S w) -> AnyE P md ops Q S z n (l.setIfInBounds i true) a w -> K' a w) -> if Region.wanted o (yielded ops a.tmps) = true then Oper.wp P o a w K' Q else K' (a.put o.dst undef) w) : AnyE P md ops Q S z (n + 1) l a w :=
  ⟨fun h0 => (by rw [hr] at h0; cases h0),fun j hj => by
    rw [hr] at hj; obtain rfl := List.mem_singleton.1 hj; exact wpOp_step ho (fun K' hK => h K' (fun a w hS hW => hK a w ⟨hS,hW⟩))⟩
theorem AnyE.done {l : Array Bool} {a : Act} {w : World} (hr : Region.ready md ops l = []) (h : Q .normal a w) : ∀ n,AnyE P md ops Q S z n l a w
  | 0 => ⟨hr,h⟩
  | _ + 1 => ⟨fun _ => h,by rw [hr]; simp⟩
theorem AnyE.region {id : Nat} {a : Act} {w : World} (S : World -> Prop) (z : Nat) (hm : P.follows .mixedOrders = true) (h : AnyE P .any ops Q S z ops.size (Array.replicate ops.size false) a w.drew) : (Code.region id ops true).wp P Q a w :=
  wp_region_any hm (AnyE.any _ _ _ _ h)
end



def chz (ops : Array Oper) (z : Nat) (cs : List Nat) : Array Bool -> List Nat -> Bool
  | listed,[] => (Region.ready .any ops listed).isEmpty
  | listed,i :: r => (if cs.contains i then Region.ready .any ops listed == [i] && (i != z || r.isEmpty) else Region.free .any ops listed i && ((Region.ready .any ops listed).contains i && awaits .any ops z i)) && chz ops z cs (listed.setIfInBounds i true) r
def SE (P : Program) (L : List Oper) (Q : Exit -> Act -> World -> Prop) (S : World -> Prop) (z : Nat) (cs l : List Nat) (a : Act) (w : World) : Prop := ∀ listed,Region.noSelect L.toArray = true -> chz L.toArray z cs listed l = true -> AnyE P .any L.toArray Q S z l.length listed a w
section
variable {P : Program} {L : List Oper} {Q : Exit -> Act -> World -> Prop} {S : World -> Prop} {z : Nat} {cs l : List Nat} {a : Act} {w : World}
theorem se_start {id : Nat} (S : World -> Prop) (z : Nat) (cs l : List Nat) (hm : P.follows .mixedOrders = true) (hc : (Region.noSelect L.toArray && (l.length == L.toArray.size && chz L.toArray z cs (Array.replicate L.toArray.size false) l)) = true) (h : SE P L Q S z cs l a w.drew) : (Code.region id L.toArray true).wp P Q a w := by
  simp only [Bool.and_eq_true,beq_iff_eq] at hc; have h5 := h _ hc.1 hc.2.2; rw [hc.2.1] at h5; exact AnyE.region S z hm h5
theorem se_op {i : Nat} {r : List Nat} {o : Oper} {v : Value} (hi : nthO L i = some o) (hm : cs.contains i = false) (hw : gst L a.tmps.toList o = true) (hS : S w) (hy : ∀ w,S w -> (execOp a.eval o).run P w = .ok (.value v) w) (h : SE P L Q S z cs r (a.put o.dst v) w) (hQ : ∀ c a w,Q (.panic c) (a.put o.dst v) w -> Q (.panic c) a w := by exact fun _ _ _ h => h) : SE P L Q S z cs (i :: r) a w := by
  intro listed hn hc; rw [<- gst_eq] at hw; simp only [chz,Bool.and_eq_true] at hc; obtain ⟨h1,h2⟩ := hc; rw [if_neg (by rw [hm]; simp),Bool.and_eq_true,Bool.and_eq_true] at h1; exact AnyE.take (nthO_at hi) hn h1.1 h1.2.1 h1.2.2 hQ (Or.inl ⟨hw,hy⟩) hS (h _ hn h2)
theorem se_do {i : Nat} {r : List Nat} {o : Oper} (hi : nthO L i = some o) (hm : cs.contains i = true) (hw : gst L a.tmps.toList o = true) (h : ∀ K' : Act -> World -> Prop,Shut (∀ a w,S w -> SE P L Q S z cs r a w -> K' a w) -> Oper.wp P o a w K' Q) : SE P L Q S z cs (i :: r) a w := by
  intro listed hn hc; rw [<- gst_eq] at hw; simp only [chz,Bool.and_eq_true] at hc; obtain ⟨h1,h2⟩ := hc; rw [if_pos hm,Bool.and_eq_true,beq_iff_eq] at h1; refine AnyE.one h1.1 (nthO_at hi) (fun K hK => ?_); rw [if_pos hw]; exact h K (fun a w hS hq => hK _ _ (fun _ => hS) (hq _ hn h2))
theorem se_last {i : Nat} {o : Oper} (hi : nthO L i = some o) (hm : cs.contains i = true) (hz : (i == z) = true) (hw : gst L a.tmps.toList o = true) (h : ∀ K' : Act -> World -> Prop,Shut (∀ a w,Q .normal a w -> K' a w) -> Oper.wp P o a w K' Q) : SE P L Q S z cs [i] a w := by
  intro listed hn hc; rw [<- gst_eq] at hw; simp only [chz,Bool.and_eq_true,List.isEmpty_iff] at hc; obtain ⟨h1,h2⟩ := hc; rw [if_pos hm,Bool.and_eq_true,beq_iff_eq] at h1; refine AnyE.one h1.1 (nthO_at hi) (fun K hK => ?_); rw [if_pos hw]; exact h K (fun a w hq => hK _ _ (fun e => absurd (by simpa using hz) e) (AnyE.done h2 hq _))
end
end Go.Proofs.YtkpapgfbnledpaaGreatDoor
