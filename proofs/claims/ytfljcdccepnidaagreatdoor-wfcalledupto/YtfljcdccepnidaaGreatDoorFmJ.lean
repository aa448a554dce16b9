import Derived.Test.YtfljcdccepnidaaGreatDoorSqA
import Derived.Laws.Rows
import Derived.Deep.AppendLies
import Derived.Lib.Walk
import Derived.Test.YtfljcdccepnidaaGreatDoorFmE
import Derived.RangeFuncNested
import Derived.RangeFuncBound
import Derived.RangeFuncCalls
import Derived.RangeFuncLeaves
import Derived.Sort.LoopGhostIn
import Derived.Shelf.Abstract
import Derived.OwnWalkIn
import Derived.TacticsInMore
import Derived.LoopIn
import Derived.WalkSmall
namespace Go.Proofs.YtfljcdccepnidaaGreatDoor.Lf
open Go.ChangeShapes Go.WideShapes Go.ChangeAt Go.RowKit Go.Bn Go.Lib

set_option maxHeartbeats 4000000 in
theorem lparts_any (base : Nat) (W : World) (ad : Option Addr) (n cap : Nat) (xs : List Value) (g o : Nat) (aS : Option Addr) (nS cS : Nat) (hO : W.ownsRow base 41 1 (.slice ad n cap) n xs) (hc : W.cell? ⟨g,o + 3,none⟩ = some (.slice aS nS cS)) (hn : n <= 100000000) (hb : base <= W.heap.size) :
    Calls Tryz.prog 106 #[.slice ad n cap,.pointer (some ⟨g,o,none⟩)] W fun e w' => ∃ ad' cap',e = .returned (.slice ad' (n + 1) cap') /\ w'.ownsRow base 41 1 (.slice ad' (n + 1) cap') (n + 1) (xs ++ [.slice aS nS cS]) /\ Below base W w' := by
  obtain ⟨i0,hi,hz0,hz1,hz2⟩ := info_parts (P := Tryz.prog) (e := 41) (z := .slice none 0 0) (size := 1) (bytes := 24) (by kernel_rfl); have HO : Hid (W.ownsRow base 41 1 (.slice ad n cap) n xs) := hO; have HA : Hid (Below base W (W.alloc (.cells #[.slice aS nS cS] 41))) := (Below.refl _ _).alloc hb _; clear hO
  go_enter Tryz.func106,Tryz.ntmps106
  go_wp2_with (at_builtin; refine wpList_append_lies _ rfl _ _ 155 rfl base 41 i0 (.slice none 0 0) 1 24 Tryz.underlying155 hi hz0 hz1 hz2 rfl (by omega) (.slice ad n cap) n xs rfl (HO.out.alloc _) ⟨W.heap.size,0,none⟩ 1 1 [.slice aS nS cS] rfl rfl (cell_one_new _ _ _) (by intro u hu; simp at hu; subst hu; rfl) (by omega) (by unfold maxLen; omega) (by omega) (by simp; omega) (W.heap.size + 1) (by simp) ?_; intro gg cap7 w7 hown7 hgrow hat hlt7; have HK7 : Hid (w7.ownsRow base 41 1 (.slice (some ⟨gg,0,none⟩) (n + 1) cap7) (n + 1) (xs ++ [.slice aS nS cS]) /\ (W.alloc (.cells #[.slice aS nS cS] 41)).grownBy w7 (Value.slice ad n cap).ownBlock) := ⟨hown7,hgrow⟩; clear hown7 hgrow hat hlt7)
  go_ret
  exact ⟨some ⟨gg,0,none⟩,cap7,rfl,HK7.out.1,HA.out.grown HK7.out.2 (by simp; omega) (fun i hi => (HO.out.lt i hi).1)⟩
end Go.Proofs.YtfljcdccepnidaaGreatDoor.Lf
namespace Go.Proofs.YtfljcdccepnidaaGreatDoor.Lf
open Go.ChangeShapes Go.WideShapes Go.ChangeAt Go.RowKit Go.Bn

section
variable {P : Program} {n : Nat} {α : Type}
def RPost (s : Nat) (G : Prop) (R : World -> Prop) (W : World) : Exit -> Act -> World -> Prop
  | .normal,_,W' => Below W.heap.size W W' /\ G
  | .ret,_,W' => R W' /\ W'.heap[s]? = W.heap[s]? /\ W'.heap[s + 1]? = W.heap[s + 1]?
  | _,_,_ => False
theorem put_below {s l : Nat} {w W : World} (h : Below s w W) (hl : s <= l) (o : Obj) : Below s w (W.putObj l o) :=
  ⟨h.os,h.tape,h.output,by have := h.size; simpa using this,fun k hk => (World.putObj_heap_other (by omega)).trans (h.block k hk)⟩
def ItAll (P : Program) (n : Nat) (gf : Nat) (lb : Array Value) (encs : α -> Array Value) (G : α -> Prop) (Fin : Prop) (w : World) : Prop :=
  ∀ (l : Nat) (Jx : α -> World -> Prop) (W1 : World),Below w.heap.size w W1 -> (∀ x W,Below W1.heap.size W1 W -> YieldAt Fence.wide (n - 1) P l (encs x) W fun e W' => (e = .returned (.bool true) /\ G x /\ Below W.heap.size W W') ∨ (e = .returned (.bool false) /\ Jx x W')) ->
    CallsIn Fence.wide n P gf (#[.func (.yield l) #[] #[]] ++ lb) W1 fun e W' => (∃ v,e = .returned v) /\ ((Below W1.heap.size W1 W' /\ Fin) ∨ ∃ x,Jx x W')
theorem range_all {g : Operand} {ps : Array Tmp} {assign body : Code} {Q : Exit -> Act -> World -> Prop} {a : Act} {w : World} (h1 : 1 <= n) {gf : Nat} {lb : Array Value} (hg : a.eval g = .func (.func gf) #[] lb) (eg : ∀ args w,(callFunc gf args).run P w = .ok (.enter gf args) w)
    {encs : α -> Array Value} (hps : ∀ x,(encs x).size = ps.size) {G : α -> Prop} {Fin : Prop} (hit : ItAll P (n - 1) gf lb encs G Fin w) (fr : α -> Act) (R : World -> Prop) (hR : ∀ W o,R W -> R (W.putObj (w.heap.size + 1) o))
    (hassign : ∀ (l : Nat) (x : α) (W : World) (K : Act -> World -> Prop),K (fr x) W -> assign.wpIn (Fence.wide.inRound l) (n - 1 - 1) P (Exit.then K (fun _ _ _ => False)) { tmps := (ps.zip (encs x)).foldl (fun t (p,v) => t.setIfInBounds p v) a.tmps,defers := [] } W)
    (hbody : ∀ (l : Nat) (x : α) (W : World),Below w.heap.size w W -> w.heap.size + 1 < W.heap.size -> (∃ o,W.heap[w.heap.size]? = some o /\ o.isCells = false) -> (∃ o,W.heap[w.heap.size + 1]? = some o /\ o.isCells = false) -> body.wpIn (Fence.wide.inRound l) (n - 1 - 1) P (RPost w.heap.size (G x) R W) (fr x) W)
    (hdone : ∀ (D : Nat) (W : World),w.heap.size <= D -> Fin -> Below w.heap.size w W -> W.heap[D]? = some (.deferred (some [])) -> Q .normal { a with defers := { target := .collected D,args := #[] } :: a.defers } W)
    (hstop : ∀ (D : Nat) (W : World),w.heap.size <= D -> R W -> W.heap[D]? = some (.deferred (some [])) -> Code.ret.wpIn Fence.wide n P Q { a with defers := { target := .collected D,args := #[] } :: a.defers } W) :
    (Code.rangeFunc g ps assign body).wpIn Fence.wide n P Q a w := by
  refine wpIn_rangeFunc ?_; intro fn hfn; obtain ⟨rc,hrc⟩ : ∃ rc : LoopState -> Option Code -> Loop,rc = fun st pe => { state := st,pending := pe,fn,tmps := a.tmps,params := ps,assign,body,defers := w.heap.size } := ⟨_,rfl⟩
  obtain ⟨W1,hW1⟩ : ∃ W1,(w.alloc (.deferred (some []))).alloc (.loop (rc .ready none)) = W1 := ⟨_,rfl⟩; have s1 : W1.heap.size = w.heap.size + 1 + 1 := by rw [<- hW1]; simp
  have l1 : W1.heap[w.heap.size + 1]? = some (.loop (rc .ready none)) := by
    rw [<- hW1]; have h9 := World.alloc_heap_new (w.alloc (.deferred (some []))) (.loop (rc .ready none))
    rwa [World.size_alloc] at h9
  have d1 : W1.heap[w.heap.size]? = some (.deferred (some [])) := by
    rw [<- hW1]; exact (Below.heap_alloc _ _ _ (by simp)).trans (World.alloc_heap_new w _)
  have b1 : Below w.heap.size w W1 := by
    rw [<- hW1]; exact ((Below.refl _ w).alloc (Nat.le_refl _) _).alloc (by simp) _
  refine ⟨w.heap.size + 1,[{ target := .collected w.heap.size,args := #[] }],W1,{ target := .fn (.func gf) lb,args := #[.func (.yield (w.heap.size + 1)) #[] #[]] },W1,gf,
    #[.func (.yield (w.heap.size + 1)) #[] #[]] ++ lb,W1,?_,?_,?_,?_,fun _ => h1,?_⟩
  · rw [<- hW1,hrc]; exact run_enterLoop_outer _ _ _ _ _
  · simp only [resolve,hg]
    simp [go_sem]
  · intro f' _; trivial
  · simp [invoke,go_sem,eg]
  refine (hit (w.heap.size + 1) (fun x W => R W /\ W.heap[w.heap.size + 1]? = some (.loop (rc .done (some .ret))) /\ W.heap[w.heap.size]? = some (.deferred (some []))) W1 b1 ?_).mono ?_
  · intro x W hW
    have hl : W.heap[w.heap.size + 1]? = some (.loop (rc .ready none)) := (hW.block _ (by omega)).trans l1; have hd : W.heap[w.heap.size]? = some (.deferred (some [])) := (hW.block _ (by omega)).trans d1; have hlt : w.heap.size + 1 < W.heap.size := (Array.getElem?_eq_some_iff.1 hl).1; have hbw : Below w.heap.size w W := bnext b1 hW; have hy := run_yield (P := P) (args := encs x) hl (by rw [hrc]; exact hps x); rw [hrc] at hy; refine ⟨fn,_,assign,body,hy,roundIn_of_wpIn hfn (hassign _ x W _ ?_)⟩; clear hy; refine ⟨_,run_beginRound hl (by rw [hrc]),?_⟩; have hl2 : (W.putObj (w.heap.size + 1) (.loop { rc .ready none with state := .busy })).heap[w.heap.size + 1]? = some (.loop { rc .ready none with state := .busy }) := World.putObj_heap_same hlt; have hd2 : (W.putObj (w.heap.size + 1) (.loop { rc .ready none with state := .busy })).heap[w.heap.size]? = some (.deferred (some [])) := (World.putObj_heap_other (by omega)).trans hd; refine wpIn_mono (hbody _ x _ (put_below hbw (by omega) _) (by simpa using hlt) ⟨_,hd2,rfl⟩ ⟨_,hl2,rfl⟩) ?_; rintro e a3 W3 hp; cases e with
    | normal =>
      obtain ⟨hb3,hg3⟩ := hp; have hl3 : W3.heap[w.heap.size + 1]? = some (.loop { rc .ready none with state := .busy }) := (hb3.block _ (by simpa using hlt)).trans hl2; have hr := run_endRound (P := P) none hl3; refine ⟨_,_,hr,.inl ⟨rfl,hg3,?_⟩⟩; refine ⟨hb3.os,hb3.tape,hb3.output,by have h9 := hb3.size; simpa using h9,fun k hk => ?_⟩
      by_cases e9 : k = w.heap.size + 1
      · rw [e9,World.putObj_heap_same (Array.getElem?_eq_some_iff.1 hl3).1,hl,hrc]
        rfl
      exact (World.putObj_heap_other e9).trans ((hb3.block k (by simpa using hk)).trans (World.putObj_heap_other e9))
    | ret =>
      obtain ⟨hr3,k0,k1⟩ := hp; have hl3 : W3.heap[w.heap.size + 1]? = some (.loop { rc .ready none with state := .busy }) := k1.trans hl2; have hr := run_endRound (P := P) (some .ret) hl3; refine ⟨_,_,hr,.inr ⟨rfl,hR _ _ hr3,?_,?_⟩⟩
      · rw [World.putObj_heap_same (Array.getElem?_eq_some_iff.1 hl3).1,hrc]
        rfl
      exact (World.putObj_heap_other (by omega)).trans (k0.trans hd2)
    | _ => exact hp.elim
  rintro e W2 ⟨⟨v,rfl⟩,(⟨hb2,hf⟩ | ⟨x,hr2,hl2,hd2⟩)⟩
  · have hl : W2.heap[w.heap.size + 1]? = some (.loop (rc .ready none)) := (hb2.block _ (by omega)).trans l1
    have hd : W2.heap[w.heap.size]? = some (.deferred (some [])) := (hb2.block _ (by omega)).trans d1; exact ⟨none,_,by have h9 := run_endLoop (P := P) hl (by rw [hrc]; simp); rw [hrc] at h9; exact h9,hdone _ _ (Nat.le_refl _) hf (put_below (bnext b1 hb2) (by omega) _) ((World.putObj_heap_other (by omega)).trans hd)⟩
  exact ⟨some .ret,_,by have h9 := run_endLoop (P := P) hl2 (by rw [hrc]; simp); rw [hrc] at h9; exact h9,hstop _ _ (Nat.le_refl _) (hR _ _ hr2) ((World.putObj_heap_other (by omega)).trans hd2)⟩
end
end Go.Proofs.YtfljcdccepnidaaGreatDoor.Lf
namespace Go.Proofs.YtfljcdccepnidaaGreatDoor.Lf
open Go.ChangeShapes Go.WideShapes Go.ChangeAt Go.RowKit Go.Bn

def CS (w : World) : Nat -> Value -> Nat
  | 0,_ => 0
  | m + 1,.slice (some ⟨b,o,_⟩) len _ => ((List.range len).map fun j => 1 + CS w m ((w.cell? ⟨b,o + j * 4 + 3,none⟩).getD undef)).sum
  | _ + 1,_ => 0
def wtE (w : World) (E : List (Value × Nat)) : Nat := (E.map fun p => 1 + CS w p.2 p.1).sum
theorem wtE_app (w : World) (A B : List (Value × Nat)) : wtE w (A ++ B) = wtE w A + wtE w B := by simp [wtE]
theorem wtE_len (w : World) (E : List (Value × Nat)) : E.length <= wtE w E := by
  induction E with
  | nil => simp
  | cons p E ih => simp only [wtE,List.map_cons,List.sum_cons,List.length_cons] at *; omega
structure LI (w : World) (FA : Prop) (E : List (Value × Nat)) : Prop where
  tr : ∀ p ∈ E,SX w (EX w p.2) p.1
  iff : FA ↔ ∀ p ∈ E,SF w (FE w p.2) p.1
structure LJ (w : World) (FA : Prop) (E : List (Value × Nat)) (ad : Option Addr) (len m j : Nat) : Prop where
  tr : ∀ p ∈ E,SX w (EX w p.2) p.1
  iff : FA ↔ (∀ p ∈ E,SF w (FE w p.2) p.1) /\ ∀ i,j <= i -> i < len -> KO w (FE w m) ad i
theorem LI.pop {w : World} {FA : Prop} {E : List (Value × Nat)} {ad : Option Addr} {len cap m : Nat} (h : LI w FA (E ++ [(.slice ad len cap,m)])) : LJ w FA E ad len m 0 /\ SX w (EX w m) (.slice ad len cap) := by
  refine ⟨⟨fun p hp => h.tr p (List.mem_append_left _ hp),h.iff.trans ⟨fun h2 => ⟨fun p hp => h2 p (List.mem_append_left _ hp),fun i _ hi => SF_iff.1 (h2 (.slice ad len cap,m) (List.mem_append_right _ (List.mem_singleton.2 rfl))) i hi⟩,fun h2 p hp => ?_⟩⟩,h.tr (.slice ad len cap,m) (List.mem_append_right _ (List.mem_singleton.2 rfl))⟩
  rcases List.mem_append.1 hp with h3 | h3
  · exact h2.1 p h3
  rw [List.mem_singleton.1 h3]; exact SF_iff.2 fun i hi => h2.2 i (Nat.zero_le _) hi
theorem LJ.done {w : World} {FA : Prop} {E : List (Value × Nat)} {ad : Option Addr} {len m : Nat} (h : LJ w FA E ad len m len) : LI w FA E := ⟨h.tr,h.iff.trans ⟨fun h2 => h2.1,fun h2 => ⟨h2,fun i h3 h4 => absurd h3 (by omega)⟩⟩⟩
theorem LJ.step {w : World} {FA : Prop} {E : List (Value × Nat)} {b o len m j : Nat} {k x : Int} {s : ByteArray} {sl : Value} (h : LJ w FA E (some ⟨b,o,none⟩) len (m + 1) j) (hj : j < len)
    (h0 : w.cell? ⟨b,o + j * 4,none⟩ = some (.int .i64 k)) (h1 : w.cell? ⟨b,o + j * 4 + 1,none⟩ = some (.int .u64 x)) (h2 : w.cell? ⟨b,o + j * 4 + 2,none⟩ = some (.string s)) (h3 : w.cell? ⟨b,o + j * 4 + 3,none⟩ = some sl) (hs : SX w (EX w m) sl) (hok : okE k x s sl) : LJ w FA (E ++ [(sl,m)]) (some ⟨b,o,none⟩) len (m + 1) (j + 1) := by
  have hk : KO w (FE w (m + 1)) (some ⟨b,o,none⟩) j ↔ SF w (FE w m) sl := (KO_at h0 h1 h2 h3).trans (FE_succ.trans ⟨fun h => h.2,fun h => ⟨hok,h⟩⟩); refine ⟨fun p hp => ?_,h.iff.trans ⟨fun h4 => ⟨fun p hp => ?_,fun i hi hl => h4.2 i (by omega) hl⟩,fun h4 => ⟨fun p hp => h4.1 p (List.mem_append_left _ hp),fun i hi hl => ?_⟩⟩⟩
  · rcases List.mem_append.1 hp with h5 | h5
    · exact h.tr p h5
    rw [List.mem_singleton.1 h5]; exact hs
  · rcases List.mem_append.1 hp with h5 | h5
    · exact h4.1 p h5
    rw [List.mem_singleton.1 h5]; exact hk.1 (h4.2 j (Nat.le_refl _) hj)
  by_cases e : i = j
  · subst e
    exact hk.2 (h4.1 (sl,m) (List.mem_append_right _ (List.mem_singleton.2 rfl)))
  exact h4.2 i (by omega) hl
theorem LJ.next {w : World} {FA : Prop} {E : List (Value × Nat)} {b o len m j : Nat} {k x : Int} {s : ByteArray} {sl : Value} (h : LJ w FA E (some ⟨b,o,none⟩) len (m + 1) j) (hj : j < len)
    (h0 : w.cell? ⟨b,o + j * 4,none⟩ = some (.int .i64 k)) (h1 : w.cell? ⟨b,o + j * 4 + 1,none⟩ = some (.int .u64 x)) (h2 : w.cell? ⟨b,o + j * 4 + 2,none⟩ = some (.string s)) (h3 : w.cell? ⟨b,o + j * 4 + 3,none⟩ = some sl) (hf : FA) : okE k x s sl :=
  (FE_succ.1 ((KO_at h0 h1 h2 h3).1 ((h.iff.1 hf).2 j (Nat.le_refl _) hj))).1
theorem CS_step {w : World} {m b o len cap : Nat} : CS w (m + 1) (.slice (some ⟨b,o,none⟩) len cap) = ((List.range len).map fun j => 1 + CS w m ((w.cell? ⟨b,o + j * 4 + 3,none⟩).getD undef)).sum := rfl
theorem sum_take {f : Nat -> Nat} {j len : Nat} (h : j <= len) : ((List.range j).map f).sum <= ((List.range len).map f).sum := by
  induction len with
  | zero => have e : j = 0 := by omega
            subst e; exact Nat.le_refl _
  | succ n ih =>
    by_cases e : j = n + 1
    · subst e; exact Nat.le_refl _
    rw [List.range_succ,List.map_append,List.sum_append]; have := ih (by omega)
    omega
abbrev NX (w : World) (FA : Prop) := { p : (Nat × Nat) × (Int × Int × ByteArray × Value) // p.1.1 < w.heap.size /\ w.cell? ⟨p.1.1,p.1.2,none⟩ = some (.int .i64 p.2.1) /\ w.cell? ⟨p.1.1,p.1.2 + 1,none⟩ = some (.int .u64 p.2.2.1) /\ w.cell? ⟨p.1.1,p.1.2 + 2,none⟩ = some (.string p.2.2.2.1) /\ w.cell? ⟨p.1.1,p.1.2 + 3,none⟩ = some p.2.2.2.2 /\ p.2.2.2.1.size <= maxLen /\ (∃ ad len cap,p.2.2.2.2 = .slice ad len cap) /\ (FA -> okE p.2.1 p.2.2.1 p.2.2.2.1 p.2.2.2.2) }
def encN {w : World} {FA : Prop} (x : NX w FA) : Array Value := #[.pointer (some ⟨x.1.1.1,x.1.1.2,none⟩)]
def goodN {w : World} {FA : Prop} (x : NX w FA) : Prop := okE x.1.2.1 x.1.2.2.1 x.1.2.2.2.1 x.1.2.2.2.2
end Go.Proofs.YtfljcdccepnidaaGreatDoor.Lf
namespace Go.Proofs.YtfljcdccepnidaaGreatDoor.Lf
open Go.ChangeShapes Go.WideShapes Go.ChangeAt Go.RowKit Go.Bn Go.Shelf
attribute [local go_sem] Oper.semAt_some

theorem own_last {w : World} {base k : Nat} {e : TypeId} {v x : Value} {xs : List Value} (hx : xs.length = k) (h : w.ownsRow base e 1 v (k + 1) (xs ++ [x])) : ∃ g cap,v = .slice (some ⟨g,0,none⟩) (k + 1) cap /\ w.cell? ⟨g,k,none⟩ = some x /\ k + 1 <= cap /\ base <= g := by
  rcases h.2 with ⟨_,h0⟩ | ⟨g,cap,cur,hv,hg,hh,hn,hcap,hsz,htake⟩
  · omega
  refine ⟨g,cap,hv,?_,hn,hg⟩; have h9 : (cur.toList.take ((k + 1) * 1))[k]? = some x := by
    rw [htake,List.getElem?_append_right (by omega),hx,Nat.sub_self]
    rfl
  rw [List.getElem?_take,if_pos (by omega),Array.getElem?_toList] at h9; rw [lc hh]; exact h9
theorem own_keep {w w' : World} {base n : Nat} {e : TypeId} {v : Value} {xs : List Value} (h : w.ownsRow base e 1 v n xs) (hb : Below w.heap.size w w') : w'.ownsRow base e 1 v n xs := by
  refine ⟨h.1,?_⟩
  rcases h.2 with h0 | ⟨g,cap,cur,hv,hg,hh,h3⟩
  · exact Or.inl h0
  exact Or.inr ⟨g,cap,cur,hv,hg,(hb.block g (Array.getElem?_eq_some_iff.1 hh).1).trans hh,h3⟩
def pw (w : World) (m : Nat) : Option Addr -> Nat -> Nat
  | some ⟨b,o,_⟩,j => ((List.range j).map fun i => 1 + CS w (m - 1) ((w.cell? ⟨b,o + i * 4 + 3,none⟩).getD undef)).sum
  | none,_ => 0
theorem pw_zero (w : World) (m : Nat) (a : Option Addr) : pw w m a 0 = 0 := by
  cases a <;> rfl
theorem pw_succ {w : World} {m b o j : Nat} {sl : Value} (h : w.cell? ⟨b,o + j * 4 + 3,none⟩ = some sl) : pw w (m + 1) (some ⟨b,o,none⟩) (j + 1) = pw w (m + 1) (some ⟨b,o,none⟩) j + (1 + CS w m sl) := by
  show ((List.range (j + 1)).map _).sum = _
  rw [List.range_succ,List.map_append,List.sum_append]
  simp [pw,h]
theorem pw_mono {w : World} {m j len : Nat} {a : Option Addr} (h : j <= len) : pw w m a j <= pw w m a len := by
  cases a with
  | none => exact Nat.le_refl _
  | some a => exact sum_take h
theorem pw_all {w : World} {m len c : Nat} {a : Option Addr} (h : 0 < len -> 0 < m /\ ∃ b o,a = some ⟨b,o,none⟩) : pw w m a len <= CS w m (.slice a len c) := by
  by_cases h0 : 0 < len
  · obtain ⟨hm,b,o,rfl⟩ := h h0
    obtain ⟨m',rfl⟩ : ∃ m',m = m' + 1 := ⟨m - 1,by omega⟩; exact Nat.le_refl _
  have e : len = 0 := by omega
  subst e; rw [pw_zero]; exact Nat.zero_le _
theorem own_drew {w : World} {base n : Nat} {e : TypeId} {v : Value} {xs : List Value} (h : w.ownsRow base e 1 v n xs) : w.drew.ownsRow base e 1 v n xs := h
set_option maxRecDepth 100000 in
set_option maxHeartbeats 8000000 in
theorem allE_it (n : Nat) (hn : 1 <= n) (w : World) (FA : Prop) (Bl Bw : Nat) (aR : Option Addr) (nR cR mR : Nat) (hl : w.cell? ⟨Bl,0,none⟩ = some (.slice aR nR cR)) (hw : w.cell? ⟨Bw,0,none⟩ = some (.func (.func 106) #[] #[])) (hBl : Bl < w.heap.size) (hBw : Bw < w.heap.size)
    (h0 : LI w FA [(.slice aR nR cR,mR)]) (hM : wtE w [(.slice aR nR cR,mR)] <= 50000000) :
    ItAll Tryz.prog n 107 #[.pointer (some ⟨Bl,0,none⟩),.pointer (some ⟨Bw,0,none⟩)] (encN (w := w) (FA := FA)) goodN FA w := by
  intro l Jx W1 hW1 hY; have HY : Hid (∀ (x : NX w FA) W,Below W1.heap.size W1 W -> YieldAt Fence.wide (n - 1) Tryz.prog l (encN x) W fun e W' => (e = .returned (.bool true) /\ goodN x /\ Below W.heap.size W W') ∨ (e = .returned (.bool false) /\ Jx x W')) := hY; have HB1 : Hid (Below w.heap.size w W1) := hW1; have c1 : W1.cell? ⟨Bl,0,none⟩ = some (.slice aR nR cR) := (hW1.cell (p := ⟨Bl,0,none⟩) hBl).trans hl; have H0 : Hid (LI w FA [(.slice aR nR cR,mR)]) := h0; clear hY hW1 h0; refine callsIn_of_wp Tryz.func107 rfl trivial ?_ rfl
  show Code.wpIn _ _ _ _ _ { tmps := #[.func (.yield l) #[] #[],.pointer (some ⟨Bl,0,none⟩),.pointer (some ⟨Bw,0,none⟩)] ++ _,defers := _ } _
  simp only [Tryz.ntmps107,List.size_toArray,List.length_cons,List.length_nil,Nat.reduceAdd,Nat.reduceSub,Array.replicate_succ,Array.replicate_zero,List.push_toArray,List.append_toArray,List.nil_append,List.cons_append]
  gi_wp2
  have e0 : (W1.alloc (.cells #[.slice aR nR cR] 41)).ownsRow W1.heap.size 41 1 (.slice (some ⟨W1.heap.size,0,none⟩) 1 1) 1 [.slice aR nR cR] := ⟨rfl,.inr ⟨_,1,#[.slice aR nR cR],rfl,Nat.le_refl _,heap_alloc_new _ _,by omega,by unfold maxLen; omega,rfl,rfl⟩⟩; have HS0 : Hid ((W1.alloc (.cells #[.slice aR nR cR] 41)).ownsRow W1.heap.size 41 1 (.slice (some ⟨W1.heap.size,0,none⟩) 1 1) 1 [.slice aR nR cR] /\ Below W1.heap.size W1 (W1.alloc (.cells #[.slice aR nR cR] 41))) := ⟨e0,lbel _ _⟩; clear e0 c1
  gi_loopg [4] (wtE w [(.slice aR nR cR,mR)]) (fun gk v4 wr => ∃ ad q cap,∃ E : List (Value × Nat),v4 = .slice ad q cap /\ E.length = q /\ wtE w E <= gk /\ gk <= 50000000 /\ Aside (wr.ownsRow W1.heap.size 41 1 (.slice ad q cap) q (E.map Prod.fst) /\ Below W1.heap.size W1 wr /\ LI w FA E))
  case atStart => exact ⟨some ⟨W1.heap.size,0,none⟩,1,1,[(.slice aR nR cR,mR)],rfl,rfl,Nat.le_refl _,hM,⟨HS0.out.1,HS0.out.2,H0.out⟩⟩
  case round =>
    clear HS0 H0; obtain ⟨ad,q,cap,E,rfl,hq,hwt,hgk,HR⟩ := hrel
    rcases List.eq_nil_or_concat E with rfl | ⟨E0,p,rfl⟩
    · obtain rfl : q = 0 := by simpa using hq.symm
      have HF : Hid (Below W1.heap.size W1 wr /\ FA) := ⟨HR.out.2.1,HR.out.2.2.iff.2 (fun p hp => absurd hp (by simp))⟩; clear HR
      gi_wp2
      go_end0
      exact ⟨⟨_,rfl⟩,.inl HF.out⟩
    obtain ⟨v,m⟩ := p; rw [List.concat_eq_append] at hq hwt HR; obtain ⟨a2,len,c2,rfl,hlen,hsx⟩ := HR.out.2.2.tr (v,m) (List.mem_append_right _ (List.mem_singleton.2 rfl)); have HSX : Hid (0 < len -> ∃ b o,a2 = some ⟨b,o,none⟩ /\ b < w.heap.size /\ ∀ j,j < len -> ∃ v0 v1 v2 v3,w.cell? ⟨b,o + j * 4,none⟩ = some v0 /\ w.cell? ⟨b,o + j * 4 + 1,none⟩ = some v1 /\ w.cell? ⟨b,o + j * 4 + 2,none⟩ = some v2 /\ w.cell? ⟨b,o + j * 4 + 3,none⟩ = some v3 /\ EX w m [v0,v1,v2,v3]) := hsx; clear hsx; obtain ⟨k,hk⟩ : ∃ k,E0.length = k := ⟨_,rfl⟩; obtain rfl : q = k + 1 := by rw [<- hq,<- hk]; simp
    have hro := HR.out.1; rw [List.map_append] at hro; obtain ⟨g,cap',e9,cg,hkc,hgB⟩ := own_last (by rw [List.length_map]; exact hk) hro; cases e9; have HL0 : Hid (wr.ownsRow W1.heap.size 41 1 (.slice (some ⟨g,0,none⟩) k cap) k (E0.map Prod.fst) /\ Below W1.heap.size W1 wr /\ LJ w FA E0 a2 len m 0) := ⟨ownsRow_pop (by rw [List.length_map,hk]; omega) hro,HR.out.2.1,HR.out.2.2.pop.1⟩; have hwt2 : wtE w E0 + (1 + CS w m (.slice a2 len c2)) <= gk := by rw [wtE_app] at hwt; simpa [wtE] using hwt
    have hkl : k <= wtE w E0 := by rw [<- hk]; exact wtE_len w E0
    clear HR hro hwt hq; have t1 : (0 : Int) < ((k + 1 : Nat) : Int) := by omega
    have t2 : IntKind.i64.wrap (((k + 1 : Nat) : Int) - 1) = (k : Int) := by rw [IntKind.wrap_i64]; omega
    have t3 : (k : Int) < ((k + 1 : Nat) : Int) := by omega
    have t4 : (k : Int) <= (cap : Int) := by omega
    have t5 : (0 : Int) <= (k : Int) := by omega
    have hpw : pw w m a2 len <= CS w m (.slice a2 len c2) := pw_all (fun h => by
      obtain ⟨b,o,e,_,hh⟩ := HSX.out h; obtain ⟨v0,v1,v2,v3,_,_,_,_,hex⟩ := hh 0 h; refine ⟨?_,b,o,e⟩; cases m with
      | zero => exact hex.elim
      | succ m => omega)
    have hcw : ∀ X,Below W1.heap.size W1 X -> X.cell? ⟨Bw,0,none⟩ = some (.func (.func 106) #[] #[]) /\ W1.heap.size <= X.heap.size := fun X hX => ⟨((bnext HB1.out hX).cell (p := ⟨Bw,0,none⟩) hBw).trans hw,hX.size⟩
    have HCw : Hid (∀ X,Below W1.heap.size W1 X -> X.cell? ⟨Bw,0,none⟩ = some (.func (.func 106) #[] #[]) /\ W1.heap.size <= X.heap.size) := hcw; clear hcw
    gi_wp2_with fail
    obtain ⟨g0,hg0⟩ : ∃ g0,g0 = gk := ⟨_,rfl⟩; subst hg0; clear cg
    gi_loopg [4,25] len (fun g2 v4 v25 wx => ∃ ad q cap,∃ E : List (Value × Nat),∃ j : Nat,v4 = .slice ad q cap /\ v25 = .int .i64 (j : Int) /\ j + g2 = len /\ E.length = q /\ wtE w E = wtE w E0 + pw w m a2 j /\ Aside (wx.ownsRow W1.heap.size 41 1 (.slice ad q cap) q (E.map Prod.fst) /\ Below W1.heap.size W1 wx /\ LJ w FA E a2 len m j))
    case atStart => exact ⟨_,k,cap,E0,0,rfl,rfl,by omega,hk,by rw [pw_zero]; rfl,HL0.out⟩
    case round =>
      clear HL0; obtain ⟨ad5,q5,cap5,E5,j,rfl,rfl,hj,hq5,hw5,HR5⟩ := hrel; have HR : Hid (wr.ownsRow W1.heap.size 41 1 (.slice ad5 q5 cap5) q5 (E5.map Prod.fst) /\ Below W1.heap.size W1 wr /\ LJ w FA E5 a2 len m j) := HR5.out; clear HR5
      by_cases hlt : j < len
      · have q1 : (j : Int) < (len : Int) := by omega
        have q2 : (0 : Int) <= (j : Int) := by omega
        obtain ⟨b,o,rfl,hb,hel⟩ := HSX.out (by omega); obtain ⟨v0,v1,v2,v3,h0,h1,h2,h3,hex⟩ := hel j hlt; cases m with
        | zero => exact hex.elim
        | succ m =>
          obtain ⟨kk,x,s,sl,e4,hs,hsl⟩ := hex; cases e4; have hsl2 := hsl; obtain ⟨aS,nS,cS,rfl,hnS,_⟩ := hsl; obtain ⟨X,hX⟩ : ∃ X : NX w FA,X.1 = ((b,o + j * 4),(kk,x,s,.slice aS nS cS)) := ⟨⟨((b,o + j * 4),(kk,x,s,.slice aS nS cS)),hb,h0,h1,h2,h3,hs,⟨aS,nS,cS,rfl⟩,fun hf => HR.out.2.2.next hlt h0 h1 h2 h3 hf⟩,rfl⟩; have HG : Hid (goodN X -> LJ w FA (E5 ++ [(.slice aS nS cS,m)]) (some ⟨b,o,none⟩) len (m + 1) (j + 1)) := fun hg => HR.out.2.2.step hlt h0 h1 h2 h3 hsl2 (by unfold goodN at hg; rw [hX] at hg; exact hg)
          have hw6 : wtE w (E5 ++ [(.slice aS nS cS,m)]) = wtE w E0 + pw w (m + 1) (some ⟨b,o,none⟩) (j + 1) := by rw [wtE_app,hw5,pw_succ h3]; simp [wtE]; omega
          have hq6 : q5 <= 50000000 := by
            have h7 := wtE_len w E5; have h8 := pw_mono (w := w) (m := m + 1) (a := some ⟨b,o,none⟩) (Nat.le_of_lt hlt)
            omega
          obtain ⟨fn,tmps,assign,body,hy,hRd⟩ := HY.out X wr HR.out.2.1; have HRd : Hid (RoundIn Fence.wide (n - 1) Tryz.prog l fn tmps assign body wr fun e W' => (e = .returned (.bool true) /\ goodN X /\ Below wr.heap.size wr W') ∨ (e = .returned (.bool false) /\ Jx X W')) := hRd; unfold encN at hy; rw [hX] at hy; have c3w : Hid (b < w.heap.size /\ w.cell? ⟨b,o + j * 4 + 3,none⟩ = some (.slice aS nS cS)) := ⟨hb,h3⟩; clear hel h0 h1 h2 h3 hb hsl2 hRd hw5 hs hX
          gi_wp2
          refine HRd.out.mono ?_; rintro e W3 (⟨rfl,hg3,hb3⟩ | ⟨rfl,hj3⟩)
          · have HR3 : Hid (W3.ownsRow W1.heap.size 41 1 (.slice ad5 q5 cap5) q5 (E5.map Prod.fst) /\ Below W1.heap.size W1 W3 /\ LJ w FA (E5 ++ [(.slice aS nS cS,m)]) (some ⟨b,o,none⟩) len (m + 1) (j + 1)) := ⟨own_keep HR.out.1 hb3,bnext HR.out.2.1 hb3,HG.out hg3⟩
            clear hg3 hb3 HR HG HRd hy; have hB3 : Below W1.heap.size W1 W3.drew := ⟨HR3.out.2.1.os,HR3.out.2.1.tape,HR3.out.2.1.output,HR3.out.2.1.size,HR3.out.2.1.block⟩; have HPt : Hid (Calls Tryz.prog 106 #[.slice ad5 q5 cap5,.pointer (some ⟨b,o + j * 4,none⟩)] W3.drew fun e w' => ∃ ad' cap',e = .returned (.slice ad' (q5 + 1) cap') /\ w'.ownsRow W1.heap.size 41 1 (.slice ad' (q5 + 1) cap') (q5 + 1) (E5.map Prod.fst ++ [.slice aS nS cS]) /\ Below W1.heap.size W3.drew w') :=
              lparts_any W1.heap.size W3.drew ad5 q5 cap5 (E5.map Prod.fst) b (o + j * 4) aS nS cS (own_drew HR3.out.1) (((bnext HB1.out hB3).cell (p := ⟨b,o + j * 4 + 3,none⟩) c3w.out.1).trans c3w.out.2) (by omega) hB3.size
            have HB3 : Hid (Below W1.heap.size W1 W3.drew) := hB3; have hcw := HCw.out W3.drew hB3; clear hB3
            gi_wp2_with fail
            refine wpIn_wide.2 ?_; refine wp_region_held_drew (S := (fun X => X.cell? ⟨Bw,0,none⟩ = some (.func (.func 106) #[] #[]) /\ W1.heap.size <= X.heap.size)) (by kernel_rfl) hcw (fun hHeld => ?_); clear hcw; refine sq_of [5] [0,1,2,3,4,5,6] (by kernel_rfl) hHeld ?_
            repeat (first | (refine sq_skip (by rfl) (by rfl) ?_; simp only [Act.put,z0,z1,z2]) | (refine sq_op (v := ?_) (by rfl) (by rfl) (by rfl) ?_ ?_; rotate_left; (focus (intro w hSw; (try dsimp only at hSw); go_simp <;> with_reducible rfl)); simp only [Act.put,z0,z1,z2]))
            refine sq_do (by rfl) (by rfl) (by rfl) (fun K hK => ?_)
            go_simp
            go_at_call 106; refine HPt.out.mono ?_; rintro e w9 ⟨ad9,cap9,rfl,hown9,hb9⟩
            have HN9 : Hid (w9.ownsRow W1.heap.size 41 1 (.slice ad9 (q5 + 1) cap9) (q5 + 1) (E5.map Prod.fst ++ [.slice aS nS cS]) /\ Below W1.heap.size W3.drew w9) := ⟨hown9,hb9⟩; have hs9 := HCw.out w9 ⟨hb9.os.trans HB3.out.os,hb9.tape.trans HB3.out.tape,hb9.output.trans HB3.out.output,Nat.le_trans HB3.out.size hb9.size,fun k9 hk9 => (hb9.block k9 hk9).trans (HB3.out.block k9 hk9)⟩; refine hK.out _ _ hs9 (fun _ => ?_); clear hK K hs9
            try simp only [Act.put,z0,z1,z2]
            repeat (first | (refine sq_skip (by rfl) (by rfl) ?_; simp only [Act.put,z0,z1,z2]) | (refine sq_op (v := ?_) (by rfl) (by rfl) (by rfl) ?_ ?_; rotate_left; (focus (intro w hSw; (try dsimp only at hSw); go_simp <;> with_reducible rfl)); simp only [Act.put,z0,z1,z2]))
            refine sq_end (fun _ => ?_); have HZ : Aside (w9.ownsRow W1.heap.size 41 1 (.slice ad9 (q5 + 1) cap9) (q5 + 1) ((E5 ++ [(Value.slice aS nS cS,m)]).map Prod.fst) /\ Below W1.heap.size W1 w9 /\ LJ w FA (E5 ++ [(.slice aS nS cS,m)]) (some ⟨b,o,none⟩) len (m + 1) (j + 1)) := ⟨by rw [List.map_append]; exact HN9.out.1,HB3.out.trans HN9.out.2,HR3.out.2.2⟩; clear HN9 HR3 HB3 HPt hHeld
            gi_wp2_with fail
            go_roundg (gk - 1)
            case measure => omega
            case rel => exact ⟨ad9,q5 + 1,cap9,E5 ++ [(.slice aS nS cS,m)],j + 1,rfl,by simp,by omega,by simp [hq5],hw6,HZ⟩
          gi_wp2
          refine bodyPost_ret (results_none rfl _ _ _) rfl ?_; exact ⟨⟨_,rfl⟩,.inr ⟨X,hj3⟩⟩
      obtain rfl : j = len := by omega
      have q1 : ¬ (j : Int) < (j : Int) := by omega
      have HE : Aside (wr.ownsRow W1.heap.size 41 1 (.slice ad5 q5 cap5) q5 (E5.map Prod.fst) /\ Below W1.heap.size W1 wr /\ LI w FA E5) := ⟨HR.out.1,HR.out.2.1,HR.out.2.2.done⟩; clear HR
      gi_wp2_with fail
      go_roundg (g0 - 1)
      case measure => omega
      case rel => exact ⟨ad5,q5,cap5,E5,rfl,hq5,by omega,by omega,HE⟩
end Go.Proofs.YtfljcdccepnidaaGreatDoor.Lf
