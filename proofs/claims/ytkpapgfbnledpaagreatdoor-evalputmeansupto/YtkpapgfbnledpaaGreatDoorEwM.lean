import Derived.Test.YtkpapgfbnledpaaGreatDoorGyW
import Derived.Test.YtkpapgfbnledpaaGreatDoorEwL
set_option maxHeartbeats 8000000
set_option maxRecDepth 100000
namespace Go.Proofs.YtkpapgfbnledpaaGreatDoor.GP
open Go.Proofs.YtkpapgfbnledpaaGreatDoor
open Go.Proofs.YtkpapgfbnledpaaGreatDoor.G2 (V9 VK UNQ)
open Go.Proofs.YtkpapgfbnledpaaGreatDoor.G3 (STO)
open Go.ChangeShapes Go.WideShapes Go.ChangeAt Go.RowKit Go.Lib Go.Tm Go.Bw Go.Bn Go.WideMaps Go.Maps Go.ChangeMaps Go.Shelf

def RTY (W : World) (ad : Option Addr) (n : Nat) (t : TypeId) : Prop := ∀ b o,ad = some ⟨b,o,none⟩ -> 0 < n -> ∃ cs fr,W.heap[b]? = some (.cells cs t fr)
theorem RTY.below {W W' : World} {ad : Option Addr} {n : Nat} {t : TypeId} (h : RTY W ad n t) (hb : Below W.heap.size W W') : RTY W' ad n t := fun b o e h0 => by
  obtain ⟨cs,fr,hc⟩ := h b o e h0; exact ⟨cs,fr,(hb.block b (Array.getElem?_eq_some_iff.1 hc).1).trans hc⟩
theorem ir_kp {ty : TypeId} {w W : World} {B0 B : Nat} {lim : Int} {L : List Nd} {v : Value} {M1 M2 : Option Nat} {ad : Option Addr} {rs : List Int} (hS : SM ty w B0 B lim L v M1 M2) (ht : 3 ≠ ty) (h : IR w ad rs) (hr : RTY w ad rs.length 3) (hk : Kp w W B v M1 M2) : IR W ad rs /\ RTY W ad rs.length 3 := by
  have key : ∀ b o,ad = some ⟨b,o,none⟩ -> 0 < rs.length -> W.heap[b]? = w.heap[b]? := fun b o e h0 => by
    obtain ⟨cs,fr,hc⟩ := hr b o e h0; exact hk.block b (Array.getElem?_eq_some_iff.1 hc).1 (hS.not hc ht (by decide))
  constructor
  · intro h0
    obtain ⟨b,o,e,hl,hc⟩ := h h0; have h1 := key b o e h0; exact ⟨b,o,e,Nat.lt_of_lt_of_le hl hk.size,fun j hj => (World.cell?_of_block (a := ⟨b,o + j,none⟩) h1).trans (hc j hj)⟩
  intro b o e h0; obtain ⟨cs,fr,hc⟩ := hr b o e h0; exact ⟨cs,fr,(key b o e h0).trans hc⟩
structure PS (w2 W5 : World) (B0 B : Nat) (v1 : Value) (M1 M2 : Option Nat) (aR : Option Addr) (rs : List Int) (Lc : List Nd) (W : World) : Prop where
  size : W5.heap.size <= W.heap.size
  kept : ∀ k,w2.heap.size <= k -> k < W5.heap.size -> W.heap[k]? = W5.heap[k]?
  low : ∀ k,k < B0 -> W.heap[k]? = W5.heap[k]?
  io : W.os = W5.os /\ W.tape = W5.tape /\ W.output = W5.output
  ir : IR W aR rs
  rt : RTY W aR rs.length 3
  b0 : B0 <= W.heap.size
  sm : ∃ v',SM 78 W B0 B 0 Lc v' M1 M2 /\ ∀ k,Own B v' M1 M2 k -> Own B v1 M1 M2 k ∨ W5.heap.size <= k
section
variable {w2 W5 : World} {B0 B : Nat} {v1 : Value} {M1 M2 : Option Nat} {aR : Option Addr} {rs : List Int} {Lc : List Nd} {W : World}
theorem PS.below (h : PS w2 W5 B0 B v1 M1 M2 aR rs Lc W) {W' : World} (hb : Below W.heap.size W W') : PS w2 W5 B0 B v1 M1 M2 aR rs Lc W' := by
  have hs := hb.size; obtain ⟨v',h1,h2⟩ := h.sm; exact ⟨Nat.le_trans h.size hs,fun k h3 h4 => (hb.block k (Nat.lt_of_lt_of_le h4 h.size)).trans (h.kept k h3 h4),fun k h3 => (hb.block k (Nat.lt_of_lt_of_le h3 h.b0)).trans (h.low k h3),⟨hb.os.trans h.io.1,hb.tape.trans h.io.2.1,hb.output.trans h.io.2.2⟩,h.ir.below hb,h.rt.below hb,Nat.le_trans h.b0 hs,v',h1.below hb,h2⟩
theorem PS.nmr (h : PS w2 W5 B0 B v1 M1 M2 aR rs Lc W) {ad : Option Addr} {xs : List ByteArray} (hx : NMR W5 ad xs) (hg : ∀ b o,ad = some ⟨b,o,none⟩ -> 0 < xs.length -> w2.heap.size <= b) : NMR W ad xs := fun h0 => by
  obtain ⟨b,o,e,hl,hc⟩ := hx h0; exact ⟨b,o,e,Nat.lt_of_lt_of_le hl h.size,fun j hj => (World.cell?_of_block (a := ⟨b,o + j,none⟩) (h.kept b (hg b o e h0) hl)).trans (hc j hj)⟩
theorem PS.irs (h : PS w2 W5 B0 B v1 M1 M2 aR rs Lc W) {ad : Option Addr} {xs : List Int} (hx : IR W5 ad xs) (hg : ∀ b o,ad = some ⟨b,o,none⟩ -> 0 < xs.length -> w2.heap.size <= b) : IR W ad xs := fun h0 => by
  obtain ⟨b,o,e,hl,hc⟩ := hx h0; exact ⟨b,o,e,Nat.lt_of_lt_of_le hl h.size,fun j hj => (World.cell?_of_block (a := ⟨b,o + j,none⟩) (h.kept b (hg b o e h0) hl)).trans (hc j hj)⟩
theorem PS.put {V : V9} {ps : List (ByteArray × Nat)} {x1 x2 : ByteArray -> Nat} {aN aT : Option Addr} {cR cN cT : Nat} (hw : ∀ k,Own B v1 M1 M2 k -> k < w2.heap.size) (h : PS w2 W5 B0 B v1 M1 M2 aR rs Lc W) (hl : 3 * Lc.length < 1000000000000) (hr : ∀ x ∈ rs,isT Lc x = true) (hrl : rs.length <= 1000000000000)
    (hN : NMR W aN (ps.map (·.1))) (hT : IR W aT (ps.map fun p => ((p.2 : Nat) : Int))) (hpl : ps.length <= 1000000000000) (hpt : ∀ p ∈ ps,1 <= p.2 /\ p.2 <= Lc.length) (hpn : ∀ i j,i < j -> j < ps.length -> ¬ (ps.getD j (ByteArray.empty,0)).1 = (ps.getD i (ByteArray.empty,0)).1) (hpg : ∀ p ∈ ps,nmB p.1 = true /\ p.1.size <= 140737488355328) (hH : PTH V 0 Lc (tmF ps) x1 x2) :
    Calls Tryz.prog 13 #[.pointer (some ⟨B,0,none⟩),.slice aR rs.length cR,.slice aN ps.length cN,.slice aT ps.length cT] W fun e w' => ∃ g2 s,e = .returned (.tuple #[.slice (some ⟨g2,0,none⟩) rs.length rs.length,.int .i64 0]) /\ fP 0 Lc (tmF ps) (og Lc [] (toN rs)).attach = some s /\ GI.UL w' g2 rs.length (fun j => s.2 (rs.getD j 0).toNat) /\ PS w2 W5 B0 B v1 M1 M2 aR rs s.1 w' /\ ∀ g n f,GI.UL W g n f -> GI.UL w' g n f := by
  obtain ⟨v',hS,ho⟩ := h.sm; refine (putfn_ok (cR := cR) (cN := cN) (cT := cT) W hS h.b0 hl h.ir (fun X hX => (ir_kp hS (by decide) h.ir h.rt hX).1) hr hrl hN hT hpl hpt hpn hpg hH).mono ?_; rintro e w' ⟨g2,s,rfl,hf,hq⟩; obtain ⟨u,hu,hou⟩ := hq.st; have hks := hq.kp.size; obtain ⟨q1,q2⟩ := ir_kp hS (by decide) h.ir h.rt hq.kp; refine ⟨g2,s,rfl,hf,hq.ul,⟨Nat.le_trans h.size hks,fun k h3 h4 => ?_,fun k h3 => (hq.kp.block k (Nat.lt_of_lt_of_le h3 h.b0) (fun hk => by have := hS.ge hk; omega)).trans (h.low k h3),⟨hq.kp.os.trans h.io.1,hq.kp.tape.trans h.io.2.1,hq.kp.output.trans h.io.2.2⟩,q1,q2,Nat.le_trans h.b0 hks,u,hu,fun k hk => ?_⟩,fun g n f hg => ?_⟩
  · refine (hq.kp.block k (Nat.lt_of_lt_of_le h4 h.size) (fun hk => ?_)).trans (h.kept k h3 h4)
    rcases ho k hk with h5 | h5
    · have := hw k h5; omega
    omega
  · rcases hou k hk with h5 | h5
    · exact ho k h5
    exact Or.inr (Nat.le_trans h.size h5)
  obtain ⟨A,hA,h5⟩ := hg.blk; exact ⟨⟨A,(hq.kp.block g hg.lt (hS.not hA (by decide) (by decide))).trans hA,h5⟩⟩
theorem PS.vals {V : V9} (hV : VK V) {aX aV : Option Addr} {cX cV : Nat} {ts : List Int} {xs : List Vl} (h : PS w2 W5 B0 B v1 M1 M2 aR rs Lc W) (hst : STO Lc) (hI : IR W aX ts) (hr : ∀ x ∈ ts,isT Lc x = true) (hrl : ts.length <= 1000000000000) (hVr : VR W aV xs) (hvl : xs.length <= 1000000000000) (hu : UNQ xs) (hg : ∀ x ∈ xs,nmB x.nm = true /\ x.nm.size <= 140737488355328 /\ okV x)
    (hfit : ∀ t,1 <= t -> t <= Lc.length -> (Lc.getD (t - 1) z0).op = 4 -> ∀ y ∈ xs,y.nm = (Lc.getD (t - 1) z0).name -> y.w = (Lc.getD (t - 1) z0).w) :
    Calls Tryz.prog 16 #[.pointer (some ⟨B,0,none⟩),.slice aX ts.length cX,.slice aV xs.length cV] W fun e w' => ∃ g2,e = .returned (.tuple #[.slice (some ⟨g2,0,none⟩) ts.length ts.length,.int .i64 0]) /\ UL w' g2 ts.length (fun j => ev V Lc (xM (tellF xs)) (ts.getD j 0).toNat) /\ Below W.heap.size W w' := by
  obtain ⟨v',hS,_⟩ := h.sm; exact vals_ok hV B0 B 0 Lc v' M1 M2 W hS hst hI hr hrl hVr hvl hu hg hfit
end
theorem swords_any {g g' k : Nat} {f : Nat -> Nat} (w : World) (hx : UL w g k f) (hy : UL w g' k f) (hl : k <= 1000000000000) :
    Calls Tryz.prog 17 #[.slice (some ⟨g,0,none⟩) k k,.slice (some ⟨g',0,none⟩) k k] w fun e w' => e = .returned (.bool true) /\ ∃ n,w' = w.drewN n := by
  generalize hPP : (fun (e : Ending) (w' : World) => e = .returned (.bool true) /\ ∃ n,w' = w.drewN n) = PP
  have HPP : Hid (∀ n,PP (.returned (.bool true)) (w.drewN n)) := fun n => by rw [<- hPP]; exact ⟨rfl,n,rfl⟩
  clear hPP; have HX : Hid (∀ j,j < k -> ∃ x,∀ m,(w.drewN m).cell? ⟨g,0 + j,none⟩ = some (.int .u64 x) /\ (w.drewN m).cell? ⟨g',0 + j,none⟩ = some (.int .u64 x)) := fun j hj => by
    refine ⟨((f j : Nat) : Int),fun m => ?_⟩; rw [Nat.zero_add]; exact ⟨(hx.at_ hj).1,(hy.at_ hj).1⟩
  clear hx hy; have qk : ((k : Int) == (k : Int)) = true := by simp
  go_enter Tryz.func17,Tryz.ntmps17
  go_wp2_with fail
  go_loopg [5] k (fun gk s5 wr => ∃ i : Nat,s5 = .int .i64 (i : Int) /\ i + gk = k /\ ∃ m,w.drewN m = wr)
  case atStart => exact ⟨0,rfl,by omega,0,rfl⟩
  case round =>
    obtain ⟨i,rfl,hi,m0,rfl⟩ := hrel
    by_cases hlt : i < k
    · obtain ⟨x,e1⟩ := HX.out i hlt
      obtain ⟨e2,e3⟩ := e1 m0; rw [Nat.zero_add] at e2 e3; have q1 : (i : Int) < (k : Int) := by omega
      obtain ⟨W1,hW1⟩ : ∃ W1,w.drewN m0 = W1 := ⟨_,rfl⟩; have HW1 : Hid (w.drewN m0 = W1) := hW1; rw [hW1] at e2 e3 ⊢; clear e1 hW1
      go_wp2_with fail
      first | (go_quiet (fail)) | fail
      go_wp2
      go_roundg (gk - 1)
      case measure => omega
      case rel => exact ⟨i + 1,by simp,by omega,_,by rw [<- HW1.out,World.drewN_drewN]⟩
    have hji : i = k := by omega
    subst hji; have HP2 : Hid (PP (.returned (.bool true)) (w.drewN m0)) := HPP.out m0
    go_wp2
    first | exact HP2.out | (go_ret; exact HP2.out) | (go_ret2; exact HP2.out)
end Go.Proofs.YtkpapgfbnledpaaGreatDoor.GP
namespace Go.Proofs.YtkpapgfbnledpaaGreatDoor.GP
open Go.Proofs.YtkpapgfbnledpaaGreatDoor
open Go.Proofs.YtkpapgfbnledpaaGreatDoor.GI (own_keep)
open Go.ChangeShapes Go.WideShapes Go.ChangeAt Go.RowKit Go.Lib Go.Tm Go.Bw Go.Bn Go.WideMaps Go.Maps Go.ChangeMaps Go.Shelf

theorem row_own {w : World} {B e k n : Nat} {v : Value} {xs : List Value} (h : w.ownsRow B e k v n xs) {g : Nat} (hg : v.ownBlock = some g) : B <= g /\ g < w.heap.size /\ ∃ cur,w.heap[g]? = some (.cells cur e (0,0)) := by
  rcases h.2 with ⟨e1,_⟩ | ⟨g',cap,cur,e1,h2,h3,_⟩
  · rw [e1] at hg; cases hg
  rw [e1] at hg; cases hg; exact ⟨h2,(Array.getElem?_eq_some_iff.1 h3).1,cur,h3⟩
abbrev sVs (xs : List ByteArray) : List Value := xs.map Value.string
abbrev iVs (xs : List Int) : List Value := xs.map (Value.int .i64)
theorem sVs_app (xs : List ByteArray) (x : ByteArray) : sVs (xs ++ [x]) = sVs xs ++ [.string x] := by unfold sVs; rw [List.map_append]; rfl
theorem iVs_app (xs : List Int) (x : Int) : iVs (xs ++ [x]) = iVs xs ++ [.int .i64 x] := by unfold iVs; rw [List.map_append]; rfl
structure R4 (w2 : World) (o : List ByteArray) (s : List Int) (n : List ByteArray) (t : List Int) (vO vS vN vT : Value) (W : World) : Prop where
  ro : W.ownsRow w2.heap.size 9 1 vO o.length (sVs o)
  rs : W.ownsRow w2.heap.size 3 1 vS s.length (iVs s)
  rn : W.ownsRow w2.heap.size 9 1 vN n.length (sVs n)
  rt : W.ownsRow w2.heap.size 3 1 vT t.length (iVs t)
  d1 : ∀ g,vO.ownBlock = some g -> vN.ownBlock ≠ some g
  d2 : ∀ g,vS.ownBlock = some g -> vT.ownBlock ≠ some g
  bel : Below w2.heap.size w2 W
section
variable {w2 : World} {o : List ByteArray} {s : List Int} {n : List ByteArray} {t : List Int} {vO vS vN vT : Value} {W : World}
theorem R4.swap (h : R4 w2 o s n t vO vS vN vT W) : R4 w2 n t o s vN vT vO vS W := ⟨h.rn,h.rt,h.ro,h.rs,fun g h1 h2 => h.d1 g h2 h1,fun g h1 h2 => h.d2 g h2 h1,h.bel⟩
theorem R4.over (h : R4 w2 o s n t vO vS vN vT W) {W' : World} (hb : Below W.heap.size W W') : R4 w2 o s n t vO vS vN vT W' :=
  ⟨own_keep h.ro (fun g hg => hb.block g (row_own h.ro hg).2.1),own_keep h.rs (fun g hg => hb.block g (row_own h.rs hg).2.1),own_keep h.rn (fun g hg => hb.block g (row_own h.rn hg).2.1),own_keep h.rt (fun g hg => hb.block g (row_own h.rt hg).2.1),h.d1,h.d2,h.bel.trans (below_le' hb h.bel.size)⟩
theorem R4.pushO (h : R4 w2 o s n t vO vS vN vT W) {x : ByteArray} {W4 : World} {g4 c4 m : Nat} {ob : Obj} (hm : o.length = m) (hown : W4.ownsRow w2.heap.size 9 1 (.slice (some ⟨g4,0,none⟩) (m + 1) c4) (m + 1) (sVs o ++ [.string x])) (hg : (W.alloc ob).grownBy W4 vO.ownBlock) (hat : vO.ownBlock = some g4 ∨ W.heap.size <= g4) : R4 w2 (o ++ [x]) s n t (.slice (some ⟨g4,0,none⟩) (m + 1) c4) vS vN vT W4 := by
  subst hm; have hsz := h.bel.size; have keep : ∀ g,g < W.heap.size -> vO.ownBlock ≠ some g -> W4.heap[g]? = W.heap[g]? := fun g h1 h2 => (hg.block g (by simp; omega) (fun e => h2 e.symm)).trans (Below.heap_alloc _ _ _ h1)
  have kind : ∀ {v : Value} {k : Nat} {xs : List Value},W.ownsRow w2.heap.size 3 1 v k xs -> ∀ g,v.ownBlock = some g -> vO.ownBlock ≠ some g := fun hr g hg' hgO => by
    obtain ⟨_,_,c1,h1⟩ := row_own hr hg'; obtain ⟨_,_,c2,h2⟩ := row_own h.ro hgO; rw [h1] at h2; cases h2
  refine ⟨by rw [List.length_append,sVs_app]; exact hown,own_keep h.rs (fun g hg' => keep g (row_own h.rs hg').2.1 (kind h.rs g hg')),own_keep h.rn (fun g hg' => keep g (row_own h.rn hg').2.1 (fun e => h.d1 g e hg')),own_keep h.rt (fun g hg' => keep g (row_own h.rt hg').2.1 (kind h.rt g hg')),fun g hg' => ?_,h.d2,⟨hg.os.trans h.bel.os,hg.tape.trans h.bel.tape,hg.output.trans h.bel.output,?_,fun k hk => ?_⟩⟩
  · obtain rfl : g4 = g := by simpa [Value.ownBlock] using hg'
    rcases hat with h1 | h1
    · exact h.d1 _ h1
    intro e; have := (row_own h.rn e).2.1
    omega
  · have := hg.size
    simp at this
    omega
  refine (keep k (by omega) (fun e => ?_)).trans (h.bel.block k hk); have := (row_own h.ro e).1
  omega
theorem R4.pushS (h : R4 w2 o s n t vO vS vN vT W) {x : Int} {W4 : World} {g4 c4 m : Nat} {ob : Obj} (hm : s.length = m) (hown : W4.ownsRow w2.heap.size 3 1 (.slice (some ⟨g4,0,none⟩) (m + 1) c4) (m + 1) (iVs s ++ [.int .i64 x])) (hg : (W.alloc ob).grownBy W4 vS.ownBlock) (hat : vS.ownBlock = some g4 ∨ W.heap.size <= g4) : R4 w2 o (s ++ [x]) n t vO (.slice (some ⟨g4,0,none⟩) (m + 1) c4) vN vT W4 := by
  subst hm; have hsz := h.bel.size; have keep : ∀ g,g < W.heap.size -> vS.ownBlock ≠ some g -> W4.heap[g]? = W.heap[g]? := fun g h1 h2 => (hg.block g (by simp; omega) (fun e => h2 e.symm)).trans (Below.heap_alloc _ _ _ h1)
  have kind : ∀ {v : Value} {k : Nat} {xs : List Value},W.ownsRow w2.heap.size 9 1 v k xs -> ∀ g,v.ownBlock = some g -> vS.ownBlock ≠ some g := fun hr g hg' hgO => by
    obtain ⟨_,_,c1,h1⟩ := row_own hr hg'; obtain ⟨_,_,c2,h2⟩ := row_own h.rs hgO; rw [h1] at h2; cases h2
  refine ⟨own_keep h.ro (fun g hg' => keep g (row_own h.ro hg').2.1 (kind h.ro g hg')),by rw [List.length_append,iVs_app]; exact hown,own_keep h.rn (fun g hg' => keep g (row_own h.rn hg').2.1 (kind h.rn g hg')),own_keep h.rt (fun g hg' => keep g (row_own h.rt hg').2.1 (fun e => h.d2 g e hg')),h.d1,fun g hg' => ?_,⟨hg.os.trans h.bel.os,hg.tape.trans h.bel.tape,hg.output.trans h.bel.output,?_,fun k hk => ?_⟩⟩
  · obtain rfl : g4 = g := by simpa [Value.ownBlock] using hg'
    rcases hat with h1 | h1
    · exact h.d2 _ h1
    intro e; have := (row_own h.rt e).2.1
    omega
  · have := hg.size
    simp at this
    omega
  refine (keep k (by omega) (fun e => ?_)).trans (h.bel.block k hk); have := (row_own h.rs e).1
  omega
end
theorem own_nmr {w : World} {B n : Nat} {v : Value} {xs : List ByteArray} (h : w.ownsRow B 9 1 v xs.length (sVs xs)) (hn : xs.length = n) : ∃ ad c,v = .slice ad n c /\ NMR w ad xs /\ ∀ b o,ad = some ⟨b,o,none⟩ -> 0 < xs.length -> B <= b := by
  subst hn
  rcases h.2 with ⟨e1,h0⟩ | ⟨g,cap,cur,e1,h2,h3,_⟩
  · exact ⟨none,0,by rw [e1,h0],fun h9 => by omega,fun b o e => by cases e⟩
  subst e1; refine ⟨_,_,rfl,fun h9 => ⟨g,0,rfl,(Array.getElem?_eq_some_iff.1 h3).1,fun j hj => ?_⟩,fun b o e _ => by cases e; exact h2⟩; rw [Nat.zero_add,h.cellAt j (by omega),List.getElem?_map,List.getD_eq_getElem?_getD,List.getElem?_eq_getElem hj]
  rfl
theorem own_irs {w : World} {B n : Nat} {v : Value} {xs : List Int} (h : w.ownsRow B 3 1 v xs.length (iVs xs)) (hn : xs.length = n) : ∃ ad c,v = .slice ad n c /\ IR w ad xs /\ ∀ b o,ad = some ⟨b,o,none⟩ -> 0 < xs.length -> B <= b := by
  subst hn
  rcases h.2 with ⟨e1,h0⟩ | ⟨g,cap,cur,e1,h2,h3,_⟩
  · exact ⟨none,0,by rw [e1,h0],fun h9 => by omega,fun b o e => by cases e⟩
  subst e1; refine ⟨_,_,rfl,fun h9 => ⟨g,0,rfl,(Array.getElem?_eq_some_iff.1 h3).1,fun j hj => ?_⟩,fun b o e _ => by cases e; exact h2⟩; rw [Nat.zero_add,h.cellAt j (by omega),List.getElem?_map,List.getD_eq_getElem?_getD,List.getElem?_eq_getElem hj]
  rfl
def VW (W : World) (b : Nat) (xs : List Vl) : Prop := ∃ A,W.heap[b]? = some (.cells A 38 (0,0)) /\ ∀ j,j < xs.length -> A[j * 3]? = some (.string (xs.getD j vZ).nm) /\ A[j * 3 + 1]? = some (.int .i64 (xs.getD j vZ).w) /\ A[j * 3 + 2]? = some (.int .u64 (xs.getD j vZ).num)
theorem VW.lt {W : World} {b : Nat} {xs : List Vl} (h : VW W b xs) : b < W.heap.size := by
  obtain ⟨A,hA,_⟩ := h; exact (Array.getElem?_eq_some_iff.1 hA).1
theorem VW.keep {W W' : World} {b : Nat} {xs : List Vl} (h : VW W b xs) (hb : W'.heap[b]? = W.heap[b]?) : VW W' b xs := by
  obtain ⟨A,hA,h1⟩ := h; exact ⟨A,hb.trans hA,h1⟩
theorem VW.below {W W' : World} {b : Nat} {xs : List Vl} (h : VW W b xs) (hb : Below W.heap.size W W') : VW W' b xs := h.keep (hb.block b h.lt)
theorem VW.vr {W : World} {b : Nat} {xs : List Vl} (h : VW W b xs) : VR W (some ⟨b,0,none⟩) xs := fun _ => by
  have hl := h.lt; obtain ⟨A,hA,h1⟩ := h; refine ⟨b,0,rfl,hl,fun j hj => ?_⟩; obtain ⟨q1,q2,q3⟩ := h1 j hj; refine ⟨(blk_cell hA _).trans ?_,(blk_cell hA _).trans ?_,(blk_cell hA _).trans ?_⟩
  · rw [Nat.zero_add]; exact q1
  · rw [Nat.zero_add]; exact q2
  rw [Nat.zero_add]; exact q3
theorem VW.set {W : World} {b : Nat} {xs : List Vl} (h : VW W b xs) {i : Nat} (hi : i < xs.length) (z : Int) : VW (W.setCell ⟨b,i * 3 + 2,none⟩ (.int .u64 z)) b (xs.set i ⟨(xs.getD i vZ).nm,(xs.getD i vZ).w,z⟩) /\ W.frozen? ⟨b,i * 3 + 2,none⟩ = false := by
  obtain ⟨A,hA,h1⟩ := h; refine ⟨⟨_,heap_setCell_same _ _ _ _ _ _ hA,fun j hj => ?_⟩,by simp [World.frozen?,hA]⟩; rw [List.length_set] at hj; obtain ⟨q1,q2,q3⟩ := h1 j hj; obtain ⟨r1,r2,r3⟩ := h1 i hi; have hsz := (Array.getElem?_eq_some_iff.1 r3).1; simp only [List.getD_eq_getElem?_getD,List.getElem?_set] at q1 q2 q3 r1 r2 r3 ⊢
  by_cases e : i = j
  · subst e
    rw [if_pos rfl,if_pos hi]; refine ⟨?_,?_,?_⟩
    · rw [Array.getElem?_setIfInBounds_ne (by omega)]; exact q1
    · rw [Array.getElem?_setIfInBounds_ne (by omega)]; exact q2
    rw [Array.getElem?_setIfInBounds_self_of_lt hsz]; rfl
  rw [if_neg e]; refine ⟨?_,?_,?_⟩
  · rw [Array.getElem?_setIfInBounds_ne (by omega)]; exact q1
  · rw [Array.getElem?_setIfInBounds_ne (by omega)]; exact q2
  rw [Array.getElem?_setIfInBounds_ne (by omega)]; exact q3
theorem vn_vw {w0 w : World} {xs : List Vl} {v : Value} (h : G2.VN w0 xs v w) (h0 : 0 < xs.length) : ∃ b c,v = .slice (some ⟨b,0,none⟩) xs.length c /\ VW w b xs /\ w0.heap.size <= b := by
  have hr := h.row
  rcases h.row.2 with ⟨e1,h9⟩ | ⟨g,cap,cur,e1,h2,h3,_⟩
  · omega
  subst e1; refine ⟨g,cap,rfl,⟨cur,h3,fun j hj => ?_⟩,h2⟩; have hl : (flatV xs).length = xs.length * 3 := hr.1; have k : ∀ m,m < 3 -> cur[j * 3 + m]? = (vC (xs.getD j vZ))[m]? := fun m hm => by
    have h5 := hr.cellAt (j * 3 + m) (by omega); rw [flatV_at xs j m hj hm] at h5; rw [<- h5]; exact (blk_cell h3 _).symm
  exact ⟨k 0 (by omega),k 1 (by omega),k 2 (by omega)⟩
end Go.Proofs.YtkpapgfbnledpaaGreatDoor.GP
namespace Go.Proofs.YtkpapgfbnledpaaGreatDoor.GP
open Go.Proofs.YtkpapgfbnledpaaGreatDoor
open Go.ChangeShapes Go.WideShapes Go.ChangeAt Go.RowKit Go.Lib Go.Tm Go.Bw Go.Bn Go.WideMaps Go.Maps Go.ChangeMaps Go.Shelf

def pkJ (q : Nat) (pk : List Int) (i : Nat) : Option Nat := if pk.length = 0 ∨ q = 0 then none else if pk.getD (i % pk.length) 0 < 0 then none else some ((pk.getD (i % pk.length) 0).toNat % q)
def psS (vs : List Vl) (rs : List Int) (nd : Nat -> Nd) (pk : List Int) (i : Nat) : List (ByteArray × Nat) := match pkJ rs.length pk i with
  | none => []
  | some j => if (nd j).w = (vs.getD i vZ).w then [((vs.getD i vZ).nm,(rs.getD j 0).toNat)] else []
def psF (vs : List Vl) (rs : List Int) (nd : Nat -> Nd) (pk : List Int) : Nat -> List (ByteArray × Nat)
  | 0 => []
  | i + 1 => psF vs rs nd pk i ++ psS vs rs nd pk i
def poF (vs : List Vl) (ix : Nat -> Nat) : Nat -> List (ByteArray × Nat)
  | 0 => []
  | i + 1 => poF vs ix i ++ [((vs.getD i vZ).nm,ix i)]
theorem po_len (vs : List Vl) (ix : Nat -> Nat) : ∀ i,(poF vs ix i).length = i
  | 0 => rfl
  | i + 1 => by
    show (poF vs ix i ++ [_]).length = _
    rw [List.length_append,po_len vs ix i]
    rfl
theorem ps_len (vs : List Vl) (rs : List Int) (nd : Nat -> Nd) (pk : List Int) : ∀ i,(psF vs rs nd pk i).length <= i
  | 0 => Nat.le_refl _
  | i + 1 => by
    have := ps_len vs rs nd pk i
    show (psF vs rs nd pk i ++ psS vs rs nd pk i).length <= _
    rw [List.length_append]; have : (psS vs rs nd pk i).length <= 1 := by
      unfold psS
      split
      · exact Nat.zero_le _
      split
      · exact Nat.le_refl _
      exact Nat.zero_le _
    omega
abbrev fsts (ps : List (ByteArray × Nat)) : List ByteArray := ps.map (·.1)
abbrev snds (ps : List (ByteArray × Nat)) : List Int := ps.map fun p => ((p.2 : Nat) : Int)
def upN (ps : List (ByteArray × Nat)) (fi : Nat -> Nat) (x : Vl) : Nat -> Int
  | 0 => x.num
  | k + 1 => if (ps.getD k (ByteArray.empty,0)).1 = x.nm then ((fi k : Nat) : Int) else upN ps fi x k
def valU (ps : List (ByteArray × Nat)) (fi : Nat -> Nat) (k : Nat) (x : Vl) : Vl := ⟨x.nm,x.w,upN ps fi x k⟩
theorem ba_beq (a b : ByteArray) : (a.toList == b.toList) = decide (a = b) := by
  by_cases h : a = b
  · subst h
    rw [decide_eq_true rfl]; exact beq_self_eq_true _
  rw [decide_eq_false h]; refine Bool.eq_false_iff.2 fun e => h ?_
  have e2 := eq_of_beq e; rw [ByteArray.toList_eq,ByteArray.toList_eq] at e2; exact ByteArray.ext (Array.ext' e2)
def vxL (ps : List (ByteArray × Nat)) (fi : Nat -> Nat) (m : Nat) (vals : List Vl) (j k : Nat) : List Vl := (List.range vals.length).map fun t => if t < j then valU ps fi m (vals.getD t vZ) else if t = j then valU ps fi k (vals.getD t vZ) else vals.getD t vZ
theorem vx_len (ps : List (ByteArray × Nat)) (fi : Nat -> Nat) (m : Nat) (vals : List Vl) (j k : Nat) : (vxL ps fi m vals j k).length = vals.length := by unfold vxL; simp
theorem vx_at (ps : List (ByteArray × Nat)) (fi : Nat -> Nat) (m : Nat) (vals : List Vl) (j k : Nat) {t : Nat} (h : t < vals.length) : (vxL ps fi m vals j k)[t]? = some (if t < j then valU ps fi m (vals.getD t vZ) else if t = j then valU ps fi k (vals.getD t vZ) else vals.getD t vZ) := by
  unfold vxL; rw [List.getElem?_map,List.getElem?_range h]
  rfl
theorem vx_self (ps : List (ByteArray × Nat)) (fi : Nat -> Nat) (m : Nat) (vals : List Vl) (j k : Nat) (h : j < vals.length) : (vxL ps fi m vals j k).getD j vZ = valU ps fi k (vals.getD j vZ) := by
  rw [List.getD_eq_getElem?_getD,vx_at ps fi m vals j k h,if_neg (by omega),if_pos rfl]
  rfl
theorem vx_ext {ps : List (ByteArray × Nat)} {fi : Nat -> Nat} {m : Nat} {vals xs : List Vl} {j k : Nat} (hl : xs.length = vals.length) (h : ∀ t,t < vals.length -> xs[t]? = some (if t < j then valU ps fi m (vals.getD t vZ) else if t = j then valU ps fi k (vals.getD t vZ) else vals.getD t vZ)) : xs = vxL ps fi m vals j k := by
  apply List.ext_getElem?
  intro t
  by_cases ht : t < vals.length
  · rw [h t ht,vx_at ps fi m vals j k ht]
  rw [List.getElem?_eq_none (by omega),List.getElem?_eq_none (by rw [vx_len]; omega)]
theorem vx_0 (ps : List (ByteArray × Nat)) (fi : Nat -> Nat) (m : Nat) (vals : List Vl) : vals = vxL ps fi m vals 0 0 := vx_ext rfl fun t ht => by
  rw [if_neg (by omega),List.getElem?_eq_getElem ht]; have e : vals.getD t vZ = vals[t] := by rw [List.getD_eq_getElem?_getD,List.getElem?_eq_getElem ht]; rfl
  rw [e]
  split <;> rfl
theorem vx_next (ps : List (ByteArray × Nat)) (fi : Nat -> Nat) (m : Nat) (vals : List Vl) (j : Nat) : vxL ps fi m vals j m = vxL ps fi m vals (j + 1) 0 := vx_ext (vx_len ..) fun t ht => by
  rw [vx_at ps fi m vals j m ht]
  by_cases h1 : t < j
  · rw [if_pos h1,if_pos (by omega)]
  rw [if_neg h1]
  by_cases h2 : t = j
  · rw [if_pos h2,if_pos (by omega)]
  rw [if_neg h2,if_neg (by omega)]
  split <;> rfl
theorem vx_end (ps : List (ByteArray × Nat)) (fi : Nat -> Nat) (m : Nat) (vals : List Vl) (k : Nat) : vals.map (valU ps fi m) = vxL ps fi m vals vals.length k := vx_ext (by simp) fun t ht => by
  rw [if_pos ht,List.getElem?_map,List.getElem?_eq_getElem ht,List.getD_eq_getElem?_getD,List.getElem?_eq_getElem ht]
  rfl
theorem vx_no {ps : List (ByteArray × Nat)} {fi : Nat -> Nat} {m : Nat} {vals : List Vl} {j k : Nat} (h : ¬ (ps.getD k (ByteArray.empty,0)).1 = (vals.getD j vZ).nm) : vxL ps fi m vals j k = vxL ps fi m vals j (k + 1) := vx_ext (vx_len ..) fun t ht => by
  rw [vx_at ps fi m vals j k ht]
  by_cases h1 : t < j
  · rw [if_pos h1,if_pos h1]
  rw [if_neg h1,if_neg h1]
  by_cases h2 : t = j
  · rw [if_pos h2,if_pos h2]
    subst h2; unfold valU; rw [upN,if_neg h]
  rw [if_neg h2,if_neg h2]
theorem vx_yes {ps : List (ByteArray × Nat)} {fi : Nat -> Nat} {m : Nat} {vals : List Vl} {j k : Nat} (hj : j < vals.length) (h : (ps.getD k (ByteArray.empty,0)).1 = (vals.getD j vZ).nm) : (vxL ps fi m vals j k).set j ⟨((vxL ps fi m vals j k).getD j vZ).nm,((vxL ps fi m vals j k).getD j vZ).w,((fi k : Nat) : Int)⟩ = vxL ps fi m vals j (k + 1) := by
  rw [vx_self ps fi m vals j k hj]; refine vx_ext (by rw [List.length_set,vx_len]) fun t ht => ?_
  by_cases h2 : t = j
  · subst h2
    rw [List.getElem?_set_self (by rw [vx_len]; exact ht),if_neg (by omega),if_pos rfl]; unfold valU; rw [upN,if_pos h]
  rw [List.getElem?_set_ne (by omega),vx_at ps fi m vals j k ht]
  by_cases h1 : t < j
  · rw [if_pos h1,if_pos h1]
  rw [if_neg h1,if_neg h1,if_neg h2,if_neg h2]
structure PMF (w2 : World) (B q : Nat) (aR : Option Addr) (cR : Nat) (rs : List Int) (vs : List Vl) (ix : Nat -> Nat) (nd : Nat -> Nd) (pk : List Int) (aU : Option Addr) (cU nU : Nat) (nums : List Nat) (fa fi fv : Nat -> Nat) (vals : List Vl) (H0 : Nat) (Q : World -> World -> Prop) : Prop where
  rq : rs.length = q
  ir : IR w2 aR rs
  pos : ∀ x ∈ rs,0 <= x
  vn : vs.length <= 1000000000000
  va : Calls Tryz.prog 9 #[.pointer (some ⟨B,0,none⟩),.slice aR q cR] w2 fun e w' => ∃ ad cp,e = .returned (.tuple #[.slice ad vs.length cp,.int .i64 0]) /\ VR w' ad vs /\ (∀ b o,ad = some ⟨b,o,none⟩ -> 0 < vs.length -> w2.heap.size <= b) /\ Below w2.heap.size w2 w'
  vr : ∀ W i,Below w2.heap.size w2 W -> i < vs.length -> Calls Tryz.prog 11 #[.pointer (some ⟨B,0,none⟩),.string (vs.getD i vZ).nm,.int .i64 (vs.getD i vZ).w] W fun e w' => e = .returned (.tuple #[.int .i64 (ix i : Int),.int .i64 0]) /\ Below W.heap.size W w'
  no : ∀ W j,Below w2.heap.size w2 W -> j < q -> Calls Tryz.prog 12 #[.pointer (some ⟨B,0,none⟩),.int .i64 (rs.getD j 0)] W fun e w' => e = .returned (.tuple #[nodeV (nd j),.int .i64 0]) /\ Below W.heap.size W w'
  p1 : ∀ W5 aN cN aT cT,Below w2.heap.size w2 W5 -> NMR W5 aN (fsts (psF vs rs nd pk vs.length)) -> IR W5 aT (snds (psF vs rs nd pk vs.length)) -> Calls Tryz.prog 13 #[.pointer (some ⟨B,0,none⟩),.slice aR q cR,.slice aN (psF vs rs nd pk vs.length).length cN,.slice aT (psF vs rs nd pk vs.length).length cT] W5 fun e w' => ∃ g2,e = .returned (.tuple #[.slice (some ⟨g2,0,none⟩) q q,.int .i64 0]) /\ GI.UL w' g2 q fa /\ Q W5 w'
  p2 : ∀ W5 W aO cO aS cS,Below w2.heap.size w2 W5 -> Q W5 W -> NMR W aO (fsts (poF vs ix vs.length)) -> IR W aS (snds (poF vs ix vs.length)) -> Calls Tryz.prog 13 #[.pointer (some ⟨B,0,none⟩),.slice aR q cR,.slice aO vs.length cO,.slice aS vs.length cS] W fun e w' => ∃ g2,e = .returned (.tuple #[.slice (some ⟨g2,0,none⟩) q q,.int .i64 0]) /\ GI.UL w' g2 q (fun j => (rs.getD j 0).toNat) /\ Q W5 w' /\ ∀ g n f,GI.UL W g n f -> GI.UL w' g n f
  p3 : ∀ W5 W,Below w2.heap.size w2 W5 -> Q W5 W -> Calls Tryz.prog 13 #[.pointer (some ⟨B,0,none⟩),.slice aR q cR,.slice none 0 0,.slice none 0 0] W fun e w' => ∃ g2,e = .returned (.tuple #[.slice (some ⟨g2,0,none⟩) q q,.int .i64 0]) /\ GI.UL w' g2 q (fun j => (rs.getD j 0).toNat) /\ Q W5 w' /\ ∀ g n f,GI.UL W g n f -> GI.UL w' g n f
  qb : ∀ W5 W W',Q W5 W -> Below W.heap.size W W' -> Q W5 W'
  qn : ∀ W5 W ad xs,Q W5 W -> NMR W5 ad xs -> (∀ b o,ad = some ⟨b,o,none⟩ -> 0 < xs.length -> w2.heap.size <= b) -> NMR W ad xs
  qi : ∀ W5 W ad xs,Q W5 W -> IR W5 ad xs -> (∀ b o,ad = some ⟨b,o,none⟩ -> 0 < xs.length -> w2.heap.size <= b) -> IR W ad xs
  qv : ∀ W5 W ad xs,Q W5 W -> VR W5 ad xs -> (∀ b o,ad = some ⟨b,o,none⟩ -> 0 < xs.length -> w2.heap.size <= b) -> VR W ad xs
  ql : ∀ W5 W k,Q W5 W -> k < H0 -> W.heap[k]? = W5.heap[k]?
  qx : ∀ W5 W W' b A fr,Q W5 W -> W5.heap.size <= b -> W.heap[b]? = some (.cells A 38 fr) -> (∀ k,k ≠ b -> W'.heap[k]? = W.heap[k]?) -> W.heap.size <= W'.heap.size -> (W'.os = W.os /\ W'.tape = W.tape /\ W'.output = W.output) -> Q W5 W'
  qo : ∀ W5 W,Q W5 W -> W.os = W5.os /\ W.tape = W5.tape /\ W.output = W5.output
  qs : ∀ W5 W,Q W5 W -> W5.heap.size <= W.heap.size
  qr : ∀ W5 W,Q W5 W -> IR W aR rs
  dr : ∀ W aV cV,VR W aV vs -> G2.NR W aU nums -> Calls Tryz.prog 15 #[.slice aV vs.length cV,.slice aU nU cU] W fun e w' => ∃ v,e = .returned v /\ G2.VN W vals v w'
  vl : vals.length = vs.length
  v1 : ∀ W5 W g aV cV,Q W5 W -> GI.UL W g q fa -> VR W aV vals -> Calls Tryz.prog 16 #[.pointer (some ⟨B,0,none⟩),.slice (some ⟨g,0,none⟩) q q,.slice aV vs.length cV] W fun e w' => ∃ g2,e = .returned (.tuple #[.slice (some ⟨g2,0,none⟩) q q,.int .i64 0]) /\ UL w' g2 q fv /\ Below W.heap.size W w'
  v2 : ∀ W5 W aT cT aV cV,Q W5 W -> IR W aT (snds (psF vs rs nd pk vs.length)) -> VR W aV vals -> Calls Tryz.prog 16 #[.pointer (some ⟨B,0,none⟩),.slice aT (psF vs rs nd pk vs.length).length cT,.slice aV vs.length cV] W fun e w' => ∃ g2,e = .returned (.tuple #[.slice (some ⟨g2,0,none⟩) (psF vs rs nd pk vs.length).length (psF vs rs nd pk vs.length).length,.int .i64 0]) /\ UL w' g2 (psF vs rs nd pk vs.length).length fi /\ Below W.heap.size W w'
  v3 : ∀ W5 W aV cV,Q W5 W -> VR W aV (vals.map (valU (psF vs rs nd pk vs.length) fi (psF vs rs nd pk vs.length).length)) -> Calls Tryz.prog 16 #[.pointer (some ⟨B,0,none⟩),.slice aR q cR,.slice aV vs.length cV] W fun e w' => ∃ g2,e = .returned (.tuple #[.slice (some ⟨g2,0,none⟩) q q,.int .i64 0]) /\ UL w' g2 q fv /\ Below W.heap.size W w'
theorem r4_irs {w3 : World} {o : List ByteArray} {s : List Int} {n : List ByteArray} {t : List Int} {vO vS vN : Value} {aT : Option Addr} {m c : Nat} {W : World} (h : R4 w3 o s n t vO vS vN (.slice aT m c) W) (hm : t.length = m) : IR W aT t /\ ∀ b o,aT = some ⟨b,o,none⟩ -> 0 < t.length -> w3.heap.size <= b := by
  obtain ⟨ad,c',e,h1,h2⟩ := own_irs h.rt hm
  injection e with e1
  subst e1; exact ⟨h1,h2⟩
theorem r4_nmr {w3 : World} {o : List ByteArray} {s : List Int} {n : List ByteArray} {t : List Int} {vO vS vT : Value} {aN : Option Addr} {m c : Nat} {W : World} (h : R4 w3 o s n t vO vS (.slice aN m c) vT W) (hm : n.length = m) : NMR W aN n /\ ∀ b o,aN = some ⟨b,o,none⟩ -> 0 < n.length -> w3.heap.size <= b := by
  obtain ⟨ad,c',e,h1,h2⟩ := own_nmr h.rn hm
  injection e with e1
  subst e1; exact ⟨h1,h2⟩
theorem pm_any (s : ByteArray) {q nU nP cP cU : Nat} {aP aU : Option Addr} {rs pk : List Int} {nums : List Nat} (w : World) (hq : q <= 1048576) (hP : pk.length = nP) (hnP : nP <= 1048576) (hPI : IR w aP pk) (hNU : G2.NR w aU nums)
    (hLv : Calls Tryz.prog 7 #[] w fun e w' => e = .returned (.bool true) /\ Below w.heap.size w w')
    (hLd : ∀ W,Below w.heap.size w W -> Calls Tryz.prog 8 #[.string s] W fun e w' => Below W.heap.size W w' /\ ((∃ v1 v2,e = .returned (.tuple #[v1,v2,.bool false])) ∨ ∃ B aR cR vs ix nd fa fi fv vals H0 Q,w.heap.size <= H0 /\ e = .returned (.tuple #[.pointer (some ⟨B,0,none⟩),.slice aR q cR,.bool true]) /\ PMF w' B q aR cR rs vs ix nd pk aU cU nU nums fa fi fv vals H0 Q)) :
    Calls Tryz.prog 3 #[.string s,.slice aU nU cU,.slice aP nP cP] w fun e w' => e = .returned (.bool true) /\ Below w.heap.size w w' := by
  have HNo : Hid (∀ (e : Int) (W : World),Calls Tryz.prog 10 #[.int .i64 e] W fun E w' => E = .returned (.int .i64 e) /\ w' = W) := no_any; have HLv : Hid (Calls Tryz.prog 7 #[] w fun e w' => e = .returned (.bool true) /\ Below w.heap.size w w') := hLv; have HLd := Lib.hid hLd; have HPI : Hid (IR w aP pk) := hPI; have HPL : Hid (pk.length = nP) := hP; have HNU : Hid (G2.NR w aU nums) := hNU; clear hLv hLd hPI hP hNU; obtain ⟨iI,hiI,hzI0,hzI1,hzI2⟩ := info_parts (P := Tryz.prog) (e := 3) (z := .int .i64 0) (size := 1) (bytes := 8) (by kernel_rfl); obtain ⟨iS,hiS,hzS0,hzS1,hzS2⟩ := info_parts (P := Tryz.prog) (e := 9) (z := .string ⟨#[]⟩) (size := 1) (bytes := 16) (by kernel_rfl)
  go_enter Tryz.func3,Tryz.ntmps3
  go_wp2_with fail
  refine HLv.out.mono ?_; rintro e w1 ⟨rfl,hb1⟩; have H1 : Hid (Below w.heap.size w w1) := hb1; clear hb1 HLv
  go_wp2_with fail
  refine (HLd.out w1 H1.out).mono ?_; rintro e w2 ⟨hb2,⟨v1,v2,rfl⟩ | ⟨B,aR,cR,vs,ix,nd,fa,fi,fv,vals,H0,Q,hH0,rfl,hng⟩⟩
  · have H2 : Hid (Below w.heap.size w w2) := H1.out.trans (below_le' hb2 H1.out.size)
    clear hb2 HLd H1
    go_wp2_with fail
    first
      | exact ⟨rfl,H2.out⟩
      | (go_ret; exact ⟨rfl,H2.out⟩)
      | (go_ret2; exact ⟨rfl,H2.out⟩)
  have H2 : Hid (Below w.heap.size w w2) := H1.out.trans (below_le' hb2 H1.out.size); have HG := Lib.hid hng; clear hb2 hng HLd H1; obtain ⟨nv,hnv⟩ : ∃ nv,vs.length = nv := ⟨_,rfl⟩; have HNV : Hid (vs.length = nv) := hnv; have hnl : nv <= 1000000000000 := by rw [<- hnv]; exact HG.out.vn
  clear hnv; have HVA := Lib.hid HG.out.va; rw [HNV.out] at HVA
  go_wp2_with fail
  refine HVA.out.mono ?_; rintro e w3 ⟨aV,cV,rfl,hv3,hg3,hb3⟩; have H3 : Hid (VR w3 aV vs /\ Below w2.heap.size w2 w3) := ⟨hv3,hb3⟩; have HGV : Hid (∀ b o,aV = some ⟨b,o,none⟩ -> 0 < nv -> w2.heap.size <= b) := hg3; clear hv3 hb3 HVA hg3
  go_wp2_with fail
  refine (HNo.out _ _).mono ?_; rintro e wn ⟨rfl,hwn⟩; subst wn
  go_wp2_with fail
  go_loopg [12,13,14,15,16] nv (fun gk s12 s13 s14 s15 s16 wr => ∃ (i : Nat) (aN aO aT aS : Option Addr) (cN cO cT cS : Nat),s12 = .slice aN (psF vs rs nd pk i).length cN /\ s13 = .slice aO i cO /\ s14 = .slice aT (psF vs rs nd pk i).length cT /\ s15 = .slice aS i cS /\ s16 = .int .i64 (i : Int) /\ i + gk = nv /\ R4 w3 (fsts (poF vs ix i)) (snds (poF vs ix i)) (fsts (psF vs rs nd pk i)) (snds (psF vs rs nd pk i)) s13 s15 s12 s14 wr)
  case atStart => exact ⟨0,none,none,none,none,0,0,0,0,rfl,rfl,rfl,rfl,rfl,by omega,⟨World.ownsRow_nil _ _ _ _,World.ownsRow_nil _ _ _ _,World.ownsRow_nil _ _ _ _,World.ownsRow_nil _ _ _ _,(fun g h => by cases h),(fun g h => by cases h),Below.refl _ _⟩⟩
  case round =>
    obtain ⟨i,aN,aO,aT,aS,cN,cO,cT,cS,rfl,rfl,rfl,rfl,rfl,hik,hr4⟩ := hrel; have HR := Lib.hid hr4; clear hr4
    by_cases hlt : i < nv
    · have hlx : i < vs.length := by rw [HNV.out]; exact hlt
      have q1 : (i : Int) < (nv : Int) := by omega
      obtain ⟨b,o,rfl,hbl,hc⟩ := H3.out.1 (by omega); obtain ⟨e1,e2,-⟩ := hc i hlx; have HC : Hid (∀ W,Below w3.heap.size w3 W -> W.cell? ⟨b,o + i * 3,none⟩ = some (.string (vs.getD i vZ).nm) /\ W.cell? ⟨b,o + i * 3 + 1,none⟩ = some (.int .i64 (vs.getD i vZ).w)) := fun W hb => ⟨(hb.cell (block_lt_of_cell e1)).trans e1,(hb.cell (block_lt_of_cell e2)).trans e2⟩
      obtain ⟨c1,c2⟩ := HC.out wr HR.out.bel; clear e1 e2; have HVr : Hid (∀ W,Below wr.heap.size wr W -> Calls Tryz.prog 11 #[.pointer (some ⟨B,0,none⟩),.string (vs.getD i vZ).nm,.int .i64 (vs.getD i vZ).w] W fun e w' => e = .returned (.tuple #[.int .i64 (ix i : Int),.int .i64 0]) /\ Below W.heap.size W w') := fun W hb => HG.out.vr W i ((H3.out.2.trans (below_le' HR.out.bel H3.out.2.size)).trans (below_le' hb (by have := H3.out.2.size; have := HR.out.bel.size; omega))) hlx
      have HPO : Hid (poF vs ix (i + 1) = poF vs ix i ++ [((vs.getD i vZ).nm,ix i)]) := rfl; have HPS : Hid (psF vs rs nd pk (i + 1) = psF vs rs nd pk i ++ psS vs rs nd pk i) := rfl; have HPJ : Hid (psS vs rs nd pk i = match pkJ rs.length pk i with | none => [] | some j => if (nd j).w = (vs.getD i vZ).w then [((vs.getD i vZ).nm,(rs.getD j 0).toNat)] else []) := rfl; clear hc
      generalize (vs.getD i vZ).nm = nm at *
      generalize (vs.getD i vZ).w = xw at *
      have hmp := ps_len vs rs nd pk i
      go_wp2_with fail
      have hz0 : Below wr.heap.size wr wr.drew := ⟨rfl,rfl,rfl,Nat.le_refl _,fun _ _ => rfl⟩; refine sq_start (fun X => Below wr.heap.size wr X) [11] [0,1,2,3,4,5,6,7,8,9,10,11,12,13,14,15,16] (by kernel_rfl) (by kernel_rfl) hz0 ?_
      repeat (refine sq_op (v := ?_) (by rfl) (by rfl) (by rfl) ?_ ?_; rotate_left; (focus (intro w hSw; have d1 := (hSw.cell (block_lt_of_cell c1)).trans c1; have d2 := (hSw.cell (block_lt_of_cell c2)).trans c2; go_simp <;> with_reducible rfl)); simp only [Act.put,List.setIfInBounds_toArray,List.set_cons_zero,List.set_cons_succ])
      refine sq_do (by rfl) (by rfl) (by rfl) (fun K hK => ?_)
      go_simp
      go_at_call 11
      refine (HVr.out _ hz0).mono ?_; rintro e w4 ⟨rfl,hb4⟩; have hz4 := hz0.trans (below_le' hb4 hz0.size); refine hK.out _ _ hz4 (fun _ => ?_); clear hK K
      try simp only [Act.put,List.setIfInBounds_toArray,List.set_cons_zero,List.set_cons_succ]
      repeat (refine sq_op (v := ?_) (by rfl) (by rfl) (by rfl) ?_ ?_; rotate_left; (focus (intro w hSw; go_simp <;> with_reducible rfl)); simp only [Act.put,List.setIfInBounds_toArray,List.set_cons_zero,List.set_cons_succ])
      refine sq_end (fun _ => ?_); have HR4 := Lib.hid (HR.out.over hz4); have d1 := (hz4.cell (block_lt_of_cell c1)).trans c1; clear hb4 hz4 hz0 c1 c2 HVr HR; have hpl : (fsts (poF vs ix i)).length = i := by unfold fsts; rw [List.length_map,po_len]
      have hpl2 : (snds (poF vs ix i)).length = i := by unfold snds; rw [List.length_map,po_len]
      have HSZ : Hid (w3.heap.size <= w4.heap.size) := HR4.out.bel.size; have hsz4 := HSZ.out; have HRW : Hid (∀ o',World.ownsRow (w4.alloc o') w3.heap.size 9 1 (.slice aO i cO) i (sVs (fsts (poF vs ix i)))) := fun o' => by
        have h1 := (HR4.out.over (bel1 w4 o')).ro; rw [hpl] at h1; exact h1
      go_wp2_with fail
      refine (HNo.out _ _).mono ?_; rintro e wn ⟨rfl,hwn⟩; subst wn
      go_wp2_with (at_builtin; refine wpList_append_lies _ rfl _ _ 33 rfl w3.heap.size 9 iS (.string ⟨#[]⟩) 1 16 Tryz.underlying33 hiS hzS0 hzS1 hzS2 rfl (by decide) _ _ _ rfl (HRW.out _) ⟨w4.heap.size,0,none⟩ 1 1 [.string nm] rfl rfl (cell_one_new _ _ _) (by intro u hu; simp at hu; subst hu; rfl) (by omega) (by unfold maxLen; omega) (by omega) (by simp; omega) (w4.heap.size + 1) (by simp) ?_; intro g5 cap5 w5 hown5 hgrow5 hat5 hlt5; have HM5 : Hid (R4 w3 (fsts (poF vs ix i) ++ [nm]) (snds (poF vs ix i)) (fsts (psF vs rs nd pk i)) (snds (psF vs rs nd pk i)) (.slice (some ⟨g5,0,none⟩) (i + 1) cap5) (.slice aS i cS) (.slice aN (psF vs rs nd pk i).length cN) (.slice aT (psF vs rs nd pk i).length cT) w5) := HR4.out.pushO hpl hown5 hgrow5 (hat5.imp id (fun h => by omega)); clear hown5 hgrow5 hat5 hlt5; refine Hid.out ?_)
      refine Lib.hid ?_; have hsz5 := HM5.out.bel.size; have HRW5 : Hid (∀ o',World.ownsRow (w5.alloc o') w3.heap.size 3 1 (.slice aS i cS) i (iVs (snds (poF vs ix i)))) := fun o' => by
        have h1 := (HM5.out.over (bel1 w5 o')).rs; rw [hpl2] at h1; exact h1
      go_wp2_with (at_builtin; refine wpList_append_lies _ rfl _ _ 23 rfl w3.heap.size 3 iI (.int .i64 0) 1 8 Tryz.underlying23 hiI hzI0 hzI1 hzI2 rfl (by decide) _ _ _ rfl (HRW5.out _) ⟨w5.heap.size,0,none⟩ 1 1 [.int .i64 (ix i : Int)] rfl rfl (cell_one_new _ _ _) (by intro u hu; simp at hu; subst hu; rfl) (by omega) (by unfold maxLen; omega) (by omega) (by simp; omega) (w5.heap.size + 1) (by simp) ?_; intro g6 cap6 w6 hown6 hgrow6 hat6 hlt6; have HM6 : Hid (R4 w3 (fsts (poF vs ix (i + 1))) (snds (poF vs ix (i + 1))) (fsts (psF vs rs nd pk i)) (snds (psF vs rs nd pk i)) (.slice (some ⟨g5,0,none⟩) (i + 1) cap5) (.slice (some ⟨g6,0,none⟩) (i + 1) cap6) (.slice aN (psF vs rs nd pk i).length cN) (.slice aT (psF vs rs nd pk i).length cT) w6) := (by rw [HPO.out]; unfold fsts snds; rw [List.map_append,List.map_append]; exact HM5.out.pushS hpl2 hown6 hgrow6 (hat6.imp id (fun h => by omega))); clear hown6 hgrow6 hat6 hlt6; refine Hid.out ?_)
      refine Lib.hid ?_; clear HRW HRW5 HM5 HR4 hsz4 hsz5 hpl hpl2 HSZ HPO; have HPQ : Hid (rs.length = q) := HG.out.rq
      by_cases hP0 : nP = 0 ∨ q = 0
      · have HPE : Hid (psF vs rs nd pk (i + 1) = psF vs rs nd pk i) := Lib.hid (by
          rw [HPS.out,HPJ.out]; unfold pkJ; rw [if_pos (by rw [HPL.out,HPQ.out]; exact hP0)]; exact List.append_nil _)
        clear HPS HPJ
        by_cases hP1 : nP = 0
        · subst hP1
          clear hP0
          go_wp2_with fail
          go_roundg (nv - (i + 1))
          case measure => omega
          case rel => exact ⟨i + 1,_,_,_,_,_,_,_,_,by rw [HPE.out],rfl,by rw [HPE.out],rfl,by simp,by omega,by rw [HPE.out]; exact HM6.out⟩
        have hq0 : q = 0 := hP0.resolve_left hP1; have q7 : ((nP : Int) == 0) = false := by rw [beq_eq_false_iff_ne]; omega
        subst hq0; clear hP0
        go_wp2_with fail
        go_roundg (nv - (i + 1))
        case measure => omega
        case rel => exact ⟨i + 1,_,_,_,_,_,_,_,_,by rw [HPE.out],rfl,by rw [HPE.out],rfl,by simp,by omega,by rw [HPE.out]; exact HM6.out⟩
      have hP1 : 0 < nP := by omega
      have hP2 : 0 < q := by omega
      have q7 : ((nP : Int) == 0) = false := by rw [beq_eq_false_iff_ne]; omega
      have q8 : ((q : Int) == 0) = false := by rw [beq_eq_false_iff_ne]; omega
      have hjm : i % nP < nP := Nat.mod_lt _ hP1; have HPJ2 : Hid (psS vs rs nd pk i = match (if pk.getD (i % nP) 0 < 0 then none else some ((pk.getD (i % nP) 0).toNat % q)) with | none => [] | some j => if (nd j).w = xw then [(nm,(rs.getD j 0).toNat)] else []) := Lib.hid (by
        rw [HPJ.out]; unfold pkJ; rw [if_neg (by rw [HPL.out,HPQ.out]; exact hP0),HPL.out,HPQ.out])
      have HB6 : Hid (Below w.heap.size w w6 /\ Below w2.heap.size w2 w6) := by
        have h1 := H3.out.2.trans (below_le' HM6.out.bel H3.out.2.size); exact ⟨H2.out.trans (below_le' h1 H2.out.size),h1⟩
      obtain ⟨bp,op,hap,hbp,hcp⟩ := HPI.out (by rw [HPL.out]; exact hP1); subst hap; have p0 := hcp (i % nP) (by rw [HPL.out]; exact hjm); have p1 := (HB6.out.1.cell (block_lt_of_cell p0)).trans p0; have qmm : (i : Int) % (nP : Int) = ((i % nP : Nat) : Int) := by omega
      have qm0 : ¬ (nP : Int) = 0 := by omega
      have qmp : 0 < (nP : Int) := by omega
      have qjm : ((i % nP : Nat) : Int) < (nP : Int) := by omega
      clear hP0 HPJ p0 hcp
      generalize pk.getD (i % nP) 0 = kk at *
      generalize i % nP = jj at *
      by_cases hk0 : kk < 0
      · have HPE : Hid (psF vs rs nd pk (i + 1) = psF vs rs nd pk i) := Lib.hid (by
          rw [HPS.out,HPJ2.out,if_pos hk0]; exact List.append_nil _)
        clear HPS HPJ2
        go_wp2_with fail
        go_roundg (nv - (i + 1))
        case measure => omega
        case rel => exact ⟨i + 1,_,_,_,_,_,_,_,_,by rw [HPE.out],rfl,by rw [HPE.out],rfl,by simp,by omega,by rw [HPE.out]; exact HM6.out⟩
      obtain ⟨kn,rfl⟩ : ∃ kn : Nat,kk = (kn : Int) := ⟨kk.toNat,by omega⟩; rw [if_neg hk0] at HPJ2; rw [Int.toNat_natCast] at HPJ2
      dsimp only at HPJ2
      have hjq : kn % q < q := Nat.mod_lt _ hP2; have qkk : (kn : Int) % (q : Int) = ((kn % q : Nat) : Int) := by omega
      have qq0 : ¬ (q : Int) = 0 := by omega
      have qqp : 0 < (q : Int) := by omega
      have qjq : ((kn % q : Nat) : Int) < (q : Int) := by omega
      obtain ⟨br,orr,har,hbr,hcr⟩ := HG.out.ir (by rw [HPQ.out]; exact hP2); have r0 := hcr (kn % q) (by rw [HPQ.out]; exact hjq); have r1 := (HB6.out.2.cell (block_lt_of_cell r0)).trans r0; have HNd := Lib.hid (HG.out.no w6 (kn % q) HB6.out.2 hjq); have HRP : Hid (((rs.getD (kn % q) 0).toNat : Int) = rs.getD (kn % q) 0) := Lib.hid (Int.toNat_of_nonneg (HG.out.pos _ (by rw [List.getD_eq_getElem?_getD,List.getElem?_eq_getElem (by rw [HPQ.out]; exact hjq)]; exact List.getElem_mem _))); subst har; clear hcr r0
      generalize kn % q = jq at *
      generalize (rs.getD jq 0).toNat = rn at *
      generalize rs.getD jq 0 = rt at *
      generalize nd jq = n0 at *
      obtain ⟨nop,nw,na,nb,nc,nnum,nnm⟩ := n0; unfold nodeV at HNd
      dsimp only at HNd HPJ2
      go_wp2_with fail
      refine HNd.out.mono ?_; rintro e w7 ⟨rfl,hb7⟩; have HM7 := Lib.hid (HM6.out.over hb7); obtain ⟨c1,c2⟩ := HC.out w7 HM7.out.bel; have hbl7 := block_lt_of_cell c1; have k1 : ∀ ob,(w7.alloc ob).cell? ⟨b,o + i * 3,none⟩ = some (.string nm) := fun ob => ((bel1 w7 ob).cell hbl7).trans c1
      have k2 : ∀ ob,(w7.alloc ob).cell? ⟨b,o + i * 3 + 1,none⟩ = some (.int .i64 xw) := fun ob => ((bel1 w7 ob).cell (block_lt_of_cell c2)).trans c2
      clear hb7 HNd
      go_wp2_with fail
      have hz8 : Below (w7.alloc (Obj.cells #[.int .i64 nop,.int .i64 nw,.int .i64 na,.int .i64 nb,.int .i64 nc,.int .u64 nnum,.string nnm] 40)).heap.size (w7.alloc (Obj.cells #[.int .i64 nop,.int .i64 nw,.int .i64 na,.int .i64 nb,.int .i64 nc,.int .u64 nnum,.string nnm] 40)) (w7.alloc (Obj.cells #[.int .i64 nop,.int .i64 nw,.int .i64 na,.int .i64 nb,.int .i64 nc,.int .u64 nnum,.string nnm] 40)).drew := ⟨rfl,rfl,rfl,Nat.le_refl _,fun _ _ => rfl⟩; have HN8 : Hid ((w7.alloc (Obj.cells #[.int .i64 nop,.int .i64 nw,.int .i64 na,.int .i64 nb,.int .i64 nc,.int .u64 nnum,.string nnm] 40)).cell? ⟨w7.heap.size,1,none⟩ = some (.int .i64 nw)) := blk_cell (heap_alloc_new w7 _) 1; have HM8 : Hid (∀ ob,R4 w3 (fsts (poF vs ix (i + 1))) (snds (poF vs ix (i + 1))) (fsts (psF vs rs nd pk i)) (snds (psF vs rs nd pk i)) (.slice (some ⟨g5,0,none⟩) (i + 1) cap5) (.slice (some ⟨g6,0,none⟩) (i + 1) cap6) (.slice aN (psF vs rs nd pk i).length cN) (.slice aT (psF vs rs nd pk i).length cT) (w7.alloc ob).drew) := fun ob => HM7.out.over ((bel1 w7 ob).trans ⟨rfl,rfl,rfl,Nat.le_refl _,fun _ _ => rfl⟩)
      obtain ⟨eqw,heqw⟩ : ∃ eqw,(nw == xw) = eqw := ⟨_,rfl⟩; refine sq_start (fun X => Below (w7.alloc (Obj.cells #[.int .i64 nop,.int .i64 nw,.int .i64 na,.int .i64 nb,.int .i64 nc,.int .u64 nnum,.string nnm] 40)).heap.size (w7.alloc (Obj.cells #[.int .i64 nop,.int .i64 nw,.int .i64 na,.int .i64 nb,.int .i64 nc,.int .u64 nnum,.string nnm] 40)) X) [1] [0,1,2,3,4,5,6,7,8,9,10,11,12] (by kernel_rfl) (by kernel_rfl) hz8 ?_
      repeat (refine sq_op (v := ?_) (by rfl) (by rfl) (by rfl) ?_ ?_; rotate_left; (focus (intro w hSw; go_simp <;> with_reducible rfl)); simp only [Act.put,List.setIfInBounds_toArray,List.set_cons_zero,List.set_cons_succ])
      refine sq_do (by rfl) (by rfl) (by rfl) (fun K hK => ?_)
      go_simp
      go_at_call 10
      refine (HNo.out _ _).mono ?_; rintro e wn ⟨rfl,hwn⟩; subst wn; refine hK.out _ _ hz8 (fun _ => ?_); clear hK K
      try simp only [Act.put,List.setIfInBounds_toArray,List.set_cons_zero,List.set_cons_succ]
      repeat (refine sq_op (v := ?_) (by rfl) (by rfl) (by rfl) ?_ ?_; rotate_left; (focus (intro w hSw; have d1 := (hSw.cell (block_lt_of_cell HN8.out)).trans HN8.out; have d2 := (hSw.cell (block_lt_of_cell (k2 (Obj.cells #[.int .i64 nop,.int .i64 nw,.int .i64 na,.int .i64 nb,.int .i64 nc,.int .u64 nnum,.string nnm] 40)))).trans (k2 _); go_simp <;> with_reducible rfl)); simp only [Act.put,List.setIfInBounds_toArray,List.set_cons_zero,List.set_cons_succ])
      refine sq_end (fun _ => ?_); have HM9 := Lib.hid (HM8.out (Obj.cells #[.int .i64 nop,.int .i64 nw,.int .i64 na,.int .i64 nb,.int .i64 nc,.int .u64 nnum,.string nnm] 40))
      generalize (w7.alloc (Obj.cells #[.int .i64 nop,.int .i64 nw,.int .i64 na,.int .i64 nb,.int .i64 nc,.int .u64 nnum,.string nnm] 40)).drew = w9 at *
      clear hz8 HN8 HM8 HM7 k2 k1 c1 c2 hbl7; cases eqw with
      | false =>
        have HPE : Hid (psF vs rs nd pk (i + 1) = psF vs rs nd pk i) := Lib.hid (by
          rw [HPS.out,HPJ2.out,if_neg (by simpa using heqw)]; exact List.append_nil _)
        clear HPS HPJ2 heqw
        go_wp2_with fail
        go_roundg (nv - (i + 1))
        case measure => omega
        case rel => exact ⟨i + 1,_,_,_,_,_,_,_,_,by rw [HPE.out],rfl,by rw [HPE.out],rfl,by simp,by omega,by rw [HPE.out]; exact HM9.out⟩
      | true =>
        have HPE : Hid (psF vs rs nd pk (i + 1) = psF vs rs nd pk i ++ [(nm,rn)]) := Lib.hid (by
          rw [HPS.out,HPJ2.out,if_pos (by simpa using heqw)])
        clear HPS HPJ2 heqw; obtain ⟨mm,hmm⟩ : ∃ mm,(psF vs rs nd pk i).length = mm := ⟨_,rfl⟩; have hpl : (fsts (psF vs rs nd pk i)).length = mm := by unfold fsts; rw [List.length_map,hmm]
        have hpl2 : (snds (psF vs rs nd pk i)).length = mm := by unfold snds; rw [List.length_map,hmm]
        have HL : Hid ((psF vs rs nd pk (i + 1)).length = mm + 1) := Lib.hid (by rw [HPE.out,List.length_append,hmm]; rfl); rw [hmm] at HM9 hmp ⊢; have hsz9 := HM9.out.bel.size; have HRW9 : Hid (∀ o',World.ownsRow (w9.alloc o') w3.heap.size 9 1 (.slice aN mm cN) mm (sVs (fsts (psF vs rs nd pk i)))) := fun o' => by
          have h1 := (HM9.out.over (bel1 w9 o')).rn; rw [hpl] at h1; exact h1
        have HK9 : Hid (∀ W,Below w3.heap.size w3 W -> W.cell? ⟨b,o + i * 3,none⟩ = some (.string nm)) := fun W hb => (HC.out W hb).1
        have c9 := HK9.out w9 HM9.out.bel; clear hmm
        go_wp2_with (at_builtin; refine wpList_append_lies _ rfl _ _ 33 rfl w3.heap.size 9 iS (.string ⟨#[]⟩) 1 16 Tryz.underlying33 hiS hzS0 hzS1 hzS2 rfl (by decide) _ _ _ rfl (HRW9.out _) ⟨w9.heap.size,0,none⟩ 1 1 [.string nm] rfl rfl (cell_one_new _ _ _) (by intro u hu; simp at hu; subst hu; rfl) (by omega) (by unfold maxLen; omega) (by omega) (by simp; omega) (w9.heap.size + 1) (by simp) ?_; intro g10 cap10 w10 hown10 hgrow10 hat10 hlt10; have HM10 := Lib.hid (HM9.out.swap.pushO hpl hown10 hgrow10 (hat10.imp id (fun h => by omega))); clear hown10 hgrow10 hat10 hlt10; refine Hid.out ?_)
        refine Lib.hid ?_; have hsz10 := HM10.out.bel.size; have HRW10 : Hid (∀ o',World.ownsRow (w10.alloc o') w3.heap.size 3 1 (.slice aT mm cT) mm (iVs (snds (psF vs rs nd pk i)))) := fun o' => by
          have h1 := (HM10.out.over (bel1 w10 o')).rs; rw [hpl2] at h1; exact h1
        go_wp2_with (at_builtin; refine wpList_append_lies _ rfl _ _ 23 rfl w3.heap.size 3 iI (.int .i64 0) 1 8 Tryz.underlying23 hiI hzI0 hzI1 hzI2 rfl (by decide) _ _ _ rfl (HRW10.out _) ⟨w10.heap.size,0,none⟩ 1 1 [.int .i64 rt] rfl rfl (cell_one_new _ _ _) (by intro u hu; simp at hu; subst hu; rfl) (by omega) (by unfold maxLen; omega) (by omega) (by simp; omega) (w10.heap.size + 1) (by simp) ?_; intro g11 cap11 w11 hown11 hgrow11 hat11 hlt11; have HM11 := Lib.hid (HM10.out.pushS hpl2 hown11 hgrow11 (hat11.imp id (fun h => by omega))).swap; clear hown11 hgrow11 hat11 hlt11)
        go_roundg (nv - (i + 1))
        case measure => omega
        case rel =>
          refine ⟨i + 1,_,_,_,_,_,_,_,_,by rw [HL.out],rfl,by rw [HL.out],rfl,by simp,by omega,?_⟩; rw [HPE.out]; unfold fsts snds; rw [List.map_append,List.map_append]
          show R4 w3 _ _ (fsts (psF vs rs nd pk i) ++ [nm]) (snds (psF vs rs nd pk i) ++ [((rn : Nat) : Int)]) _ _ _ _ _
          rw [HRP.out]; exact HM11.out
    have hki : i = nv := by omega
    subst hki; have hpsl := ps_len vs rs nd pk i; have hS3 := H3.out.2.size; have HBR : Hid (Below w2.heap.size w2 wr) := H3.out.2.trans (below_le' HR.out.bel hS3); obtain ⟨t1,t2⟩ := r4_irs HR.out (by unfold snds; rw [List.length_map]); obtain ⟨t3,t4⟩ := r4_nmr HR.out (by unfold fsts; rw [List.length_map]); obtain ⟨t5,t6⟩ := r4_irs HR.out.swap (by unfold snds; rw [List.length_map,po_len]); obtain ⟨t7,t8⟩ := r4_nmr HR.out.swap (by unfold fsts; rw [List.length_map,po_len]); have HT : Hid ((IR wr aT (snds (psF vs rs nd pk i)) /\ ∀ b o,aT = some ⟨b,o,none⟩ -> 0 < (snds (psF vs rs nd pk i)).length -> w2.heap.size <= b) /\ (NMR wr aN (fsts (psF vs rs nd pk i)) /\ ∀ b o,aN = some ⟨b,o,none⟩ -> 0 < (fsts (psF vs rs nd pk i)).length -> w2.heap.size <= b)) := ⟨⟨t1,fun b o e h => Nat.le_trans hS3 (t2 b o e h)⟩,⟨t3,fun b o e h => Nat.le_trans hS3 (t4 b o e h)⟩⟩; have HO : Hid ((IR wr aS (snds (poF vs ix i)) /\ ∀ b o,aS = some ⟨b,o,none⟩ -> 0 < (snds (poF vs ix i)).length -> w2.heap.size <= b) /\ (NMR wr aO (fsts (poF vs ix i)) /\ ∀ b o,aO = some ⟨b,o,none⟩ -> 0 < (fsts (poF vs ix i)).length -> w2.heap.size <= b)) := ⟨⟨t5,fun b o e h => Nat.le_trans hS3 (t6 b o e h)⟩,⟨t7,fun b o e h => Nat.le_trans hS3 (t8 b o e h)⟩⟩; have HVW : Hid (VR wr aV vs) := H3.out.1.below HR.out.bel; have HP1 := Lib.hid HG.out.p1; have HP2 := Lib.hid HG.out.p2; have HP3 := Lib.hid HG.out.p3; have HDR := Lib.hid HG.out.dr; have HV1 := Lib.hid HG.out.v1; have HV2 := Lib.hid HG.out.v2; have HV3 := Lib.hid HG.out.v3; rw [HNV.out] at HP1 HP2 HDR HV1 HV2 HV3; obtain ⟨ps,hps⟩ : ∃ ps,psF vs rs nd pk i = ps := ⟨_,rfl⟩; have HPSE : Hid (psF vs rs nd pk i = ps) := hps; rw [hps] at HP1 HV2 HV3 HT hpsl ⊢; obtain ⟨m,hm⟩ : ∃ m,ps.length = m := ⟨_,rfl⟩; have HM : Hid (ps.length = m) := hm; rw [hm] at HP1 HV2 HV3 hpsl ⊢; clear t1 t2 t3 t4 t5 t6 t7 t8 HR H3 hps hm hlt
    go_wp2_with fail
    refine (HP1.out wr aN cN aT cT HBR.out HT.out.2.1 HT.out.1.1).mono ?_; rintro e w10 ⟨ga,rfl,hua,hq10⟩; have H10 : Hid (GI.UL w10 ga q fa /\ Q wr w10) := ⟨hua,hq10⟩; clear hua hq10 HP1
    go_wp2_with fail
    refine (HP2.out wr w10 aO cO aS cS HBR.out H10.out.2 (HG.out.qn wr w10 _ _ H10.out.2 HO.out.2.1 HO.out.2.2) (HG.out.qi wr w10 _ _ H10.out.2 HO.out.1.1 HO.out.1.2)).mono ?_; rintro e w11 ⟨gb,rfl,hub,hq11,hk11⟩; have H11 : Hid (GI.UL w11 ga q fa /\ GI.UL w11 gb q (fun j => (rs.getD j 0).toNat) /\ Q wr w11) := ⟨hk11 _ _ _ H10.out.1,hub,hq11⟩; clear hub hq11 hk11 HP2 H10
    go_wp2_with fail
    refine (HP3.out wr w11 HBR.out H11.out.2.2).mono ?_; rintro e w12 ⟨gc,rfl,huc,hq12,hk12⟩; have H12 : Hid (GI.UL w12 ga q fa /\ GI.UL w12 gb q (fun j => (rs.getD j 0).toNat) /\ GI.UL w12 gc q (fun j => (rs.getD j 0).toNat) /\ Q wr w12) := ⟨hk12 _ _ _ H11.out.1,hk12 _ _ _ H11.out.2.1,huc,hq12⟩; clear huc hq12 hk12 HP3 H11
    go_wp2_with fail
    refine (HNo.out _ _).mono ?_; rintro e wn ⟨rfl,hwn⟩; subst wn
    go_wp2_with fail
    refine (HNo.out _ _).mono ?_; rintro e wn ⟨rfl,hwn⟩; subst wn
    go_wp2_with fail
    refine (HNo.out _ _).mono ?_; rintro e wn ⟨rfl,hwn⟩; subst wn; have HSI : Hid (∀ W g,GI.UL W g q (fun j => (rs.getD j 0).toNat) -> Q wr W -> Calls Tryz.prog 14 #[.slice (some ⟨g,0,none⟩) q q,.slice aR q cR] W fun e w' => e = .returned (.bool true) /\ Below W.heap.size W w') := fun W g h1 h2 => by
      have hs := GI.sints_any (cX := q) (cY := cR) (xs := rs) W (GI.ul_ir h1 HG.out.rq HG.out.pos) (HG.out.qr wr W h2) (by rw [HG.out.rq]; omega); rw [HG.out.rq] at hs; refine hs.mono ?_; rintro e w' ⟨rfl,n,rfl⟩; exact ⟨rfl,rfl,rfl,rfl,Nat.le_refl _,fun _ _ => rfl⟩
    go_wp2_with fail
    refine (HSI.out w12 gb H12.out.2.1 H12.out.2.2.2).mono ?_; rintro e w13 ⟨rfl,hb13⟩; have H13 : Hid (GI.UL w13 ga q fa /\ GI.UL w13 gc q (fun j => (rs.getD j 0).toNat) /\ Q wr w13) := ⟨H12.out.1.below hb13,H12.out.2.2.1.below hb13,HG.out.qb _ _ _ H12.out.2.2.2 hb13⟩; clear hb13 H12
    go_wp2_with fail
    refine (HSI.out w13 gc H13.out.2.1 H13.out.2.2).mono ?_; rintro e w14 ⟨rfl,hb14⟩; have H14 : Hid (GI.UL w14 ga q fa /\ Q wr w14) := ⟨H13.out.1.below hb14,HG.out.qb _ _ _ H13.out.2.2 hb14⟩; clear hb14 H13 HSI; have q9 : ((q : Int) != (q : Int)) = false := by simp
    go_wp2_with fail
    have HV14 : Hid (VR w14 aV vs) := HG.out.qv wr w14 _ _ H14.out.2 HVW.out (by rw [HNV.out]; exact HGV.out); have HN14 : Hid (G2.NR w14 aU nums) := Lib.hid (fun h0 => by
      obtain ⟨b,o,e,hl,hc⟩ := HNU.out h0; have h1 := (HG.out.ql wr w14 b H14.out.2 (by omega)).trans ((H2.out.trans (below_le' HBR.out H2.out.size)).block b hl); refine ⟨b,o,e,?_,fun j hj => (World.cell?_of_block (a := ⟨b,o + j,none⟩) h1).trans (hc j hj)⟩; have h3 := HG.out.qs wr w14 H14.out.2; have h4 := HBR.out.size; have h5 := H2.out.size
      omega)
    refine (HDR.out w14 aV cV HV14.out HN14.out).mono ?_; rintro e w15 ⟨vV15,rfl,hvn⟩; have H15 : Hid (G2.VN w14 vals vV15 w15 /\ GI.UL w15 ga q fa /\ Q wr w15) := ⟨hvn,H14.out.1.below hvn.bel,HG.out.qb _ _ _ H14.out.2 hvn.bel⟩; obtain ⟨aL,cL,hvL⟩ := hvn.form (HG.out.vl.trans HNV.out); subst hvL; obtain ⟨ad2,c2,he2,hvr2⟩ := hvn.vr; have had : ad2 = aL := by injection he2 with e _ _; exact e.symm
    subst had; have HVR15 : Hid (VR w15 ad2 vals) := hvr2; have H14Q : Hid (Q wr w14) := H14.out.2; clear hvn H14 HDR HV14 HN14 he2 hvr2
    go_wp2_with fail
    refine (HV1.out wr w15 ga ad2 cL H15.out.2.2 H15.out.2.1 HVR15.out).mono ?_; rintro e w16 ⟨gv,rfl,huv,hb16⟩; have H16 : Hid (Below w15.heap.size w15 w16 /\ UL w16 gv q fv /\ Q wr w16) := ⟨hb16,huv,HG.out.qb _ _ _ H15.out.2.2 hb16⟩; clear huv hb16 HV1
    go_wp2_with fail
    refine (HV2.out wr w16 aT cT ad2 cL H16.out.2.2 (HG.out.qi wr w16 _ _ H16.out.2.2 HT.out.1.1 HT.out.1.2) (HVR15.out.below H16.out.1)).mono ?_; rintro e w17 ⟨gi,rfl,hui,hb17⟩; have H17 : Hid (Below w15.heap.size w15 w17 /\ UL w17 gv q fv /\ UL w17 gi m fi /\ Q wr w17) := ⟨H16.out.1.trans (below_le' hb17 H16.out.1.size),H16.out.2.1.below hb17,hui,HG.out.qb _ _ _ H16.out.2.2 hb17⟩; clear hui hb17 H16 HV2
    go_wp2_with fail
    refine (HNo.out _ _).mono ?_; rintro e wn ⟨rfl,hwn⟩; subst wn
    go_wp2_with fail
    refine (HNo.out _ _).mono ?_; rintro e wn ⟨rfl,hwn⟩; subst wn; have q10 : ((m : Int) != (m : Int)) = false := by simp
    obtain ⟨b,hb⟩ : ∃ b,0 < i -> ad2 = some ⟨b,0,none⟩ /\ VW w15 b vals /\ w14.heap.size <= b := by
      by_cases h0 : 0 < i
      · obtain ⟨b,c,e,h1,h2⟩ := vn_vw H15.out.1 (by rw [HG.out.vl,HNV.out]; exact h0)
        injection e with e1 _ _
        exact ⟨b,fun _ => ⟨e1,h1,h2⟩⟩
      exact ⟨0,fun h => absurd h h0⟩
    have HVL : Hid (vals.length = i) := Lib.hid (HG.out.vl.trans HNV.out); have HB : Hid (0 < i -> ad2 = some ⟨b,0,none⟩ /\ wr.heap.size <= b) := Lib.hid (fun h0 => ⟨(hb h0).1,Nat.le_trans (by have h1 := HG.out.qs wr w15 H15.out.2.2; have h2 := H15.out.1.bel.size; have := (hb h0).2.2; have h3 := HG.out.qs wr w14 H14Q.out; omega) (hb h0).2.2⟩); have HS17 : Hid ((0 < i -> VW w17 b (vxL ps fi m vals 0 0)) /\ UL w17 gv q fv /\ UL w17 gi m fi /\ Q wr w17) := Lib.hid ⟨fun h0 => by rw [<- vx_0]; exact (hb h0).2.1.below H17.out.1,H17.out.2⟩; clear hb H17 H15 HVR15
    go_wp2_with fail
    obtain ⟨Q1,hQ1⟩ : ∃ Q1,Q wr = Q1 := ⟨_,rfl⟩; have HQX : Hid (0 < i -> ∀ W W' A fr,Q1 W -> W.heap[b]? = some (.cells A 38 fr) -> (∀ k,k ≠ b -> W'.heap[k]? = W.heap[k]?) -> W.heap.size <= W'.heap.size -> (W'.os = W.os /\ W'.tape = W.tape /\ W'.output = W.output) -> Q1 W') := Lib.hid (fun h0 W W' A fr h1 h2 h3 h4 h5 => by rw [<- hQ1] at h1 ⊢; exact HG.out.qx wr W W' b A fr h1 (HB.out h0).2 h2 h3 h4 h5); have HQB : Hid (∀ W,Q1 W -> Below w.heap.size w W) := Lib.hid (fun W h1 => by
      rw [<- hQ1] at h1; have hbw := H2.out.trans (below_le' HBR.out H2.out.size); obtain ⟨o1,o2,o3⟩ := HG.out.qo wr W h1; exact ⟨o1.trans hbw.os,o2.trans hbw.tape,o3.trans hbw.output,Nat.le_trans hbw.size (HG.out.qs wr W h1),fun k hk => (HG.out.ql wr W k h1 (Nat.lt_of_lt_of_le hk hH0)).trans (hbw.block k hk)⟩)
    have HQN : Hid (∀ W,Q1 W -> NMR W aN (fsts ps)) := Lib.hid (fun W h1 => by rw [<- hQ1] at h1; exact HG.out.qn wr W _ _ h1 HT.out.2.1 HT.out.2.2); have HQV : Hid (∀ W aV cV,Q1 W -> VR W aV (vals.map (valU ps fi m)) -> Calls Tryz.prog 16 #[.pointer (some ⟨B,0,none⟩),.slice aR q cR,.slice aV i cV] W fun e w' => ∃ g2,e = .returned (.tuple #[.slice (some ⟨g2,0,none⟩) q q,.int .i64 0]) /\ UL w' g2 q fv /\ Below W.heap.size W w') := Lib.hid (fun W aV cV h1 h2 => by rw [<- hQ1] at h1; exact HV3.out wr W aV cV h1 h2); rw [hQ1] at HS17; have HBA : Hid (0 < i -> ad2 = some ⟨b,0,none⟩) := Lib.hid (fun h => (HB.out h).1); clear hQ1 HV3 HB H14Q HT HO HVW HGV HBR HPSE HNV HG H2
    go_loopg [29] i (fun gk s29 wq => ∃ j : Nat,s29 = .int .i64 (j : Int) /\ j + gk = i /\ ((0 < i -> VW wq b (vxL ps fi m vals j 0)) /\ UL wq gv q fv /\ UL wq gi m fi /\ Q1 wq))
    case atStart => exact ⟨0,rfl,by omega,HS17.out⟩
    case round =>
      obtain ⟨j,rfl,hj,hst⟩ := hrel; have HL := Lib.hid hst; clear hst HS17
      by_cases hlt : j < i
      · have q1 : (j : Int) < (i : Int) := by omega
        have hi0 : 0 < i := by omega
        have hadb := HBA.out hi0; subst hadb; have HL2 : Hid (VW wr b (vxL ps fi m vals j 0) /\ UL wr gv q fv /\ UL wr gi m fi /\ Q1 wr) := Lib.hid ⟨HL.out.1 hi0,HL.out.2⟩; have HQX2 := Lib.hid (HQX.out hi0); have hgj : gk = i - j := by omega
        clear HL
        go_wp2_with fail
        go_loopg [30] m (fun gk s30 wq => ∃ k : Nat,s30 = .int .i64 (k : Int) /\ k + gk = m /\ (VW wq b (vxL ps fi m vals j k) /\ UL wq gv q fv /\ UL wq gi m fi /\ Q1 wq))
        case atStart => exact ⟨0,rfl,by omega,HL2.out⟩
        case round =>
          obtain ⟨k,rfl,hk,hst⟩ := hrel; have HK := Lib.hid hst; clear hst HL2
          by_cases hkt : k < m
          · have q2 : (k : Int) < (m : Int) := by omega
            obtain ⟨bn,on,hae,hbn,hcn⟩ := HQN.out wr HK.out.2.2.2 (by unfold fsts; rw [List.length_map,HM.out]; omega); subst hae; have c1 := hcn k (by unfold fsts; rw [List.length_map,HM.out]; exact hkt); rw [fst_at (by rw [HM.out]; exact hkt)] at c1; have hjl : j < vals.length := by rw [HVL.out]; exact hlt
            obtain ⟨b',o',hbe,hbl,hcv⟩ := HK.out.1.vr (by rw [vx_len]; omega); cases hbe; obtain ⟨c2,-,c4⟩ := hcv j (by rw [vx_len]; exact hjl); rw [vx_self ps fi m vals j k hjl] at c2 c4; have c2' : wr.cell? ⟨b,j * 3,none⟩ = some (.string (vals.getD j vZ).nm) := by rw [Nat.zero_add] at c2; exact c2
            have c3 := (HK.out.2.2.1.at_ hkt).1; have c4' : wr.cell? ⟨b,j * 3 + 2,none⟩ = some (.int .u64 (valU ps fi k (vals.getD j vZ)).num) := by rw [Nat.zero_add] at c4; exact c4
            have HST := Lib.hid (HK.out.1.set (i := j) (by rw [vx_len]; exact hjl) ((fi k : Nat) : Int))
            by_cases hee : (ps.getD k (ByteArray.empty,0)).1 = (vals.getD j vZ).nm
            · have HNX : Hid ((vxL ps fi m vals j k).set j ⟨((vxL ps fi m vals j k).getD j vZ).nm,((vxL ps fi m vals j k).getD j vZ).w,((fi k : Nat) : Int)⟩ = vxL ps fi m vals j (k + 1)) := vx_yes hjl hee
              have hfz := HST.out.2; have HFIN : Hid (VW (wr.setCell ⟨b,j * 3 + 2,none⟩ (.int .u64 ((fi k : Nat) : Int))).drew b (vxL ps fi m vals j (k + 1)) /\ UL (wr.setCell ⟨b,j * 3 + 2,none⟩ (.int .u64 ((fi k : Nat) : Int))).drew gv q fv /\ UL (wr.setCell ⟨b,j * 3 + 2,none⟩ (.int .u64 ((fi k : Nat) : Int))).drew gi m fi /\ Q1 (wr.setCell ⟨b,j * 3 + 2,none⟩ (.int .u64 ((fi k : Nat) : Int))).drew) := Lib.hid (by
                obtain ⟨A,hA,_⟩ := HK.out.1; have hoth : ∀ g,g ≠ b -> (wr.setCell ⟨b,j * 3 + 2,none⟩ (.int .u64 ((fi k : Nat) : Int))).drew.heap[g]? = wr.heap[g]? := fun g hg => heap_setCell_other _ _ _ _ hg
                have hul : ∀ {g n : Nat} {f : Nat -> Nat},UL wr g n f -> UL (wr.setCell ⟨b,j * 3 + 2,none⟩ (.int .u64 ((fi k : Nat) : Int))).drew g n f := fun {g n f} h => by
                  obtain ⟨A2,hA2,h2⟩ := h.blk; refine ⟨⟨A2,(hoth g (fun e => ?_)).trans hA2,h2⟩⟩; rw [e,hA] at hA2; cases hA2
                refine ⟨by rw [<- HNX.out]; exact HST.out.1.keep rfl,hul HK.out.2.1,hul HK.out.2.2.1,HQX2.out wr _ A (0,0) HK.out.2.2.2 hA hoth (by show _ <= (wr.setCell _ _).heap.size; simp) ⟨rfl,rfl,rfl⟩⟩)
              rw [hee] at c1; clear c2 hcv
              generalize (vals.getD j vZ).nm = nm at *
              have q3 : (nm.toList == nm.toList) = true := by simp
              go_wp2_with fail
              have hz0 : Below wr.heap.size wr wr.drew := ⟨rfl,rfl,rfl,Nat.le_refl _,fun _ _ => rfl⟩; refine sq_start (fun X => Below wr.heap.size wr X) [] [0,1,2,3,4,5,6,7,8,9] (by kernel_rfl) (by kernel_rfl) hz0 ?_
              repeat (refine sq_op (v := ?_) (by rfl) (by rfl) (by rfl) ?_ ?_; rotate_left; (focus (intro w hSw; have d1 := (hSw.cell (block_lt_of_cell c1)).trans c1; have d2 := (hSw.cell (block_lt_of_cell c2')).trans c2'; go_simp <;> with_reducible rfl)); simp only [Act.put,List.setIfInBounds_toArray,List.set_cons_zero,List.set_cons_succ])
              refine sq_end (fun _ => ?_)
              go_wp2_with fail
              go_roundg (m - (k + 1))
              case measure => omega
              case rel => exact ⟨k + 1,by simp,by omega,HFIN.out⟩
            have HNX : Hid (vxL ps fi m vals j k = vxL ps fi m vals j (k + 1)) := vx_no hee; have HDW : Hid (VW wr.drew b (vxL ps fi m vals j (k + 1)) /\ UL wr.drew gv q fv /\ UL wr.drew gi m fi /\ Q1 wr.drew) := Lib.hid (by
              obtain ⟨A,hA,_⟩ := HK.out.1; have hzd : Below wr.heap.size wr wr.drew := ⟨rfl,rfl,rfl,Nat.le_refl _,fun _ _ => rfl⟩; exact ⟨by rw [<- HNX.out]; exact HK.out.1.keep rfl,HK.out.2.1.below hzd,HK.out.2.2.1.below hzd,HQX2.out wr _ A (0,0) HK.out.2.2.2 hA (fun _ _ => rfl) (Nat.le_refl _) ⟨rfl,rfl,rfl⟩⟩)
            clear c2 hcv HST
            generalize (vals.getD j vZ).nm = nm at *
            generalize (ps.getD k (ByteArray.empty,0)).1 = pn at *
            have q3 : (pn.toList == nm.toList) = false := by rw [ba_beq]; exact decide_eq_false hee
            go_wp2_with fail
            have hz0 : Below wr.heap.size wr wr.drew := ⟨rfl,rfl,rfl,Nat.le_refl _,fun _ _ => rfl⟩; refine sq_start (fun X => Below wr.heap.size wr X) [] [0,1,2,3,4,5,6,7,8,9] (by kernel_rfl) (by kernel_rfl) hz0 ?_
            repeat (refine sq_op (v := ?_) (by rfl) (by rfl) (by rfl) ?_ ?_; rotate_left; (focus (intro w hSw; have d1 := (hSw.cell (block_lt_of_cell c1)).trans c1; have d2 := (hSw.cell (block_lt_of_cell c2')).trans c2'; go_simp <;> with_reducible rfl)); simp only [Act.put,List.setIfInBounds_toArray,List.set_cons_zero,List.set_cons_succ])
            refine sq_end (fun _ => ?_)
            go_wp2_with fail
            go_roundg (m - (k + 1))
            case measure => omega
            case rel => exact ⟨k + 1,by simp,by omega,HDW.out⟩
          have hkm : k = m := by omega
          subst hkm
          go_wp2_with fail
          go_roundg (i - (j + 1))
          case measure => omega
          case rel => exact ⟨j + 1,by simp,by omega,fun _ => by rw [<- vx_next]; exact HK.out.1,HK.out.2⟩
      have hji : j = i := by omega
      subst hji; have HVR : Hid (VR wr ad2 (vals.map (valU ps fi m))) := Lib.hid (by
        rw [vx_end ps fi m vals 0,HVL.out]; intro h0; rw [vx_len,HVL.out] at h0; rw [HBA.out h0]; exact (HL.out.1 h0).vr (by rw [vx_len,HVL.out]; exact h0))
      go_wp2_with fail
      refine (HQV.out wr ad2 cL HL.out.2.2.2 HVR.out).mono ?_; rintro e w20 ⟨gw,rfl,huw,hb20⟩; have H20 : Hid (UL w20 gv q fv /\ UL w20 gw q fv) := ⟨HL.out.2.1.below hb20,huw⟩; have HBE : Hid (∀ n,Below w.heap.size w (w20.drewN n)) := Lib.hid (fun n => ((HQB.out wr HL.out.2.2.2).trans (below_le' hb20 (HQB.out wr HL.out.2.2.2).size)).trans ⟨rfl,rfl,rfl,Nat.le_refl _,fun _ _ => rfl⟩); clear huw hb20 HL HVR HQV
      go_wp2_with fail
      refine (HNo.out _ _).mono ?_; rintro e wn ⟨rfl,hwn⟩; subst wn
      go_wp2_with fail
      refine (swords_any w20 H20.out.1 H20.out.2 (by omega)).mono ?_; rintro e w21 ⟨rfl,n21,rfl⟩
      go_wp2_with fail
      first
        | exact ⟨rfl,HBE.out _⟩
        | (go_ret; exact ⟨rfl,HBE.out _⟩)
        | (go_ret2; exact ⟨rfl,HBE.out _⟩)
end Go.Proofs.YtkpapgfbnledpaaGreatDoor.GP
