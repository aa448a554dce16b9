import Derived.Test.YtkpapgfbnledpaaGreatDoorEvN
import Derived.Laws.StructEq
import Derived.Laws.ResultCell
import Derived.Laws.Rows
import Derived.Test.YtkpapgfbnledpaaGreatDoorEwC
import Derived.Deep.AppendLies
import Derived.Laws.OwnMore
import Derived.Test.YtkpapgfbnledpaaGreatDoorEvQ
import Derived.Test.YtkpapgfbnledpaaGreatDoorEaK
set_option maxHeartbeats 8000000
set_option maxRecDepth 100000
namespace Go.Proofs.YtkpapgfbnledpaaGreatDoor.GI
open Go.Proofs.YtkpapgfbnledpaaGreatDoor
open Go.ChangeShapes Go.WideShapes Go.ChangeAt Go.RowKit Go.Lib Go.Tm Go.Bw Go.Bn Go.WideMaps Go.Maps Go.ChangeMaps

theorem sints_any {aX aY : Option Addr} {cX cY : Nat} {xs : List Int} (w : World) (hx : IR w aX xs) (hy : IR w aY xs) (hl : xs.length < 1000000000000000) :
    Calls Tryz.prog 14 #[.slice aX xs.length cX,.slice aY xs.length cY] w fun e w' => e = .returned (.bool true) /\ ∃ n,w' = w.drewN n := by
  generalize hPP : (fun (e : Ending) (w' : World) => e = .returned (.bool true) /\ ∃ n,w' = w.drewN n) = PP
  have HPP : Hid (∀ n,PP (.returned (.bool true)) (w.drewN n)) := fun n => by rw [<- hPP]; exact ⟨rfl,n,rfl⟩
  clear hPP; have HX : Hid (∀ j,j < xs.length -> ∃ a o b q x,aX = some ⟨a,o,none⟩ /\ aY = some ⟨b,q,none⟩ /\ ∀ m,(w.drewN m).cell? ⟨a,o + j,none⟩ = some (.int .i64 x) /\ (w.drewN m).cell? ⟨b,q + j,none⟩ = some (.int .i64 x)) := fun j hj => by
    obtain ⟨a,o,e1,_,e2⟩ := hx (by omega); obtain ⟨b,q,e3,_,e4⟩ := hy (by omega); exact ⟨a,o,b,q,_,e1,e3,fun _ => ⟨e2 j hj,e4 j hj⟩⟩
  clear hx hy
  generalize xs.length = k at *
  have qk : ((k : Int) == (k : Int)) = true := by simp
  go_enter Tryz.func14,Tryz.ntmps14
  go_wp2_with fail
  go_loopg [5] k (fun gk s5 wr => ∃ i : Nat,s5 = .int .i64 (i : Int) /\ i + gk = k /\ ∃ m,w.drewN m = wr)
  case atStart => exact ⟨0,rfl,by omega,0,rfl⟩
  case round =>
    obtain ⟨i,rfl,hi,m0,rfl⟩ := hrel
    by_cases hlt : i < k
    · obtain ⟨a,o,b,q,x,rfl,rfl,e1⟩ := HX.out i hlt
      obtain ⟨e2,e3⟩ := e1 m0; have q1 : (i : Int) < (k : Int) := by omega
      obtain ⟨W1,hW1⟩ : ∃ W1,w.drewN m0 = W1 := ⟨_,rfl⟩; have HW1 : Hid (w.drewN m0 = W1) := hW1; rw [hW1] at e2 e3 ⊢; clear e1 hW1
      go_wp2_with fail
      first | (go_quiet (fail)) | fail
      go_wp2
      go_roundg (gk - 1)
      case measure => omega
      case rel => exact ⟨i + 1,by simp,by omega,_,by rw [<- HW1.out,World.drewN_drewN]⟩
    have hji : i = k := by omega
    subst hji; have HP2 : Hid (PP (.returned (.bool true)) (w.drewN m0)) := HPP.out m0
    go_wp2
    first | exact HP2.out | (go_ret; exact HP2.out) | (go_ret2; exact HP2.out)
end Go.Proofs.YtkpapgfbnledpaaGreatDoor.GI
namespace Go.Proofs.YtkpapgfbnledpaaGreatDoor.GI
open Go.Proofs.YtkpapgfbnledpaaGreatDoor
open Go.ChangeShapes Go.WideShapes Go.ChangeAt Go.RowKit Go.Lib Go.Tm Go.Bw Go.Bn Go.WideMaps Go.Maps Go.ChangeMaps Go.Shelf

theorem varsfn_own (B0 B : Nat) (lim : Int) (L : List Nd) (v : Value) (M1 M2 : Option Nat) {ad : Option Addr} {cp : Nat} {xs : List Int} (w : World) (hS : SM 78 w B0 B lim L v M1 M2) (hP : PAR L) (h : IR w ad xs) (hl : xs.length <= 1000000000000) (hr : ∀ x ∈ xs,isT L x = true) :
    Calls Tryz.prog 9 #[.pointer (some ⟨B,0,none⟩),.slice ad xs.length cp] w fun e w' => ∃ v,e = .returned (.tuple #[v,.int .i64 0]) /\ w'.ownsRow w.heap.size 38 3 v (varsF L (og L [] (toN xs))).length (flatV (varsF L (og L [] (toN xs)))) /\ Below w.heap.size w w' := by
  have HC : Hid (∀ W,Below w.heap.size w W -> Calls Tryz.prog 26 #[.pointer (some ⟨B,0,none⟩),.slice ad xs.length cp] W fun e w' => ∃ aO cO,e = .returned (.tuple #[.agg #[.pointer (some ⟨B,0,none⟩),.slice aO (og L [] (toN xs)).length cO],.int .i64 0]) /\ Below W.heap.size W w' /\ OR w' aO (og L [] (toN xs))) := fun W hb => coneOf_ok (cp := cp) B0 B lim L v M1 M2 W (hS.below hb) hP (h.below hb) (by omega) hr
  obtain ⟨g0,hSR,_,_⟩ := hS.sr; have hb : ∀ r ∈ toN xs,1 <= r /\ r <= L.length /\ True := fun r hr' => by
    obtain ⟨y,hy,rfl⟩ := List.mem_map.1 hr'; have := (of_decide_eq_true (hr y hy) : 1 <= y /\ y <= (L.length : Int)); exact ⟨by omega,by omega,trivial⟩
  obtain ⟨hPW,_,_,_⟩ := og_ok (R := fun _ => True) hP (toN xs) [] (PW.nil L) ⟨fun _ _ _ _ => Or.inl trivial,fun _ _ _ _ => Or.inl trivial⟩ hb; have hlO : (og L [] (toN xs)).length <= 1000000000000 := by have h1 := hPW.len; have h2 := hS.len; simp at h1; omega
  have hob := hPW.ob; clear hS hPW hb h hr
  generalize og L [] (toN xs) = O at *
  generalize xs.length = q at *
  have HVS : Hid (∀ W (aO : Option Addr) cO,Below w.heap.size w W -> OR W aO O -> Calls Tryz.prog 27 #[.agg #[.pointer (some ⟨B,0,none⟩),.slice aO O.length cO]] W fun e w' => ∃ v,e = .returned v /\ w'.ownsRow w.heap.size 38 3 v (varsF L O).length (flatV (varsF L O)) /\ Below W.heap.size W w') := fun W aO cO h1 h2 => (vars_own W (hSR.below h1) h2 hob hlO).mono fun e w' ⟨v,he,ho,hb⟩ => ⟨v,he,ownsRow_le ho h1.size,hb⟩
  clear hSR hob hlO
  generalize flatV (varsF L O) = fvs at *
  generalize varsF L O = vs at *
  generalize hOl : O.length = n at *
  obtain ⟨m,hm⟩ : ∃ m,vs.length = m := ⟨_,rfl⟩; rw [hm] at HVS ⊢; clear hm hOl
  go_enter Tryz.func9,Tryz.ntmps9
  go_wp2_with fail
  refine (HC.out _ (Below.refl _ _)).mono ?_; rintro e w1 ⟨aO,cO,rfl,hb1,hO1⟩; have H1 : Hid (Below w.heap.size w w1 /\ OR w1 aO O) := ⟨hb1,hO1⟩; clear hb1 hO1 HC
  go_wp2_with fail
  refine (HVS.out _ aO cO (H1.out.1.trans (below_le' (bel1 w1 _) H1.out.1.size)) (H1.out.2.below (bel1 w1 _))).mono ?_; rintro e w2 ⟨v9,rfl,hv,hb2⟩; have H2 : Hid (Below w.heap.size w w2 /\ w2.ownsRow w.heap.size 38 3 v9 m fvs) := ⟨(H1.out.1.trans (below_le' (bel1 w1 _) H1.out.1.size)).trans (below_le' hb2 (Nat.le_trans H1.out.1.size (bel1 w1 _).size)),hv⟩; clear hv hb2 HVS H1
  go_wp2_with fail
  first
    | (go_ret2; exact ⟨v9,rfl,H2.out.2,H2.out.1⟩)
    | exact ⟨v9,rfl,H2.out.2,H2.out.1⟩

end Go.Proofs.YtkpapgfbnledpaaGreatDoor.GI
namespace Go.Proofs.YtkpapgfbnledpaaGreatDoor.GI
open Go.Proofs.YtkpapgfbnledpaaGreatDoor
open Go.ChangeShapes Go.WideShapes Go.ChangeAt Go.RowKit Go.Lib Go.Tm Go.Bw Go.Bn Go.WideMaps Go.Maps Go.ChangeMaps Go.Shelf

theorem ir_ints2 {w : World} {B : Nat} {v : Value} {xs : List Int} (h : w.ownsRow B 3 1 v xs.length (xs.map (Value.int .i64))) : ∃ ad c,v = .slice ad xs.length c /\ xs.length <= c /\ IR w ad xs := by
  obtain ⟨ad,c,e,hI⟩ := ir_ints h; refine ⟨ad,c,e,?_,hI⟩
  rcases h.2 with ⟨e2,h0⟩ | ⟨g,cap,cur,e2,_,_,h3,_⟩
  · omega
  rw [e] at e2
  injection e2 with _ _ e3
  omega
structure LDD (w w' : World) (B : Nat) (aR : Option Addr) (cR : Nat) (L : List Nd) (rs : List Int) : Prop where
  ir : IR w' aR rs
  cap : rs.length <= cR
  sm : ∃ v1 M1 M2,SM 78 w' w.heap.size B 0 L v1 M1 M2
end Go.Proofs.YtkpapgfbnledpaaGreatDoor.GI
namespace Go.Proofs.YtkpapgfbnledpaaGreatDoor.GI
open Go.Proofs.YtkpapgfbnledpaaGreatDoor
open Go.ChangeShapes Go.WideShapes Go.ChangeAt Go.RowKit Go.Lib Go.Tm Go.Bw Go.Bn Go.WideMaps Go.Maps Go.ChangeMaps Go.Shelf

theorem ul_ir {w : World} {g q : Nat} {rs : List Int} (h : UL w g q (fun j => (rs.getD j 0).toNat)) (hq : rs.length = q) (hp : ∀ x ∈ rs,0 <= x) : IR w (some ⟨g,0,none⟩) rs := fun _ => by
  refine ⟨g,0,rfl,h.lt,fun j hj => ?_⟩; obtain ⟨h1,-⟩ := h.at_ (i := j) (by omega); have hm : rs.getD j 0 ∈ rs := by
    rw [List.getD_eq_getElem?_getD,List.getElem?_eq_getElem hj]; exact List.getElem_mem _
  rw [Nat.zero_add,h1,Int.toNat_of_nonneg (hp _ hm)]
theorem own_form {w : World} {B n : Nat} {v : Value} {xs : List Vl} (h : w.ownsRow B 38 3 v xs.length (flatV xs)) (hn : xs.length = n) : ∃ ad c,v = .slice ad n c /\ VR w ad xs /\ (∀ g,v.ownBlock = some g -> B <= g /\ g < w.heap.size) := by
  subst hn; obtain ⟨ad,c,e,hv⟩ := vr_row h; refine ⟨ad,c,e,hv,fun g hg => ?_⟩
  rcases h.2 with ⟨e0,_⟩ | ⟨g0,cap0,cur,e0,hb0,hc,_⟩
  · rw [e0] at hg; cases hg
  rw [e0] at hg; have e2 : g0 = g := by simpa [Value.ownBlock] using hg
  subst e2; exact ⟨hb0,(Array.getElem?_eq_some_iff.1 hc).1⟩
theorem own_keep {w w' : World} {B e k n : Nat} {v : Value} {xs : List Value} (h : w.ownsRow B e k v n xs) (hb : ∀ g,v.ownBlock = some g -> w'.heap[g]? = w.heap[g]?) : w'.ownsRow B e k v n xs := by
  refine ⟨h.1,?_⟩
  rcases h.2 with h0 | ⟨g,cap,cur,e1,h2,h3,h4⟩
  · exact Or.inl h0
  exact Or.inr ⟨g,cap,cur,e1,h2,(hb g (by rw [e1]; rfl)).trans h3,h4⟩
theorem vr_keep {w w' : World} {ad : Option Addr} {xs : List Vl} (h : VR w ad xs) (hs : w.heap.size <= w'.heap.size) (hk : ∀ b o,ad = some ⟨b,o,none⟩ -> 0 < xs.length -> b < w.heap.size -> w'.heap[b]? = w.heap[b]?) : VR w' ad xs := fun h0 => by
  obtain ⟨b,o,e,hb,hc⟩ := h h0; have h1 := hk b o e h0 hb; refine ⟨b,o,e,Nat.lt_of_lt_of_le hb hs,fun j hj => ?_⟩; obtain ⟨c1,c2,c3⟩ := hc j hj; exact ⟨(World.cell?_of_block (a := ⟨b,_,none⟩) h1).trans c1,(World.cell?_of_block (a := ⟨b,_,none⟩) h1).trans c2,(World.cell?_of_block (a := ⟨b,_,none⟩) h1).trans c3⟩
end Go.Proofs.YtkpapgfbnledpaaGreatDoor.GI
