import Derived.Test.YtkpapgfbnledpaaGreatDoorGyQ
import Derived.Test.YtkpapgfbnledpaaGreatDoorEwR
import Derived.Test.YtkpapgfbnledpaaGreatDoorEaK
namespace Go.Proofs.YtkpapgfbnledpaaGreatDoor.GP
open Go.Proofs.YtkpapgfbnledpaaGreatDoor
open Go.Proofs.YtkpapgfbnledpaaGreatDoor.G2 (V9 VK nVal vL gG xT wdN_at getD_in fol_fix zero_out part_in FT)
open Go.Proofs.YtkpapgfbnledpaaGreatDoor.GI (npN)
open Go.ChangeShapes Go.WideShapes Go.ChangeAt Go.RowKit Go.Lib Go.Tm Go.Bw Go.Bn

def evN (V : V9) (L : List Nd) (x : ByteArray -> Nat) : Nat -> Nat -> Nat
  | 0,_ => 0
  | k + 1,t => if t = 0 then 0 else nVal V L (L.getD (t - 1) z0) (evN V L x k (pA L t)) (evN V L x k (pB L t)) (evN V L x k (pC L t)) (x (L.getD (t - 1) z0).name)
theorem evN_s (V : V9) (L : List Nd) (x : ByteArray -> Nat) (k t : Nat) (h : ¬ t = 0) : evN V L x (k + 1) t = nVal V L (L.getD (t - 1) z0) (evN V L x k (pA L t)) (evN V L x k (pB L t)) (evN V L x k (pC L t)) (x (L.getD (t - 1) z0).name) := by
  show (if t = 0 then 0 else nVal V L (L.getD (t - 1) z0) (evN V L x k (pA L t)) (evN V L x k (pB L t)) (evN V L x k (pC L t)) (x (L.getD (t - 1) z0).name)) = _
  rw [if_neg h]
def ev (V : V9) (L : List Nd) (x : ByteArray -> Nat) (t : Nat) : Nat := evN V L x t t
theorem par_at {L : List Nd} (hP : PAR L) {t : Nat} (h1 : 1 <= t) (h2 : t <= L.length) : pA L t < t /\ pB L t < t /\ pC L t < t := by
  have := hP (t - 1) (by omega); unfold pA pB pC
  omega
theorem evN_up {V : V9} {L : List Nd} {x : ByteArray -> Nat} (hP : PAR L) : ∀ k t,t <= k -> t <= L.length -> evN V L x k t = evN V L x t t := by
  intro k
  induction k using Nat.strongRecOn with
  | ind k ih =>
    intro t hk hl
    by_cases e : t = k
    · rw [e]
    obtain ⟨j,rfl⟩ : ∃ j,k = j + 1 := ⟨k - 1,by omega⟩; cases t with
    | zero => rfl
    | succ t =>
      obtain ⟨p1,p2,p3⟩ := par_at hP (t := t + 1) (by omega) hl; have key : ∀ p,p < t + 1 -> evN V L x j p = evN V L x t p := fun p hp => by
        rw [ih j (by omega) p (by omega) (by omega),ih t (by omega) p (by omega) (by omega)]
      rw [evN_s V L x j (t + 1) (by omega),evN_s V L x t (t + 1) (by omega),key _ p1,key _ p2,key _ p3]
theorem ev_0 {V : V9} {L : List Nd} {x : ByteArray -> Nat} : ev V L x 0 = 0 := rfl
theorem ev_fix {V : V9} {L : List Nd} {x : ByteArray -> Nat} (hP : PAR L) {t : Nat} (h1 : 1 <= t) (h2 : t <= L.length) : ev V L x t = nVal V L (L.getD (t - 1) z0) (ev V L x (pA L t)) (ev V L x (pB L t)) (ev V L x (pC L t)) (x (L.getD (t - 1) z0).name) := by
  obtain ⟨k,rfl⟩ : ∃ k,t = k + 1 := ⟨t - 1,by omega⟩; obtain ⟨p1,p2,p3⟩ := par_at hP h1 h2; unfold ev; rw [evN_s V L x k (k + 1) (by omega),evN_up hP k _ (by omega) (by omega),evN_up hP k _ (by omega) (by omega),evN_up hP k _ (by omega) (by omega)]
def xM (T : ByteArray -> Option Vl) (s : ByteArray) : Nat := ((T s).getD vZ).num.toNat
theorem fol_ev {V : V9} {L : List Nd} {T : ByteArray -> Option Vl} {O : List Nat} (hP : PAR L) (hw : PW L O []) : ∀ n t,t <= n -> t ∈ O -> folN (gG (vL V L) L T) 0 O t = ev V L (xM T) t
  | 0,t,hn,ht => by have := hw.ob t ht; omega
  | n + 1,t,hn,ht => by
    have hb := hw.ob t ht; obtain ⟨p1,p2,p3⟩ := par_at hP hb.1 hb.2; have key : ∀ p,p < t -> (0 < p -> isP L t p) -> folN (gG (vL V L) L T) 0 O p = ev V L (xM T) p := fun p hlt hp => by
      by_cases h : p = 0
      · subst h
        rw [folN_out (zero_out hw)]
        rfl
      exact fol_ev hP hw n p (by omega) (part_in hw ht (hp (by omega)))
    rw [fol_fix hw ht,key _ p1 (fun h => ⟨h,Or.inl rfl⟩),key _ p2 (fun h => ⟨h,Or.inr (Or.inl rfl)⟩),key _ p3 (fun h => ⟨h,Or.inr (Or.inr rfl)⟩),ev_fix hP hb.1 hb.2]
    rfl
theorem getD_app {L X : List Nd} {i : Nat} (h : i < L.length) : (L ++ X).getD i z0 = L.getD i z0 := by
  rw [List.getD_eq_getElem?_getD,List.getD_eq_getElem?_getD,List.getElem?_append_left h]
theorem wd_0 (L : List Nd) : wd L 0 = 0 := by
  unfold wd isT; rw [if_neg (by simp)]
theorem wd_app {L X : List Nd} {a : Int} (h0 : 0 <= a) (h : a <= L.length) : wd (L ++ X) a = wd L a := by
  by_cases h1 : a = 0
  · rw [h1,wd_0,wd_0]
  unfold wd isT; rw [if_pos (decide_eq_true ⟨by omega,by rw [List.length_append]; omega⟩),if_pos (decide_eq_true ⟨by omega,h⟩),getD_app (by omega)]
theorem ev_app {V : V9} {L X : List Nd} {x : ByteArray -> Nat} (hP : PAR L) (hQ : PAR (L ++ X)) : ∀ n t,t <= n -> t <= L.length -> ev V (L ++ X) x t = ev V L x t
  | 0,t,hn,_ => by
    obtain rfl : t = 0 := by omega
    rfl
  | n + 1,t,hn,hl => by
    by_cases h0 : t = 0
    · subst h0; rfl
    have h1 : 1 <= t := by omega
    obtain ⟨p1,p2,p3⟩ := par_at hP h1 hl; have hp := hP (t - 1) (by omega); have hg : (L ++ X).getD (t - 1) z0 = L.getD (t - 1) z0 := getD_app (by omega); have eA : pA (L ++ X) t = pA L t := by unfold pA; rw [hg]
    have eB : pB (L ++ X) t = pB L t := by unfold pB; rw [hg]
    have eC : pC (L ++ X) t = pC L t := by unfold pC; rw [hg]
    rw [ev_fix hQ h1 (by rw [List.length_append]; omega),ev_fix hP h1 hl,hg,eA,eB,eC,ev_app hP hQ n _ (by omega) (by omega),ev_app hP hQ n _ (by omega) (by omega),ev_app hP hQ n _ (by omega) (by omega)]; unfold nVal; rw [wd_app (by omega) (by omega),wd_app (by omega) (by omega)]
theorem good_at {L : List Nd} (hg : GoodL L) (hP : PARS L) {t : Nat} (h1 : 1 <= t) (h2 : t <= L.length) : br (L.getD (t - 1) z0) = true /\ sf (L.getD (t - 1) z0).op (wd L (L.getD (t - 1) z0).a) (wd L (L.getD (t - 1) z0).b) (wd L (L.getD (t - 1) z0).c) = true /\ wf (L.getD (t - 1) z0).op (L.getD (t - 1) z0).w (L.getD (t - 1) z0).num (wd L (L.getD (t - 1) z0).a) (wd L (L.getD (t - 1) z0).b) = true := by
  obtain ⟨_,_,_,k4,k5,k6,_⟩ := rfE_inv (hg (t - 1) (by omega)).1; have hp := hP.1 (t - 1) (by omega); have hl : (L.take (t - 1)).length = t - 1 := by rw [List.length_take]; omega
  have e : ∀ a : Int,0 <= a -> a <= (t - 1 : Nat) -> wd (L.take (t - 1)) a = wd L a := fun a h0 h => by
    have h9 := wd_app (L := L.take (t - 1)) (X := L.drop (t - 1)) h0 (by rw [hl]; exact h); rw [List.take_append_drop] at h9; exact h9.symm
  rw [e _ hp.1.1 hp.1.2,e _ hp.2.1.1 hp.2.1.2,e _ hp.2.2.1 hp.2.2.2] at k5; rw [e _ hp.1.1 hp.1.2,e _ hp.2.1.1 hp.2.1.2] at k6; exact ⟨k4,k5,k6⟩
theorem nd_a {L : List Nd} (hP : PAR L) {t : Nat} (h1 : 1 <= t) (h2 : t <= L.length) : (L.getD (t - 1) z0).a = ((pA L t : Nat) : Int) /\ (L.getD (t - 1) z0).b = ((pB L t : Nat) : Int) /\ (L.getD (t - 1) z0).c = ((pC L t : Nat) : Int) := by
  have := hP (t - 1) (by omega); unfold pA pB pC
  omega
theorem U64_U {x : Int} (h : U64 x) : U x := by unfold U64 at h; unfold U; omega
theorem ev_ft {V : V9} (hV : VK V) {L : List Nd} {x : ByteArray -> Nat} (hg : GoodL L) (hP : PARS L) (hok : ∀ n ∈ L,n.ok) (hx : ∀ s,x s <= 18446744073709551615) (hf : ∀ t,1 <= t -> t <= L.length -> (L.getD (t - 1) z0).op = 4 -> FT (L.getD (t - 1) z0).w (x (L.getD (t - 1) z0).name)) : ∀ n t,t <= n -> t <= L.length -> ev V L x t <= 18446744073709551615 /\ (1 <= t -> FT (L.getD (t - 1) z0).w (ev V L x t))
  | 0,t,hn,_ => by
    obtain rfl : t = 0 := by omega
    exact ⟨by rw [ev_0]; omega,fun h => by omega⟩
  | n + 1,t,hn,hl => by
    by_cases h0 : t = 0
    · subst h0
      exact ⟨by rw [ev_0]; omega,fun h => by omega⟩
    have h1 : 1 <= t := by omega
    obtain ⟨p1,p2,p3⟩ := par_at hP.1 h1 hl; obtain ⟨a1,a2,a3⟩ := nd_a hP.1 h1 hl; obtain ⟨_,g2,g3⟩ := good_at hg hP h1 hl; have hm : L.getD (t - 1) z0 ∈ L := getD_in (by omega); have hs := hP.2 _ hm; obtain ⟨iA,jA⟩ := ev_ft hV hg hP hok hx hf n (pA L t) (by omega) (by omega); obtain ⟨iB,jB⟩ := ev_ft hV hg hP hok hx hf n (pB L t) (by omega) (by omega); obtain ⟨iC,jC⟩ := ev_ft hV hg hP hok hx hf n (pC L t) (by omega) (by omega); rw [ev_fix hP.1 h1 hl]; obtain ⟨k1,_,k3,_⟩ := hV (L.getD (t - 1) z0).op (L.getD (t - 1) z0).w (L.getD (t - 1) z0).num (wd L (L.getD (t - 1) z0).a) (wd L (L.getD (t - 1) z0).b) (ev V L x (pA L t)) (ev V L x (pB L t)) (ev V L x (pC L t)) (x (L.getD (t - 1) z0).name) hs.op hs.w (U64_U (hok _ hm).num) iA iB iC (hx _); refine ⟨k1,fun _ => k3 (wd L (L.getD (t - 1) z0).c) g2 g3 (fun h => ?_) (fun h => ?_) (fun h => ?_) (fun h => by simpa using hf t h1 hl h)⟩
    · have := hs.a.1 h
      rw [a1,wdN_at (by omega) (by omega)]; exact jA (by omega)
    · have := hs.b.1 h
      rw [a2,wdN_at (by omega) (by omega)]; exact jB (by omega)
    have := hs.c.1 h; rw [a3,wdN_at (by omega) (by omega)]; exact jC (by omega)
end Go.Proofs.YtkpapgfbnledpaaGreatDoor.GP
namespace Go.Proofs.YtkpapgfbnledpaaGreatDoor.GP
open Go.Proofs.YtkpapgfbnledpaaGreatDoor
open Go.Proofs.YtkpapgfbnledpaaGreatDoor.G2 (V9 VK nVal vL gG xT wdN_at getD_in FT)
open Go.Proofs.YtkpapgfbnledpaaGreatDoor.GI (npN)
open Go.ChangeShapes Go.WideShapes Go.ChangeAt Go.RowKit Go.Lib Go.Tm Go.Bw Go.Bn

def PRT (V : V9) (L Lc : List Nd) (x1 x2 : ByteArray -> Nat) (f : Nat -> Nat) (p : Nat) : Prop :=
  (p = 0 /\ f p = 0) ∨ (1 <= p /\ p <= L.length /\ 1 <= f p /\ f p <= Lc.length /\ (Lc.getD (f p - 1) z0).w = (L.getD (p - 1) z0).w /\ ev V Lc x2 (f p) = ev V L x1 p)
theorem PRT.wd {V : V9} {L Lc : List Nd} {x1 x2 : ByteArray -> Nat} {f : Nat -> Nat} {p : Nat} (h : PRT V L Lc x1 x2 f p) : wd Lc ((f p : Nat) : Int) = wd L ((p : Nat) : Int) := by
  rcases h with ⟨h1,h2⟩ | ⟨h1,h2,h3,h4,h5,_⟩
  · rw [h2,h1]
    exact (wd_0 _).trans (wd_0 _).symm
  rw [wdN_at h3 h4,wdN_at h1 h2,h5]
theorem PRT.val {V : V9} {L Lc : List Nd} {x1 x2 : ByteArray -> Nat} {f : Nat -> Nat} {p : Nat} (h : PRT V L Lc x1 x2 f p) : ev V Lc x2 (f p) = ev V L x1 p := by
  rcases h with ⟨h1,h2⟩ | ⟨_,_,_,_,_,h6⟩
  · rw [h2,h1]; rfl
  exact h6
theorem PRT.up {V : V9} {L Lc X : List Nd} {x1 x2 : ByteArray -> Nat} {f : Nat -> Nat} {p : Nat} (h : PRT V L Lc x1 x2 f p) (hP : PAR Lc) (hQ : PAR (Lc ++ X)) : PRT V L (Lc ++ X) x1 x2 f p := by
  rcases h with h | ⟨h1,h2,h3,h4,h5,h6⟩
  · exact Or.inl h
  exact Or.inr ⟨h1,h2,h3,by rw [List.length_append]; omega,by rw [getD_app (by omega)]; exact h5,(ev_app hP hQ _ _ (Nat.le_refl _) h4).trans h6⟩
theorem node_ev {V : V9} {L Lc : List Nd} {x1 x2 : ByteArray -> Nat} {f : Nat -> Nat} {t r : Nat} (hP : PAR L) (hPc : PAR Lc) (h1 : 1 <= t) (h2 : t <= L.length) (r1 : 1 <= r) (r2 : r <= Lc.length) (hn : Lc.getD (r - 1) z0 = npN (L.getD (t - 1) z0) (f (pA L t)) (f (pB L t)) (f (pC L t)))
    (hx : x1 (L.getD (t - 1) z0).name = x2 (L.getD (t - 1) z0).name) (hA : PRT V L Lc x1 x2 f (pA L t)) (hB : PRT V L Lc x1 x2 f (pB L t)) (hC : PRT V L Lc x1 x2 f (pC L t)) : (Lc.getD (r - 1) z0).w = (L.getD (t - 1) z0).w /\ ev V Lc x2 r = ev V L x1 t := by
  obtain ⟨a1,a2,a3⟩ := nd_a hP h1 h2; have eA : pA Lc r = f (pA L t) := by
    show (Lc.getD (r - 1) z0).a.toNat = _
    rw [hn]; rfl
  have eB : pB Lc r = f (pB L t) := by
    show (Lc.getD (r - 1) z0).b.toNat = _
    rw [hn]; rfl
  have eC : pC Lc r = f (pC L t) := by
    show (Lc.getD (r - 1) z0).c.toNat = _
    rw [hn]; rfl
  refine ⟨by rw [hn]; rfl,?_⟩; rw [ev_fix hPc r1 r2,ev_fix hP h1 h2,eA,eB,eC,hA.val,hB.val,hC.val,hn]; unfold nVal; rw [a1,a2]
  show V (L.getD (t - 1) z0).op (L.getD (t - 1) z0).w (L.getD (t - 1) z0).num (wd Lc ((f (pA L t) : Nat) : Int)) (wd Lc ((f (pB L t) : Nat) : Int)) _ _ _ (x2 (L.getD (t - 1) z0).name) = _
  rw [hA.wd,hB.wd,hx]
theorem rfE_ok {L : List Nd} {n : Nd} (h1 : 1 <= n.op /\ n.op <= 33) (h2 : 0 <= n.w /\ n.w <= 64) (h3 : hp L n = true) (h4 : br n = true) (h5 : sf n.op (wd L n.a) (wd L n.b) (wd L n.c) = true) (h6 : wf n.op n.w n.num (wd L n.a) (wd L n.b) = true) (h7 : n.op = 4 -> nf L n = true) : rfE L n = 0 := by
  unfold rfE; rw [if_neg (by omega),if_neg (by omega),h3,h4,h5,h6,if_neg (by simp),if_neg (by simp),if_neg (by simp),if_neg (by simp),if_neg]; rintro ⟨h8,h9⟩; rw [h7 h8] at h9; cases h9
theorem isT_n {L : List Nd} {i : Nat} (h1 : 1 <= i) (h2 : i <= L.length) : isT L ((i : Nat) : Int) = true := decide_eq_true ⟨by omega,by omega⟩
theorem PRT.isT {V : V9} {L Lc : List Nd} {x1 x2 : ByteArray -> Nat} {f : Nat -> Nat} {p : Nat} (h : PRT V L Lc x1 x2 f p) (h0 : 1 <= p) : isT Lc ((f p : Nat) : Int) = true := by
  rcases h with ⟨h1,h2⟩ | ⟨_,_,h3,h4,_⟩
  · omega
  exact isT_n h3 h4
theorem PRT.zero {V : V9} {L Lc : List Nd} {x1 x2 : ByteArray -> Nat} {f : Nat -> Nat} {p : Nat} (h : PRT V L Lc x1 x2 f p) (h0 : p = 0) : f p = 0 := by
  rcases h with ⟨_,h2⟩ | ⟨h1,_⟩
  · exact h2
  omega
theorem rfE_np {V : V9} {L Lc : List Nd} {x1 x2 : ByteArray -> Nat} {f : Nat -> Nat} {t : Nat} (hg : GoodL L) (hP : PARS L) (h1 : 1 <= t) (h2 : t <= L.length) (h4 : (L.getD (t - 1) z0).op ≠ 4) (hA : PRT V L Lc x1 x2 f (pA L t)) (hB : PRT V L Lc x1 x2 f (pB L t)) (hC : PRT V L Lc x1 x2 f (pC L t)) :
    rfE Lc (npN (L.getD (t - 1) z0) (f (pA L t)) (f (pB L t)) (f (pC L t))) = 0 := by
  obtain ⟨a1,a2,a3⟩ := nd_a hP.1 h1 h2; obtain ⟨g1,g2,g3⟩ := good_at hg hP h1 h2; have hs := hP.2 _ (getD_in (L := L) (i := t - 1) (by omega)); have sa := hs.a; have sb := hs.b; have sc := hs.c; rw [a1] at sa; rw [a2] at sb; rw [a3] at sc; refine rfE_ok hs.op hs.w ?_ ?_ ?_ ?_ (fun h => absurd h h4)
  · unfold hp
    show ((decide (pt (L.getD (t - 1) z0).op < 1) || Tm.isT Lc ((f (pA L t) : Nat) : Int)) && ((decide (pt (L.getD (t - 1) z0).op < 2) || Tm.isT Lc ((f (pB L t) : Nat) : Int)) && (decide (pt (L.getD (t - 1) z0).op < 3) || Tm.isT Lc ((f (pC L t) : Nat) : Int)))) = true
    rw [Bool.and_eq_true,Bool.and_eq_true]; refine ⟨?_,?_,?_⟩
    · by_cases h : pt (L.getD (t - 1) z0).op < 1
      · rw [decide_eq_true h]; rfl
      rw [hA.isT (by have := sa.1 (by omega); omega),Bool.or_true]
    · by_cases h : pt (L.getD (t - 1) z0).op < 2
      · rw [decide_eq_true h]; rfl
      rw [hB.isT (by have := sb.1 (by omega); omega),Bool.or_true]
    by_cases h : pt (L.getD (t - 1) z0).op < 3
    · rw [decide_eq_true h]; rfl
    rw [hC.isT (by have := sc.1 (by omega); omega),Bool.or_true]
  · unfold br at g1 ⊢
    simp only [Bool.and_eq_true,Bool.or_eq_true,decide_eq_true_eq] at g1 ⊢; obtain ⟨_,_,_,q4,q5⟩ := g1; refine ⟨?_,?_,?_,q4,q5⟩
    · by_cases h : 1 <= pt (L.getD (t - 1) z0).op
      · exact Or.inl h
      exact Or.inr (by show ((f (pA L t) : Nat) : Int) = 0; rw [hA.zero (by have := sa.2 (by omega); omega)]; rfl)
    · by_cases h : 2 <= pt (L.getD (t - 1) z0).op
      · exact Or.inl h
      exact Or.inr (by show ((f (pB L t) : Nat) : Int) = 0; rw [hB.zero (by have := sb.2 (by omega); omega)]; rfl)
    by_cases h : 3 <= pt (L.getD (t - 1) z0).op
    · exact Or.inl h
    exact Or.inr (by show ((f (pC L t) : Nat) : Int) = 0; rw [hC.zero (by have := sc.2 (by omega); omega)]; rfl)
  · show sf (L.getD (t - 1) z0).op (wd Lc ((f (pA L t) : Nat) : Int)) (wd Lc ((f (pB L t) : Nat) : Int)) (wd Lc ((f (pC L t) : Nat) : Int)) = true
    rw [hA.wd,hB.wd,hC.wd,<- a1,<- a2,<- a3]; exact g2
  show wf (L.getD (t - 1) z0).op (L.getD (t - 1) z0).w (L.getD (t - 1) z0).num (wd Lc ((f (pA L t) : Nat) : Int)) (wd Lc ((f (pB L t) : Nat) : Int)) = true
  rw [hA.wd,hB.wd,<- a1,<- a2]; exact g3
theorem mk_at {lim : Int} {L : List Nd} {n : Nd} (hr : rfE L n = 0) (hl : lim <= 0) : (mk lim L n).2.2 = 0 /\ (∃ X,(mk lim L n).1 = L ++ X /\ X.length <= 1) /\ ∃ r : Nat,(mk lim L n).2.1 = (r : Int) /\ 1 <= r /\ r <= (mk lim L n).1.length /\ (mk lim L n).1.getD (r - 1) z0 = n := by
  unfold mk; rw [if_neg (by omega)]; cases hp : pos n L with
  | some i =>
    obtain ⟨h1,h2⟩ := pos_lt hp; exact ⟨rfl,⟨[],(List.append_nil _).symm,by simp⟩,i + 1,rfl,by omega,h1,h2⟩
  | none =>
    dsimp only
    rw [if_neg (by omega)]; refine ⟨rfl,⟨[n],rfl,by simp⟩,L.length + 1,rfl,by omega,by rw [List.length_append]; exact Nat.le_refl _,?_⟩; exact getD_last L n
end Go.Proofs.YtkpapgfbnledpaaGreatDoor.GP
namespace Go.Proofs.YtkpapgfbnledpaaGreatDoor.GP
open Go.Proofs.YtkpapgfbnledpaaGreatDoor
open Go.Proofs.YtkpapgfbnledpaaGreatDoor.G2 (V9 VK nVal vL gG xT wdN_at getD_in FT)
open Go.Proofs.YtkpapgfbnledpaaGreatDoor.G3 (STO sto_mk)
open Go.Proofs.YtkpapgfbnledpaaGreatDoor.GI (npN)
open Go.ChangeShapes Go.WideShapes Go.ChangeAt Go.RowKit Go.Lib Go.Tm Go.Bw Go.Bn

def stP (lim : Int) (L : List Nd) (T : ByteArray -> Option Nat) (s : List Nd × (Nat -> Nat)) (t : Nat) : Option (List Nd × (Nat -> Nat)) :=
  match T (L.getD (t - 1) z0).name with
  | some r => some (s.1,fun y => if y = t then r else s.2 y)
  | none => if s.2 (pA L t) = pA L t /\ s.2 (pB L t) = pB L t /\ s.2 (pC L t) = pC L t then some (s.1,fun y => if y = t then t else s.2 y)
    else if (mk lim s.1 (npN (L.getD (t - 1) z0) (s.2 (pA L t)) (s.2 (pB L t)) (s.2 (pC L t)))).2.2 = 0 then some ((mk lim s.1 (npN (L.getD (t - 1) z0) (s.2 (pA L t)) (s.2 (pB L t)) (s.2 (pC L t)))).1,fun y => if y = t then (mk lim s.1 (npN (L.getD (t - 1) z0) (s.2 (pA L t)) (s.2 (pB L t)) (s.2 (pC L t)))).2.1.toNat else s.2 y) else none
def fP (lim : Int) (L : List Nd) (T : ByteArray -> Option Nat) {O : List Nat} (pre : List (ET O)) : Option (List Nd × (Nat -> Nat)) := pre.foldl (fun o x => o.bind fun s => stP lim L T s x.1) (some (L,fun _ => 0))
theorem fP_snoc (lim : Int) (L : List Nd) (T : ByteArray -> Option Nat) {O : List Nat} (pre : List (ET O)) (x : ET O) : fP lim L T (pre ++ [x]) = (fP lim L T pre).bind fun s => stP lim L T s x.1 := by
  unfold fP; rw [List.foldl_append]
  rfl
structure PTH (V : V9) (lim : Int) (L : List Nd) (T : ByteArray -> Option Nat) (x1 x2 : ByteArray -> Nat) : Prop where
  good : GoodL L
  pars : PARS L
  lim0 : lim <= 0
  put : ∀ t,1 <= t -> t <= L.length -> ∀ r,T (L.getD (t - 1) z0).name = some r -> (L.getD (t - 1) z0).op = 4 /\ 1 <= r /\ r <= L.length /\ (L.getD (r - 1) z0).w = (L.getD (t - 1) z0).w /\ ev V L x2 r = ev V L x1 t
  oth : ∀ t,1 <= t -> t <= L.length -> T (L.getD (t - 1) z0).name = none -> x1 (L.getD (t - 1) z0).name = x2 (L.getD (t - 1) z0).name
structure PI (V : V9) (L : List Nd) (x1 x2 : ByteArray -> Nat) (k : Nat) (done : List Nat) (s : List Nd × (Nat -> Nat)) : Prop where
  pre : ∃ X,s.1 = L ++ X /\ X.length <= k
  sto : STO s.1
  out : ∀ y,y ∉ done -> s.2 y = 0
  at_ : ∀ t ∈ done,1 <= t /\ t <= L.length /\ 1 <= s.2 t /\ s.2 t <= s.1.length /\ (s.1.getD (s.2 t - 1) z0).w = (L.getD (t - 1) z0).w /\ ev V s.1 x2 (s.2 t) = ev V L x1 t
theorem PI.prt {V : V9} {L : List Nd} {x1 x2 : ByteArray -> Nat} {k : Nat} {done : List Nat} {s : List Nd × (Nat -> Nat)} (h : PI V L x1 x2 k done s) (hb : (0 : Nat) ∉ done) {p : Nat} (hp : 0 < p -> p ∈ done) : PRT V L s.1 x1 x2 s.2 p := by
  by_cases h0 : p = 0
  · exact Or.inl ⟨h0,by rw [h0]; exact h.out 0 hb⟩
  exact Or.inr (h.at_ p (hp (by omega)))
theorem put_step {V : V9} {lim : Int} {L : List Nd} {T : ByteArray -> Option Nat} {x1 x2 : ByteArray -> Nat} (hH : PTH V lim L T x1 x2) {k : Nat} {done : List Nat} {s : List Nd × (Nat -> Nat)} (h : PI V L x1 x2 k done s) (hb : (0 : Nat) ∉ done) {t : Nat} (h1 : 1 <= t) (h2 : t <= L.length) (hcl : ∀ p,isP L t p -> p ∈ done) : ∃ s',stP lim L T s t = some s' /\ PI V L x1 x2 (k + 1) (done ++ [t]) s' := by
  have hA : PRT V L s.1 x1 x2 s.2 (pA L t) := h.prt hb (fun h => hcl _ ⟨h,Or.inl rfl⟩); have hB : PRT V L s.1 x1 x2 s.2 (pB L t) := h.prt hb (fun h => hcl _ ⟨h,Or.inr (Or.inl rfl)⟩); have hC : PRT V L s.1 x1 x2 s.2 (pC L t) := h.prt hb (fun h => hcl _ ⟨h,Or.inr (Or.inr rfl)⟩); obtain ⟨X,eX,hX⟩ := h.pre; have hLs : L.length <= s.1.length := by rw [eX,List.length_append]; omega
  have hPs := h.sto.pars.1; have hPs2 : PAR (L ++ X) := by rw [<- eX]; exact hPs
  have mkPI : ∀ (Y : List Nd) (r : Nat),STO (s.1 ++ Y) -> Y.length <= 1 -> 1 <= r -> r <= (s.1 ++ Y).length -> ((s.1 ++ Y).getD (r - 1) z0).w = (L.getD (t - 1) z0).w -> ev V (s.1 ++ Y) x2 r = ev V L x1 t -> PI V L x1 x2 (k + 1) (done ++ [t]) (s.1 ++ Y,fun y => if y = t then r else s.2 y) := fun Y r hS hY r1 r2 hw hv => by
    refine ⟨⟨X ++ Y,by rw [eX,List.append_assoc],by rw [List.length_append]; omega⟩,hS,fun y hy => ?_,fun y hy => ?_⟩
    · dsimp only
      rw [if_neg (fun e => hy (by rw [e]; exact List.mem_append_right _ (List.mem_singleton.2 rfl)))]; exact h.out y (fun hm => hy (List.mem_append_left _ hm))
    dsimp only
    by_cases e : y = t
    · rw [if_pos e,e]
      exact ⟨h1,h2,r1,r2,hw,hv⟩
    rw [if_neg e]
    rcases List.mem_append.1 hy with hm | hm
    · obtain ⟨q1,q2,q3,q4,q5,q6⟩ := h.at_ y hm
      have hl : s.2 y <= (s.1 ++ Y).length := by rw [List.length_append]; omega
      exact ⟨q1,q2,q3,hl,by rw [getD_app (by omega)]; exact q5,(ev_app hPs hS.pars.1 _ _ (Nat.le_refl _) q4).trans q6⟩
    exact absurd (List.mem_singleton.1 hm) e
  have hS0 : STO (s.1 ++ []) := by rw [List.append_nil]; exact h.sto
  unfold stP; cases hT : T (L.getD (t - 1) z0).name with
  | some r =>
    obtain ⟨_,r1,r2,hw,hv⟩ := hH.put t h1 h2 r hT; have h9 := mkPI [] r hS0 (by simp) r1 (by rw [List.append_nil]; omega) (by rw [List.append_nil,eX,getD_app (by omega)]; exact hw) (by rw [List.append_nil,eX]; exact (ev_app hH.pars.1 hPs2 _ _ (Nat.le_refl _) r2).trans hv); rw [List.append_nil] at h9; exact ⟨_,rfl,h9⟩
  | none =>
    have hx := hH.oth t h1 h2 hT
    dsimp only
    by_cases hs : s.2 (pA L t) = pA L t /\ s.2 (pB L t) = pB L t /\ s.2 (pC L t) = pC L t
    · rw [if_pos hs]
      obtain ⟨a1,a2,a3⟩ := nd_a hH.pars.1 h1 h2; have hn : s.1.getD (t - 1) z0 = npN (L.getD (t - 1) z0) (s.2 (pA L t)) (s.2 (pB L t)) (s.2 (pC L t)) := by
        rw [hs.1,hs.2.1,hs.2.2]; unfold npN; rw [<- a1,<- a2,<- a3,eX,getD_app (by omega)]
      obtain ⟨hw,hv⟩ := node_ev hH.pars.1 hPs h1 h2 h1 (by omega) hn hx hA hB hC; have h9 := mkPI [] t hS0 (by simp) h1 (by rw [List.append_nil]; omega) (by rw [List.append_nil]; exact hw) (by rw [List.append_nil]; exact hv); rw [List.append_nil] at h9; exact ⟨_,rfl,h9⟩
    rw [if_neg hs]; have h4 : (L.getD (t - 1) z0).op ≠ 4 := fun e => hs (by
      obtain ⟨a1,a2,a3⟩ := nd_a hH.pars.1 h1 h2; have hsh := hH.pars.2 _ (getD_in (L := L) (i := t - 1) (by omega)); have sa := hsh.a.2 (by rw [e]; decide); have sb := hsh.b.2 (by rw [e]; decide); have sc := hsh.c.2 (by rw [e]; decide); have za : pA L t = 0 := by omega
      have zb : pB L t = 0 := by omega
      have zc : pC L t = 0 := by omega
      rw [za,zb,zc]; exact ⟨h.out 0 hb,h.out 0 hb,h.out 0 hb⟩)
    have hr := rfE_np hH.good hH.pars h1 h2 h4 hA hB hC; obtain ⟨hc,⟨Y,eY,hY⟩,r,er,r1,r2,hn⟩ := mk_at hr hH.lim0; have hS := sto_mk (lim := lim) (n := npN (L.getD (t - 1) z0) (s.2 (pA L t)) (s.2 (pB L t)) (s.2 (pC L t))) h.sto; rw [if_pos hc,er]; rw [eY] at hS r2 hn ⊢; obtain ⟨hw,hv⟩ := node_ev hH.pars.1 hS.pars.1 h1 h2 r1 r2 hn hx (hA.up hPs hS.pars.1) (hB.up hPs hS.pars.1) (hC.up hPs hS.pars.1); exact ⟨_,rfl,mkPI Y r hS hY r1 r2 hw hv⟩
theorem put_take {V : V9} {lim : Int} {L : List Nd} {T : ByteArray -> Option Nat} {x1 x2 : ByteArray -> Nat} (hH : PTH V lim L T x1 x2) {O : List Nat} (hw : PW L O []) : ∀ k,k <= O.length -> ∃ s,fP lim L T (O.attach.take k) = some s /\ PI V L x1 x2 k (O.take k) s := by
  intro k
  induction k with
  | zero =>
    intro _; rw [List.take_zero,List.take_zero]; exact ⟨_,rfl,⟨[],(List.append_nil _).symm,by simp⟩,⟨hH.good,hH.pars⟩,fun _ _ => rfl,fun t ht => by cases ht⟩
  | succ k ih =>
    intro hk; obtain ⟨s,hs,hI⟩ := ih (by omega); have hg : O[k]'(by omega) = O.getD k 0 := by rw [List.getD_eq_getElem?_getD,List.getElem?_eq_getElem (by omega)]; rfl
    have e : O = O.take k ++ O.getD k 0 :: O.drop (k + 1) := by
      have h1 := (List.take_append_drop k O).symm; rw [List.drop_eq_getElem_cons (by omega),hg] at h1; exact h1
    have hm : O.getD k 0 ∈ O := by rw [<- hg]; exact List.getElem_mem _
    have hbt := hw.ob _ hm; have h0 : (0 : Nat) ∉ O.take k := fun h => by have := hw.ob 0 (List.mem_of_mem_take h); omega
    obtain ⟨s',h1,h2⟩ := put_step hH hI h0 hbt.1 hbt.2 (fun p hp => hw.cl _ _ _ e p hp); refine ⟨s',?_,?_⟩
    · rw [att_next (by omega),fP_snoc,hs]
      exact h1
    have e2 : O.take (k + 1) = O.take k ++ [O.getD k 0] := by
      rw [List.take_add_one,List.getElem?_eq_getElem (by omega),hg]
      rfl
    rw [e2]; exact h2
end Go.Proofs.YtkpapgfbnledpaaGreatDoor.GP
