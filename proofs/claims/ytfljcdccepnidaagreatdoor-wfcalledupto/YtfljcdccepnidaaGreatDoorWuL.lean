import Derived.Test.YtfljcdccepnidaaGreatDoorMath
import Derived.Test.YtfljcdccepnidaaGreatDoorSqA
namespace Go.Proofs.YtfljcdccepnidaaGreatDoor
open Go.ChangeShapes Go.WideShapes Go.ChangeAt Go.RowKit Go.Lib

def hasB (lp : List ByteArray) (s : ByteArray) : Bool := lp.any (fun x => x.toList == s.toList)
def dix (Ds : List Dd) (s : ByteArray) : Option Nat := Ds.findIdx? (fun d => d.s.toList == s.toList)
set_option maxHeartbeats 4000000 in
set_option maxRecDepth 100000 in
theorem has_any (s : ByteArray) (lp : List ByteArray) (a : Option Addr) (w : World) (h : LPS w lp a) :
    Calls Tryz.prog 85 #[.pointer a,.string s] w fun e w' => e = .returned (.bool (hasB lp s)) /\ w' = w := by
  have HL : Hid (LPS w lp a) := h; clear h
  go_enter Tryz.func85,Tryz.ntmps85
  go_wp2_with fail
  go_loopg [0] lp.length (fun gk v0 wr => wr = w /\ ∃ lq a,v0 = .pointer a /\ Aside (LPS w lq a /\ lq.length = gk /\ hasB lp s = hasB lq s))
  case atStart => exact ⟨rfl,lp,a,rfl,HL.out,rfl,rfl⟩
  case round =>
    obtain ⟨rfl,lq,a,rfl,HR⟩ := hrel; cases lq with
    | nil =>
      obtain rfl : a = none := HR.out.1; have HE : Hid (hasB lp s = false) := by show _ = _; rw [HR.out.2.2]; rfl
      clear HR
      go_wp2_with fail
      go_ret
      exact ⟨by rw [HE.out]; rfl,rfl⟩
    | cons x r =>
      obtain ⟨⟨b,o,rfl,hb,hr⟩,hl,hiff⟩ := HR.out; have c0 : wr.cell? ⟨b,0,none⟩ = some (.string x) := cell_of hb 0; have c1 : wr.cell? ⟨b,1,none⟩ = some (.pointer o) := cell_of hb 1; have hcons : hasB (x :: r) s = (x.toList == s.toList || hasB r s) := rfl; rw [hcons] at hiff; have HN : Hid (LPS wr r o /\ r.length + 1 = gk) := ⟨hr,hl⟩; cases hx : (x.toList == s.toList) with
      | true =>
        rw [hx,Bool.true_or] at hiff; have HE : Hid (hasB lp s = true) := hiff; clear HR hb hr hl hiff hcons HN
        go_wp2_with fail
        go_ret
        exact ⟨by rw [HE.out]; rfl,rfl⟩
      | false =>
        rw [hx,Bool.false_or] at hiff; have HI : Hid (hasB lp s = hasB r s) := hiff; clear HR hb hr hl hiff hcons
        go_wp2_with fail
        go_roundg (gk - 1)
        case measure => have := HN.out.2; omega
        case rel => exact ⟨rfl,r,o,rfl,HN.out.1,by have := HN.out.2; omega,HI.out⟩
def exT (k : Int) : Int := if k = 2 then 3 else if k = 3 then 12 else 0
def stT (k : Int) : Int := if k = 1 ∨ k = 5 then 2 else if k = 2 then 4 else 0
set_option maxHeartbeats 4000000 in
theorem exT_any (k : Int) (w : World) : Calls Tryz.prog 83 #[.int .i64 k] w fun e w' => e = .returned (.int .i64 (exT k)) /\ w' = w := by
  unfold exT
  by_cases h2 : k = 2
  · subst h2
    go_enter Tryz.func83,Tryz.ntmps83
    go_wp2
    go_ret
    exact ⟨rfl,rfl⟩
  by_cases h3 : k = 3
  · subst h3
    go_enter Tryz.func83,Tryz.ntmps83
    go_wp2
    go_ret
    exact ⟨rfl,rfl⟩
  have q2 : (k == 2) = false := by simp [h2]
  have q3 : (k == 3) = false := by simp [h3]
  rw [if_neg h2,if_neg h3]
  go_enter Tryz.func83,Tryz.ntmps83
  go_wp2
  go_ret
  exact ⟨rfl,rfl⟩
set_option maxHeartbeats 4000000 in
theorem stT_any (k : Int) (w : World) : Calls Tryz.prog 84 #[.int .i64 k] w fun e w' => e = .returned (.int .i64 (stT k)) /\ w' = w := by
  unfold stT
  by_cases h1 : k = 1
  · subst h1
    go_enter Tryz.func84,Tryz.ntmps84
    go_wp2
    go_ret
    exact ⟨rfl,rfl⟩
  by_cases h5 : k = 5
  · subst h5
    go_enter Tryz.func84,Tryz.ntmps84
    go_wp2
    go_ret
    exact ⟨rfl,rfl⟩
  by_cases h2 : k = 2
  · subst h2
    go_enter Tryz.func84,Tryz.ntmps84
    go_wp2
    go_ret
    exact ⟨rfl,rfl⟩
  have q1 : (k == 1) = false := by simp [h1]
  have q2 : (k == 2) = false := by simp [h2]
  have q5 : (k == 5) = false := by simp [h5]
  rw [if_neg (by omega),if_neg h2]
  go_enter Tryz.func84,Tryz.ntmps84
  go_wp2
  go_ret
  exact ⟨rfl,rfl⟩
def rtrim (a x : Int) : Int := if a < 1 then 0 else if 64 <= a then x else bits .and .u64 x (IntKind.u64.wrap (2 ^ a.toNat - 1))
set_option maxHeartbeats 4000000 in
theorem trim_raw (a x : Int) (w : World) : Calls Tryz.prog 82 #[.int .i64 a,.int .u64 x] w fun e w' => e = .returned (.int .u64 (rtrim a x)) /\ w' = w := by
  unfold rtrim
  by_cases h1 : a < 1
  · rw [if_pos h1]
    go_enter Tryz.func82,Tryz.ntmps82
    go_wp2
    go_ret
    exact ⟨rfl,rfl⟩
  by_cases h2 : 64 <= a
  · rw [if_neg h1,if_pos h2]
    go_enter Tryz.func82,Tryz.ntmps82
    go_wp2
    go_ret
    exact ⟨rfl,rfl⟩
  rw [if_neg h1,if_neg h2]; have hw := Go.Bw.wrap_pow a.toNat (by omega)
  go_enter Tryz.func82,Tryz.ntmps82
  go_wp2
  go_ret
  exact ⟨rfl,rfl⟩
def arrB (n : Int) : Bool := decide (0 < n) && (decide (n <= 256) && (bits .and .i64 n (n - 1) == 0))
set_option maxHeartbeats 4000000 in
theorem arr_any (n : Int) (w : World) : Calls Tryz.prog 65 #[.int .i64 n] w fun e w' => e = .returned (.bool (arrB n)) /\ w' = w := by
  unfold arrB
  by_cases h1 : 0 < n
  · by_cases h2 : n <= 256
    · have q1 : decide (0 < n) = true := by simp [h1]
      have q2 : decide (n <= 256) = true := by simp [h2]
      rw [q1,q2]
      go_enter Tryz.func65,Tryz.ntmps65
      go_wp2
      go_ret
      exact ⟨by simp,rfl⟩
    have q1 : decide (0 < n) = true := by simp [h1]
    have q2 : decide (n <= 256) = false := by simp [h2]
    rw [q1,q2]
    go_enter Tryz.func65,Tryz.ntmps65
    go_wp2
    go_ret
    exact ⟨rfl,rfl⟩
  have q1 : decide (0 < n) = false := by simp [h1]
  rw [q1]
  go_enter Tryz.func65,Tryz.ntmps65
  go_wp2
  go_ret
  exact ⟨rfl,rfl⟩
def mean (Ds : List Dd) (lp : List ByteArray) (s : ByteArray) : Int := if hasB lp s = true then 1 else match dix Ds s with
  | none => 0
  | some j => if (Ds.getD j dd0).z = 0 then 2 else if (Ds.getD j dd0).k = 3 then 8 else 4
theorem dix_lt {Ds : List Dd} {s : ByteArray} {j : Nat} (h : dix Ds s = some j) : j < Ds.length := by
  unfold dix at h; rw [List.findIdx?_eq_some_iff_getElem] at h; exact h.1
def DCL (H0 X : Nat) (W0 : World) (J : World -> Prop) (Ds : List Dd) : Prop := ∀ (w : World) (s : ByteArray),NB s -> FRM H0 X W0 w -> J w -> Calls Tryz.prog 66 #[.pointer (some ⟨X,0,none⟩),.string s] w fun e w' => e = .returned (.tuple #[.int .i64 (((dix Ds s).getD 0 : Nat) : Int),.bool (dix Ds s).isSome]) /\ OTH X w w' /\ J w'
theorem PC.da {H0 X Pb : Nat} {W0 w : World} {J : World -> Prop} {P : Nat -> Prop} {N n : Nat} {p : Pg} {aD : Option Addr} {cD : Nat} {vB : Value} (h : PC H0 X Pb W0 J P N n p (.slice aD p.Ds.length cD) vB) (hf : FRM H0 X W0 w) {j : Nat} (hj : j < p.Ds.length) : ∃ b o,aD = some ⟨b,o,none⟩ /\ w.cell? ⟨b,o + j * 4,none⟩ = some (.int .i64 (p.Ds.getD j dd0).k) /\ w.cell? ⟨b,o + j * 4 + 1,none⟩ = some (.string (p.Ds.getD j dd0).s) /\ w.cell? ⟨b,o + j * 4 + 2,none⟩ = some (.int .i64 (p.Ds.getD j dd0).z) := by
  obtain ⟨ad,cap,e,h3⟩ := h.ds; cases e; obtain ⟨b,o,rfl,hP,hc⟩ := h3 (by omega); obtain ⟨v0,v1,v2,v3,c0,c1,c2,c3,aV,cV,e5,_⟩ := hc j hj; cases e5; have hc' : ∀ i,w.cell? ⟨b,i,none⟩ = W0.cell? ⟨b,i,none⟩ := fun i => World.cell?_of_block (a := ⟨b,i,none⟩) (hf.keepP h.wc.p b hP)
  exact ⟨b,o,rfl,(hc' _).trans c0,(hc' _).trans c1,(hc' _).trans c2⟩
set_option maxHeartbeats 4000000 in
set_option maxRecDepth 100000 in
theorem mean_any {H0 X Pb : Nat} {W0 : World} {J : World -> Prop} {P : Nat -> Prop} {N n : Nat} {p : Pg} {vD vB : Value} (hp : PC H0 X Pb W0 J P N n p vD vB) (hD : DCL H0 X W0 J p.Ds) {w : World} (hf : FRM H0 X W0 w) (hj : J w) (s : ByteArray) (hs : NB s) {lp : List ByteArray} {lpp : Option Addr} (hlp : LPS w lp lpp) :
    Calls Tryz.prog 70 #[.pointer (some ⟨X,0,none⟩),.string s,.pointer lpp] w fun e w' => e = .returned (.int .i64 (mean p.Ds lp s)) /\ OTH X w w' /\ J w' := by
  obtain ⟨aD,cD,rfl,_⟩ := hp.ds; have HH : Hid (Calls Tryz.prog 85 #[.pointer lpp,.string s] w fun e w' => e = .returned (.bool (hasB lp s)) /\ w' = w) := has_any s lp lpp w hlp; have HDc : Hid (Calls Tryz.prog 66 #[.pointer (some ⟨X,0,none⟩),.string s] w fun e w' => e = .returned (.tuple #[.int .i64 (((dix p.Ds s).getD 0 : Nat) : Int),.bool (dix p.Ds s).isSome]) /\ OTH X w w' /\ J w') := hD w s hs hf hj; have HF : Hid (FRM H0 X W0 w) := hf; have HPC : Hid (PC H0 X Pb W0 J P N n p (.slice aD p.Ds.length cD) vB) := hp; have HJ : Hid (OTH X w w /\ J w) := ⟨OTH.refl _ _,hj⟩; clear hp hD hf hj hlp hs; obtain ⟨V,hV⟩ : ∃ V,mean p.Ds lp s = V := ⟨_,rfl⟩; rw [hV]; unfold mean at hV; cases hb : hasB lp s with
  | true =>
    rw [hb] at HH; have HV : Hid (1 = V) := by rw [hb] at hV; exact hV
    clear hV
    go_enter Tryz.func70,Tryz.ntmps70
    go_wp2_with fail
    refine HH.out.mono ?_; rintro e w' ⟨rfl,hw'⟩; obtain rfl := hw'.symm; clear hw'
    go_wp2_with fail
    go_ret
    exact ⟨by rw [<- HV.out]; rfl,HJ.out⟩
  | false =>
    rw [hb] at HH; cases hd : dix p.Ds s with
    | none =>
      rw [hd] at HDc; have HV : Hid (0 = V) := by rw [hb,hd] at hV; exact hV
      clear hV
      go_enter Tryz.func70,Tryz.ntmps70
      go_wp2_with fail
      refine HH.out.mono ?_; rintro e w' ⟨rfl,hw'⟩; obtain rfl := hw'.symm; clear hw' hb
      go_wp2_with fail
      refine HDc.out.mono ?_; rintro e w2 ⟨rfl,ho,hj⟩; have HZ : Hid (OTH X w w2 /\ J w2) := ⟨ho,hj⟩; clear ho hj
      go_wp2_with fail
      go_ret
      exact ⟨by rw [<- HV.out]; rfl,HZ.out⟩
    | some j =>
      rw [hd] at HDc; have hlt := dix_lt hd; obtain ⟨nD,hnD⟩ : ∃ nD,p.Ds.length = nD := ⟨_,rfl⟩; have q1 : (j : Int) < (nD : Int) := by omega
      have q2 : j < nD := by omega
      have q3 : (0 : Int) <= (j : Int) := by omega
      have HDc2 : Hid (Calls Tryz.prog 66 #[.pointer (some ⟨X,0,none⟩),.string s] w fun e w' => e = .returned (.tuple #[.int .i64 (j : Int),.bool true]) /\ OTH X w w' /\ J w') := HDc.out; have HCl : Hid (∀ w2,OTH X w w2 -> J w2 -> w2.cell? ⟨X,0,none⟩ = some (.pointer (some ⟨Pb,0,none⟩)) /\ w2.cell? ⟨Pb,3,none⟩ = some (.slice aD nD cD) /\ ∃ b o,aD = some ⟨b,o,none⟩ /\ w2.cell? ⟨b,o + j * 4,none⟩ = some (.int .i64 (p.Ds.getD j dd0).k) /\ w2.cell? ⟨b,o + j * 4 + 2,none⟩ = some (.int .i64 (p.Ds.getD j dd0).z)) := fun w2 h1 h2 => by
        have hf2 := HF.out.trans (FRM.oth h1); obtain ⟨y1,y2⟩ := HPC.out.at hf2 h2; obtain ⟨b,o,e,z0,_,z2⟩ := HPC.out.da hf2 hlt; rw [hnD] at y2; exact ⟨y1,cell_of y2 3,b,o,e,z0,z2⟩
      have HV : Hid ((if (p.Ds.getD j dd0).z = 0 then 2 else if (p.Ds.getD j dd0).k = 3 then 8 else 4) = V) := by rw [hb,hd] at hV; exact hV
      clear HDc hlt hnD hd HPC hV
      generalize (p.Ds.getD j dd0).k = dk at *
      generalize (p.Ds.getD j dd0).z = dz at *
      go_enter Tryz.func70,Tryz.ntmps70
      go_wp2_with fail
      refine HH.out.mono ?_; rintro e w' ⟨rfl,hw'⟩; obtain rfl := hw'.symm; clear hw' hb
      go_wp2_with fail
      refine HDc2.out.mono ?_; rintro e w2 ⟨rfl,ho,hj⟩; obtain ⟨y1,y3,b,o,rfl,z0,z2⟩ := HCl.out w2 ho hj; have HZ : Hid (OTH X w w2 /\ J w2) := ⟨ho,hj⟩; clear ho hj HCl
      by_cases hz : dz = 0
      · subst hz
        have HV2 : Hid (2 = V) := by have := HV.out; rw [if_pos rfl] at this; exact this
        clear HV
        go_wp2_with fail
        go_ret
        exact ⟨by rw [<- HV2.out]; rfl,HZ.out⟩
      have r1 : (dz == 0) = false := by simp [hz]
      by_cases hk : dk = 3
      · subst hk
        have HV2 : Hid (8 = V) := by have := HV.out; rw [if_neg hz,if_pos rfl] at this; exact this
        clear HV
        go_wp2_with fail
        go_ret
        exact ⟨by rw [<- HV2.out]; rfl,HZ.out⟩
      have r2 : (dk == 3) = false := by simp [hk]
      have HV2 : Hid (4 = V) := by have := HV.out; rw [if_neg hz,if_neg hk] at this; exact this
      clear HV
      go_wp2_with fail
      go_ret
      exact ⟨by rw [<- HV2.out]; rfl,HZ.out⟩
set_option maxHeartbeats 4000000 in
theorem fits_any {H0 X Pb : Nat} {W0 : World} {J : World -> Prop} {P : Nat -> Prop} {N n : Nat} {p : Pg} {vD vB : Value} (hp : PC H0 X Pb W0 J P N n p vD vB) {w : World} (hf : FRM H0 X W0 w) (hj : J w) (x : Int) :
    Calls Tryz.prog 67 #[.pointer (some ⟨X,0,none⟩),.int .u64 x] w fun e w' => e = .returned (.bool (rtrim p.wd x == x)) /\ w' = w := by
  obtain ⟨y1,y2⟩ := hp.at hf hj; have c1 : w.cell? ⟨Pb,1,none⟩ = some (.int .i64 p.wd) := cell_of y2 1; have HT : Hid (Calls Tryz.prog 82 #[.int .i64 p.wd,.int .u64 x] w fun e w' => e = .returned (.int .u64 (rtrim p.wd x)) /\ w' = w) := trim_raw p.wd x w; clear y2 hp hf hj
  generalize p.wd = wd at *
  generalize rtrim wd x = rt at *
  go_enter Tryz.func67,Tryz.ntmps67
  go_wp2_with fail
  refine HT.out.mono ?_; rintro e w' ⟨rfl,hw'⟩; obtain rfl := hw'.symm; clear hw'
  go_wp2_with fail
  go_ret
  exact ⟨rfl,rfl⟩
end Go.Proofs.YtfljcdccepnidaaGreatDoor
namespace Go.Proofs.YtfljcdccepnidaaGreatDoor
open Go.ChangeShapes Go.WideShapes Go.ChangeAt Go.RowKit Go.Lib

set_option maxHeartbeats 4000000 in
set_option maxRecDepth 100000 in
theorem deeper_any : ∀ (n : Nat) (L : List Nd) (b o : Nat) (v0 v1 v2 v3 : Value) (w : World) (P : Nat -> Prop) (m : Nat),w.cell? ⟨b,o,none⟩ = some v0 -> w.cell? ⟨b,o + 1,none⟩ = some v1 -> w.cell? ⟨b,o + 2,none⟩ = some v2 -> w.cell? ⟨b,o + 3,none⟩ = some v3 -> RE w P n L [v0,v1,v2,v3] -> L.length <= 1048576 -> m <= 64 ->
    Calls Tryz.prog 68 #[.pointer (some ⟨b,o,none⟩),.int .i64 (m : Int)] w fun e w' => e = .returned (.bool (decide (m < (L.headD nd0).h))) /\ w' = w := by
  intro n
  induction n with
  | zero => intro L b o v0 v1 v2 v3 w P m _ _ _ _ h; exact h.elim
  | succ n ih =>
    intro L b o v0 v1 v2 v3 w P m c0 c1 c2 c3 h hL hm; obtain ⟨k,x,s,ad,cap,Ls,rfl,e5,hS⟩ := h; cases e5; have hlen := hS.len; simp only [List.length_cons] at hL; clear c0 c1 c2
    generalize hV0 : decide (m < (List.headD _ nd0).h) = V
    have hV : decide (m < hts Ls + 1) = V := hV0; clear hV0
    by_cases hm0 : m = 0
    · subst hm0
      obtain rfl : V = true := by rw [<- hV]; simp
      clear hV
      go_enter Tryz.func68,Tryz.ntmps68
      go_wp2_with fail
      go_ret
      exact ⟨rfl,rfl⟩
    have q0 : ((m : Int) == 0) = false := by simp; omega
    have q00 : ¬ (m : Int) = 0 := by omega
    obtain ⟨m1,hm1⟩ : ∃ m1,m = m1 + 1 := ⟨m - 1,by omega⟩; have q1 : IntKind.i64.wrap ((m : Int) - 1) = (m1 : Int) := by rw [IntKind.wrap_i64]; omega
    obtain ⟨mm,hmm⟩ : ∃ mm,Ls.length = mm := ⟨_,rfl⟩; have HKid : Hid (0 < mm -> ∃ bk ok,ad = some ⟨bk,ok,none⟩ /\ ∀ j,j < mm -> Calls Tryz.prog 68 #[.pointer (some ⟨bk,ok + j * 4,none⟩),.int .i64 (m1 : Int)] w fun e w' => e = .returned (.bool (decide (m1 < ((Ls.getD j []).headD nd0).h))) /\ w' = w) := fun h0 => by
      obtain ⟨bk,ok,e,_,hcc⟩ := hS (by omega); refine ⟨bk,ok,e,fun j hj => ?_⟩; obtain ⟨u0,u1,u2,u3,d0,d1,d2,d3,hEE⟩ := hcc j (by omega); have hl := take_len (Ls := Ls) (j := j) (by omega); have hl2 := take_le Ls (j + 1); exact ih _ _ _ _ _ _ _ w P m1 d0 d1 d2 d3 hEE (by omega) (by omega)
    have HML : Hid (Ls.length = mm) := hmm; have HM1 : Hid (m = m1 + 1) := hm1; rw [hmm] at hlen c3; have hmb : mm <= 1048576 := by omega
    have HV : Hid (decide (m < hts Ls + 1) = V) := hV; clear hS ih hm1 hmm hV hL hlen
    go_enter Tryz.func68,Tryz.ntmps68
    go_wp2_with fail
    go_loopg [5,13] mm (fun gk v5 v13 wr => wr = w /\ ∃ j : Nat,v13 = .int .i64 (j : Int) /\ j + gk = mm /\ Aside (hts (Ls.take j) <= m1))
    case atStart => exact ⟨rfl,0,rfl,by omega,(show hts (Ls.take 0) <= m1 by simp [hts])⟩
    case round =>
      obtain ⟨rfl,j,rfl,hjg,HR⟩ := hrel
      by_cases hlt : j < mm
      · have r1 : (j : Int) < (mm : Int) := by omega
        obtain ⟨bk,ok,rfl,hkid⟩ := HKid.out (by omega); have HC : Hid (Calls Tryz.prog 68 #[.pointer (some ⟨bk,ok + j * 4,none⟩),.int .i64 (m1 : Int)] wr fun e w' => e = .returned (.bool (decide (m1 < ((Ls.getD j []).headD nd0).h))) /\ w' = wr) := hkid j hlt; have HTk : Hid (hts (Ls.take (j + 1)) = max (hts (Ls.take j)) ((Ls.getD j []).headD nd0).h) := take_hts (by rw [HML.out]; exact hlt); have HLe : Hid (hts (Ls.take (j + 1)) <= hts Ls) := by
          show _ <= _
          have hsp : ∀ (a b : List (List Nd)),hts a <= hts (a ++ b) := fun a b => by
            induction a with
            | nil => simp [hts]
            | cons x r ih => simp only [List.cons_append,hts]; omega
          have := hsp (Ls.take (j + 1)) (Ls.drop (j + 1))
          rwa [List.take_append_drop] at this
        generalize ((Ls.getD j []).headD nd0).h = hk at *
        clear hkid
        go_wp2_with fail
        refine HC.out.mono ?_; rintro e w' ⟨rfl,hw'⟩; obtain rfl := hw'.symm; clear hw' HC
        by_cases hd : m1 < hk
        · have HE : Hid (true = V) := by
            show _ = _
            rw [<- HV.out]; have h1 := HTk.out; have h2 := HLe.out; have h3 := HM1.out
            symm
            simp
            omega
          have e2 : decide (m1 < hk) = true := by simp [hd]
          rw [e2]; clear HR
          go_wp2_with fail
          go_ret
          exact ⟨by rw [<- HE.out]; rfl,rfl⟩
        have e2 : decide (m1 < hk) = false := by simp [hd]
        rw [e2]; have HN : Hid (hts (Ls.take (j + 1)) <= m1) := by
          show _ <= _
          have h1 := HTk.out; have h2 := HR.out
          omega
        clear HR
        go_wp2_with fail
        go_roundg (mm - (j + 1))
        case measure => omega
        case rel => exact ⟨rfl,j + 1,by simp,by omega,HN.out⟩
      have r1 : ¬ (j : Int) < (mm : Int) := by omega
      have HE : Hid (false = V) := by
        show _ = _
        rw [<- HV.out]; have h1 := HR.out; rw [List.take_of_length_le (by rw [HML.out]; omega)] at h1; have h3 := HM1.out
        symm
        simp
        omega
      clear HR
      go_wp2_with fail
      go_ret
      exact ⟨by rw [<- HE.out]; rfl,rfl⟩
set_option maxHeartbeats 4000000 in
theorem loop_D (pl : Int) (b o : Nat) (dp : Int) (tp : Bool) (lpp : Option Addr) (w : World)  : Calls Tryz.prog 71 #[.agg #[.int .i64 pl,.pointer (some ⟨b,o,none⟩),.pointer none,.pointer none,.int .i64 dp,.bool tp,.pointer lpp]] w fun e w' => e = .returned (.bool false) /\ Below w.heap.size w w' := by
  obtain ⟨Eb,hEb⟩ : ∃ Eb,w.heap.size = Eb := ⟨_,rfl⟩; obtain ⟨W1,hW1⟩ : ∃ W1,w.alloc (.cells #[.int .i64 pl,.pointer (some ⟨b,o,none⟩),.pointer none,.pointer none,.int .i64 dp,.bool tp,.pointer lpp] 70) = W1 := ⟨_,rfl⟩; have HW1 : Hid (w.alloc (.cells #[.int .i64 pl,.pointer (some ⟨b,o,none⟩),.pointer none,.pointer none,.int .i64 dp,.bool tp,.pointer lpp] 70) = W1 /\ w.heap.size = Eb) := ⟨hW1,hEb⟩; have HB1 : Hid (Below w.heap.size w W1) := by rw [<- hW1]; exact bel1 _ _
  have hbx : W1.heap[Eb]? = some (.cells #[.int .i64 pl,.pointer (some ⟨b,o,none⟩),.pointer none,.pointer none,.int .i64 dp,.bool tp,.pointer lpp] 70 (0,0)) := by rw [<- hW1,<- hEb]; exact heap_alloc_new _ _
  have t2 : W1.cell? ⟨Eb,2,none⟩ = some (.pointer none) := cell_of hbx 2; have t3 : W1.cell? ⟨Eb,3,none⟩ = some (.pointer none) := cell_of hbx 3; clear hW1 hEb hbx
  go_enter Tryz.func71,Tryz.ntmps71
  go_upto_region 1 with fail
  rw [HW1.out.1,HW1.out.2]
  go_wp2_with fail
  go_ret
  exact ⟨rfl,HB1.out⟩
set_option maxHeartbeats 4000000 in
theorem loop_S (pl : Int) (b o : Nat) (dp : Int) (tp : Bool) (lpp : Option Addr) (w : World) (hb : b < w.heap.size) (k : Int) (c0 : w.cell? ⟨b,o,none⟩ = some (.int .i64 k)) : Calls Tryz.prog 71 #[.agg #[.int .i64 pl,.pointer none,.pointer (some ⟨b,o,none⟩),.pointer none,.int .i64 dp,.bool tp,.pointer lpp]] w fun e w' => e = .returned (.bool (k == 4)) /\ Below w.heap.size w w' := by
  obtain ⟨Eb,hEb⟩ : ∃ Eb,w.heap.size = Eb := ⟨_,rfl⟩; obtain ⟨W1,hW1⟩ : ∃ W1,w.alloc (.cells #[.int .i64 pl,.pointer none,.pointer (some ⟨b,o,none⟩),.pointer none,.int .i64 dp,.bool tp,.pointer lpp] 70) = W1 := ⟨_,rfl⟩; have HW1 : Hid (w.alloc (.cells #[.int .i64 pl,.pointer none,.pointer (some ⟨b,o,none⟩),.pointer none,.int .i64 dp,.bool tp,.pointer lpp] 70) = W1 /\ w.heap.size = Eb) := ⟨hW1,hEb⟩; have HB1 : Hid (Below w.heap.size w W1) := by rw [<- hW1]; exact bel1 _ _
  have hbx : W1.heap[Eb]? = some (.cells #[.int .i64 pl,.pointer none,.pointer (some ⟨b,o,none⟩),.pointer none,.int .i64 dp,.bool tp,.pointer lpp] 70 (0,0)) := by rw [<- hW1,<- hEb]; exact heap_alloc_new _ _
  have t2 : W1.cell? ⟨Eb,2,none⟩ = some (.pointer (some ⟨b,o,none⟩)) := cell_of hbx 2; have t3 : W1.cell? ⟨Eb,3,none⟩ = some (.pointer none) := cell_of hbx 3; have y0 : W1.cell? ⟨b,o,none⟩ = some (.int .i64 k) := (HB1.out.cell (p := ⟨b,o,none⟩) hb).trans c0; clear c0; clear hW1 hEb hbx
  go_enter Tryz.func71,Tryz.ntmps71
  go_upto_region 1 with fail
  rw [HW1.out.1,HW1.out.2]
  go_wp2_with fail
  go_ret
  exact ⟨by simp,HB1.out⟩
set_option maxHeartbeats 4000000 in
theorem loop_E (pl : Int) (b o : Nat) (dp : Int) (tp : Bool) (lpp : Option Addr) (w : World)  : Calls Tryz.prog 71 #[.agg #[.int .i64 pl,.pointer none,.pointer none,.pointer (some ⟨b,o,none⟩),.int .i64 dp,.bool tp,.pointer lpp]] w fun e w' => e = .returned (.bool false) /\ Below w.heap.size w w' := by
  obtain ⟨Eb,hEb⟩ : ∃ Eb,w.heap.size = Eb := ⟨_,rfl⟩; obtain ⟨W1,hW1⟩ : ∃ W1,w.alloc (.cells #[.int .i64 pl,.pointer none,.pointer none,.pointer (some ⟨b,o,none⟩),.int .i64 dp,.bool tp,.pointer lpp] 70) = W1 := ⟨_,rfl⟩; have HW1 : Hid (w.alloc (.cells #[.int .i64 pl,.pointer none,.pointer none,.pointer (some ⟨b,o,none⟩),.int .i64 dp,.bool tp,.pointer lpp] 70) = W1 /\ w.heap.size = Eb) := ⟨hW1,hEb⟩; have HB1 : Hid (Below w.heap.size w W1) := by rw [<- hW1]; exact bel1 _ _
  have hbx : W1.heap[Eb]? = some (.cells #[.int .i64 pl,.pointer none,.pointer none,.pointer (some ⟨b,o,none⟩),.int .i64 dp,.bool tp,.pointer lpp] 70 (0,0)) := by rw [<- hW1,<- hEb]; exact heap_alloc_new _ _
  have t2 : W1.cell? ⟨Eb,2,none⟩ = some (.pointer none) := cell_of hbx 2; have t3 : W1.cell? ⟨Eb,3,none⟩ = some (.pointer (some ⟨b,o,none⟩)) := cell_of hbx 3; clear hW1 hEb hbx
  go_enter Tryz.func71,Tryz.ntmps71
  go_upto_region 1 with fail
  rw [HW1.out.1,HW1.out.2]
  go_wp2_with fail
  go_ret
  exact ⟨rfl,HB1.out⟩
set_option maxHeartbeats 4000000 in
set_option maxRecDepth 100000 in
theorem use_S (pl : Int) (b o : Nat) (dp : Int) (tp : Bool) (lpp : Option Addr) (w : World) (hb : b < w.heap.size) (k : Int) (s : ByteArray) (c0 : w.cell? ⟨b,o,none⟩ = some (.int .i64 k)) (c1 : w.cell? ⟨b,o + 1,none⟩ = some (.string s)) : Calls Tryz.prog 69 #[.agg #[.int .i64 pl,.pointer none,.pointer (some ⟨b,o,none⟩),.pointer none,.int .i64 dp,.bool tp,.pointer lpp]] w fun e w' => e = .returned (.tuple #[.string s,.int .i64 (stT k)]) /\ Below w.heap.size w w' := by
  obtain ⟨Eb,hEb⟩ : ∃ Eb,w.heap.size = Eb := ⟨_,rfl⟩; obtain ⟨W1,hW1⟩ : ∃ W1,w.alloc (.cells #[.int .i64 pl,.pointer none,.pointer (some ⟨b,o,none⟩),.pointer none,.int .i64 dp,.bool tp,.pointer lpp] 70) = W1 := ⟨_,rfl⟩; have HW1 : Hid (w.alloc (.cells #[.int .i64 pl,.pointer none,.pointer (some ⟨b,o,none⟩),.pointer none,.int .i64 dp,.bool tp,.pointer lpp] 70) = W1 /\ w.heap.size = Eb) := ⟨hW1,hEb⟩; have HB1 : Hid (Below w.heap.size w W1) := by rw [<- hW1]; exact bel1 _ _
  have hbx : W1.heap[Eb]? = some (.cells #[.int .i64 pl,.pointer none,.pointer (some ⟨b,o,none⟩),.pointer none,.int .i64 dp,.bool tp,.pointer lpp] 70 (0,0)) := by rw [<- hW1,<- hEb]; exact heap_alloc_new _ _
  have t2 : W1.cell? ⟨Eb,2,none⟩ = some (.pointer (some ⟨b,o,none⟩)) := cell_of hbx 2; have t3 : W1.cell? ⟨Eb,3,none⟩ = some (.pointer none) := cell_of hbx 3; have y0 : W1.cell? ⟨b,o,none⟩ = some (.int .i64 k) := (HB1.out.cell (p := ⟨b,o,none⟩) hb).trans c0; have y1 : W1.cell? ⟨b,o + 1,none⟩ = some (.string s) := (HB1.out.cell (p := ⟨b,o + 1,none⟩) hb).trans c1; have HS0 : Hid (W1.drew.cell? ⟨Eb,2,none⟩ = some (.pointer (some ⟨b,o,none⟩)) /\ W1.drew.cell? ⟨b,o + 1,none⟩ = some (.string s) /\ W1.drew.cell? ⟨b,o,none⟩ = some (.int .i64 k)) := ⟨t2,y1,y0⟩; clear c0 c1; clear hW1 hEb hbx
  go_enter Tryz.func69,Tryz.ntmps69
  go_upto_region 1 with fail
  rw [HW1.out.1,HW1.out.2]
  go_upto_region 4 with fail
  refine wp_region_held_drew (S := (fun Wc => Hid (Wc.cell? ⟨Eb,2,none⟩ = some (.pointer (some ⟨b,o,none⟩)) /\ Wc.cell? ⟨b,o + 1,none⟩ = some (.string s) /\ Wc.cell? ⟨b,o,none⟩ = some (.int .i64 k)))) (by kernel_rfl) HS0 (fun hHeld => ?_); refine sq_of [10] [0,1,2,3,4,5,6,7,8,9,10,11,12] (by kernel_rfl) hHeld ?_
  repeat (first | (refine sq_skip (by rfl) (by rfl) ?_; simp only [Act.put,z0,z1,z2]) | (refine sq_op (v := ?_) (by rfl) (by rfl) (by rfl) ?_ ?_; rotate_left; (focus (intro W hW; have zz0 := hW.out.1; have zz1 := hW.out.2.1; have zz2 := hW.out.2.2; go_simp <;> with_reducible rfl)); simp only [Act.put,z0,z1,z2]))
  refine sq_do (by rfl) (by rfl) (by rfl) (fun K hK => ?_)
  go_simp
  go_at_call 84
  refine (stT_any k _).mono ?_; rintro e w' ⟨rfl,hw'⟩; subst w'; refine hK.out _ _ hHeld (fun hHeld => ?_); clear hK K
  try simp only [Act.put,z0,z1,z2]
  repeat (first | (refine sq_skip (by rfl) (by rfl) ?_; simp only [Act.put,z0,z1,z2]) | (refine sq_op (v := ?_) (by rfl) (by rfl) (by rfl) ?_ ?_; rotate_left; (focus (intro W _; go_simp <;> with_reducible rfl)); simp only [Act.put,z0,z1,z2]))
  refine sq_end (fun _ => ?_); clear hHeld
  go_wp2_with fail
  exact ⟨rfl,_,by simp [results,Tryz.results69,go_sem],rfl,⟨HB1.out.os,HB1.out.tape,HB1.out.output,HB1.out.size,HB1.out.block⟩⟩
set_option maxHeartbeats 4000000 in
set_option maxRecDepth 100000 in
theorem use_E (pl : Int) (b o : Nat) (dp : Int) (tp : Bool) (lpp : Option Addr) (w : World) (hb : b < w.heap.size) (k : Int) (s : ByteArray) (c0 : w.cell? ⟨b,o,none⟩ = some (.int .i64 k)) (c1 : w.cell? ⟨b,o + 2,none⟩ = some (.string s)) : Calls Tryz.prog 69 #[.agg #[.int .i64 pl,.pointer none,.pointer none,.pointer (some ⟨b,o,none⟩),.int .i64 dp,.bool tp,.pointer lpp]] w fun e w' => e = .returned (.tuple #[.string s,.int .i64 (exT k)]) /\ Below w.heap.size w w' := by
  obtain ⟨Eb,hEb⟩ : ∃ Eb,w.heap.size = Eb := ⟨_,rfl⟩; obtain ⟨W1,hW1⟩ : ∃ W1,w.alloc (.cells #[.int .i64 pl,.pointer none,.pointer none,.pointer (some ⟨b,o,none⟩),.int .i64 dp,.bool tp,.pointer lpp] 70) = W1 := ⟨_,rfl⟩; have HW1 : Hid (w.alloc (.cells #[.int .i64 pl,.pointer none,.pointer none,.pointer (some ⟨b,o,none⟩),.int .i64 dp,.bool tp,.pointer lpp] 70) = W1 /\ w.heap.size = Eb) := ⟨hW1,hEb⟩; have HB1 : Hid (Below w.heap.size w W1) := by rw [<- hW1]; exact bel1 _ _
  have hbx : W1.heap[Eb]? = some (.cells #[.int .i64 pl,.pointer none,.pointer none,.pointer (some ⟨b,o,none⟩),.int .i64 dp,.bool tp,.pointer lpp] 70 (0,0)) := by rw [<- hW1,<- hEb]; exact heap_alloc_new _ _
  have t2 : W1.cell? ⟨Eb,2,none⟩ = some (.pointer none) := cell_of hbx 2; have t3 : W1.cell? ⟨Eb,3,none⟩ = some (.pointer (some ⟨b,o,none⟩)) := cell_of hbx 3; have y0 : W1.cell? ⟨b,o,none⟩ = some (.int .i64 k) := (HB1.out.cell (p := ⟨b,o,none⟩) hb).trans c0; have y1 : W1.cell? ⟨b,o + 2,none⟩ = some (.string s) := (HB1.out.cell (p := ⟨b,o + 2,none⟩) hb).trans c1; have HS0 : Hid (W1.drew.cell? ⟨Eb,3,none⟩ = some (.pointer (some ⟨b,o,none⟩)) /\ W1.drew.cell? ⟨b,o + 2,none⟩ = some (.string s) /\ W1.drew.cell? ⟨b,o,none⟩ = some (.int .i64 k)) := ⟨t3,y1,y0⟩; clear c0 c1; clear hW1 hEb hbx
  go_enter Tryz.func69,Tryz.ntmps69
  go_upto_region 1 with fail
  rw [HW1.out.1,HW1.out.2]
  go_upto_region 2 with fail
  refine wp_region_held_drew (S := (fun Wc => Hid (Wc.cell? ⟨Eb,3,none⟩ = some (.pointer (some ⟨b,o,none⟩)) /\ Wc.cell? ⟨b,o + 2,none⟩ = some (.string s) /\ Wc.cell? ⟨b,o,none⟩ = some (.int .i64 k)))) (by kernel_rfl) HS0 (fun hHeld => ?_); refine sq_of [10] [0,1,2,3,4,5,6,7,8,9,10,11,12] (by kernel_rfl) hHeld ?_
  repeat (first | (refine sq_skip (by rfl) (by rfl) ?_; simp only [Act.put,z0,z1,z2]) | (refine sq_op (v := ?_) (by rfl) (by rfl) (by rfl) ?_ ?_; rotate_left; (focus (intro W hW; have zz0 := hW.out.1; have zz1 := hW.out.2.1; have zz2 := hW.out.2.2; go_simp <;> with_reducible rfl)); simp only [Act.put,z0,z1,z2]))
  refine sq_do (by rfl) (by rfl) (by rfl) (fun K hK => ?_)
  go_simp
  go_at_call 83
  refine (exT_any k _).mono ?_; rintro e w' ⟨rfl,hw'⟩; subst w'; refine hK.out _ _ hHeld (fun hHeld => ?_); clear hK K
  try simp only [Act.put,z0,z1,z2]
  repeat (first | (refine sq_skip (by rfl) (by rfl) ?_; simp only [Act.put,z0,z1,z2]) | (refine sq_op (v := ?_) (by rfl) (by rfl) (by rfl) ?_ ?_; rotate_left; (focus (intro W _; go_simp <;> with_reducible rfl)); simp only [Act.put,z0,z1,z2]))
  refine sq_end (fun _ => ?_); clear hHeld
  go_wp2_with fail
  exact ⟨rfl,_,by simp [results,Tryz.results69,go_sem],rfl,⟨HB1.out.os,HB1.out.tape,HB1.out.output,HB1.out.size,HB1.out.block⟩⟩
set_option maxHeartbeats 4000000 in
set_option maxRecDepth 100000 in
theorem use_D (pl : Int) (b o : Nat) (dp : Int) (tp : Bool) (lpp : Option Addr) (w : World) : Calls Tryz.prog 69 #[.agg #[.int .i64 pl,.pointer (some ⟨b,o,none⟩),.pointer none,.pointer none,.int .i64 dp,.bool tp,.pointer lpp]] w fun e w' => e = .returned (.tuple #[.string ByteArray.empty,.int .i64 0]) /\ Below w.heap.size w w' := by
  obtain ⟨Eb,hEb⟩ : ∃ Eb,w.heap.size = Eb := ⟨_,rfl⟩; obtain ⟨W1,hW1⟩ : ∃ W1,w.alloc (.cells #[.int .i64 pl,.pointer (some ⟨b,o,none⟩),.pointer none,.pointer none,.int .i64 dp,.bool tp,.pointer lpp] 70) = W1 := ⟨_,rfl⟩; have HW1 : Hid (w.alloc (.cells #[.int .i64 pl,.pointer (some ⟨b,o,none⟩),.pointer none,.pointer none,.int .i64 dp,.bool tp,.pointer lpp] 70) = W1 /\ w.heap.size = Eb) := ⟨hW1,hEb⟩; have HB1 : Hid (Below w.heap.size w W1) := by rw [<- hW1]; exact bel1 _ _
  have hbx : W1.heap[Eb]? = some (.cells #[.int .i64 pl,.pointer (some ⟨b,o,none⟩),.pointer none,.pointer none,.int .i64 dp,.bool tp,.pointer lpp] 70 (0,0)) := by rw [<- hW1,<- hEb]; exact heap_alloc_new _ _
  have t2 : W1.cell? ⟨Eb,2,none⟩ = some (.pointer none) := cell_of hbx 2; have t3 : W1.cell? ⟨Eb,3,none⟩ = some (.pointer none) := cell_of hbx 3; clear hW1 hEb hbx
  go_enter Tryz.func69,Tryz.ntmps69
  go_upto_region 1 with fail
  rw [HW1.out.1,HW1.out.2]
  go_wp2_with fail
  exact ⟨rfl,_,by simp [results,Tryz.results69,go_sem]; rfl,rfl,HB1.out⟩
end Go.Proofs.YtfljcdccepnidaaGreatDoor
