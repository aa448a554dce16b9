import Derived.Test.YtldpkkbdhohcmaaGreatDoorTlV
import Derived.Test.YtldpkkbdhohcmaaGreatDoorTlK
import Derived.Test.YtldpkkbdhohcmaaGreatDoorTmL
import Derived.Test.YtldpkkbdhohcmaaGreatDoorTmU
namespace Go.Proofs.YtldpkkbdhohcmaaGreatDoor
open Go.ChangeShapes Go.WideShapes Go.ChangeAt Go.RowKit Go.Lib Go.Tm Go.Bw Go.Bn Go.Bd

/-- the document's reading: its store,the terms of the lines ahead -/
structure RS7 (H0 : Nat) (w0 W : World) (B : Nat) (lim : Int) (L : List Nd) (ts : List Int) (tv : Value) : Prop where
  bel : Below H0 w0 W
  le : H0 <= w0.heap.size
  sm : ∃ v M1 M2,SM 69 W H0 B lim L v M1 M2 /\ M1 ≠ none
  row : W.ownsRow H0 3 1 tv ts.length (ts.map (Value.int .i64))
section
variable {H0 : Nat} {w0 W W' : World} {B : Nat} {lim : Int} {L : List Nd} {ts : List Int} {tv : Value}
theorem RS7.over (h : RS7 H0 w0 W B lim L ts tv) (hb : Below W.heap.size W W') : RS7 H0 w0 W' B lim L ts tv := by
  obtain ⟨v,M1,M2,hS,hn⟩ := h.sm; exact ⟨h.bel.trans (hb.mono (Nat.le_trans h.le h.bel.size)),h.le,⟨v,M1,M2,hS.below hb,hn⟩,row_is h.row (fun j hj => hb.block j (h.row.lt j hj).2)⟩
/-- a new box is written -/
theorem RS7.box (h : RS7 H0 w0 W B lim L ts tv) {D : Nat} {cs : Array Value} (hD : W.heap[D]? = some (.cells cs 64 (0,0))) (hD0 : w0.heap.size <= D) (hnew : ∀ v M1 M2,SM 69 W H0 B lim L v M1 M2 -> ¬ Own B v M1 M2 D) (i : Nat) (u : Value) : RS7 H0 w0 (W.setCell ⟨D,i,none⟩ u) B lim L ts tv := by
  obtain ⟨v,M1,M2,hS,hn⟩ := h.sm; have oth : ∀ j,j ≠ D -> (W.setCell ⟨D,i,none⟩ u).heap[j]? = W.heap[j]? := fun j hj => heap_setCell_other _ _ _ _ hj
  have hle := h.le; refine ⟨⟨h.bel.os,h.bel.tape,h.bel.output,by rw [World.size_setCell]; exact h.bel.size,fun j hj => (oth j (by omega)).trans (h.bel.block j hj)⟩,h.le,⟨v,M1,M2,hS.stands (fun q hq => oth q (fun e => hnew v M1 M2 hS (by rw [<- e]; exact hq))),hn⟩,row_is h.row (fun j hj => oth j (fun e => row_ne h.row hD (by decide) (by rw [hj,e])))⟩
theorem RS7.make {v : Value} {M1 M2 : Option Nat} {L' : List Nd} (h : RS7 H0 w0 W B lim L ts tv) (hS : SM 69 W H0 B lim L v M1 M2) (hM : M1 ≠ none) (hA : AddP 69 W H0 B lim L' v M1 M2 W') : RS7 H0 w0 W' B lim L' ts tv := by
  obtain ⟨v',N1,N2,hS',hk,_,hn⟩ := hA; have hbb := h.bel; have hsz := hbb.size; have hle := h.le; refine ⟨hk.below hbb (by omega) (fun q hq => hS.ge hq),hle,⟨v',N1,N2,hS',hn hM⟩,?_⟩; refine row_is h.row (fun j hj => hk.block j (h.row.lt j hj).2 ?_); obtain ⟨cs,hc⟩ := row_ty h.row hj; exact hS.not hc (by decide) (by decide)
theorem RS7.push {w5 : World} {t : Int} {n : Nat} {v5 : Value} (h : RS7 H0 w0 W B lim L ts tv) (hn : ts.length = n) (hown : w5.ownsRow H0 3 1 v5 (n + 1) (ts.map (Value.int .i64) ++ [.int .i64 t])) (hgr : (W.alloc (.cells #[.int .i64 t] 3)).grownBy w5 tv.ownBlock) : RS7 H0 w0 w5 B lim L (ts ++ [t]) v5 := by
  obtain ⟨v,M1,M2,hS,hm⟩ := h.sm; have hle := h.le; have hz := h.bel.size; have hb1 := bel1 W (.cells #[.int .i64 t] 3); have key : ∀ j,j < W.heap.size -> tv.ownBlock ≠ some j -> w5.heap[j]? = W.heap[j]? := fun j hj hne => (hgr.block j (by simp; omega) (fun e => hne e.symm)).trans (hb1.block j hj)
  refine ⟨⟨hgr.os.trans h.bel.os,hgr.tape.trans h.bel.tape,hgr.output.trans h.bel.output,Nat.le_trans hz (Nat.le_trans hb1.size hgr.size),fun j hj => ?_⟩,hle,⟨v,M1,M2,hS.stands (fun q hq => key q (hS.lt hq) (fun e => ?_)),hm⟩,?_⟩
  · rw [key j (by omega) (fun e => by have := (h.row.lt j e).1; omega),h.bel.block j hj]
  · obtain ⟨cs,hc⟩ := row_ty h.row e
    exact hS.not hc (by decide) (by decide) hq
  rw [List.length_append,hn,List.map_append]; exact hown
end
theorem mk_isT {lim : Int} {L : List Nd} {n : Nd} (h : (mk lim L n).2.2 = 0) : isT (mk lim L n).1 (mk lim L n).2.1 = true := by
  unfold mk at h ⊢
  split at h
  · rename_i h1
    exact absurd h h1
  rename_i h1
  rw [if_neg h1]
  split
  · rename_i i hi
    have := (pos_lt hi).1; exact decide_eq_true (by simp only; omega)
  rename_i hp
  rw [hp] at h; simp only at h
  split
  · rename_i h2
    rw [if_pos h2] at h; cases h
  exact decide_eq_true (by simp; omega)
theorem mk_ge {lim : Int} {L : List Nd} {n : Nd} : L.length <= (mk lim L n).1.length := by
  unfold mk
  split
  · exact Nat.le_refl _
  split
  · exact Nat.le_refl _
  split
  · exact Nat.le_refl _
  simp
theorem isT_mono {L L' : List Nd} {t : Int} (h : isT L t = true) (hl : L.length <= L'.length) : isT L' t = true := by
  have := of_decide_eq_true h; exact decide_eq_true (by omega)
theorem ptO_mem {ts : List Int} {u : List UInt8} {t : Int} (e : ptO ts u = some t) : t ∈ ts := by
  unfold ptO at e
  split at e
  · split at e
    · rename_i v _ hv
      cases e; rw [List.getD_eq_getElem?_getD,List.getElem?_eq_getElem (by omega)]; exact List.getElem_mem _
    cases e
  cases e
theorem fgo_p {ts : List Int} {fs : List UInt8} {us : List (List UInt8)} {n m : Nd} {k : Nat} (h : fgo ts (112 :: fs) us n k = some m) : ∃ us' t,t ∈ ts /\ fgo ts fs us' (setP n k t) (k + 1) = some m := by
  cases us with
  | nil => cases h
  | cons u us =>
    rw [fgo_cons,fst1_p] at h; cases e : ptO ts u with
    | none => rw [e] at h; cases h
    | some t =>
      rw [e] at h; exact ⟨us,t,ptO_mem e,h⟩
theorem fgo_nil {ts : List Int} {us : List (List UInt8)} {n m : Nd} {k : Nat} (h : fgo ts [] us n k = some m) : m = n := by
  cases us with
  | nil => cases h; rfl
  | cons u us => cases h
theorem fgo_some {ts : List Int} {fs : List UInt8} {us : List (List UInt8)} {n m : Nd} {k : Nat} (h : fgo ts fs us n k = some m) : fgS ts fs us n k = some (m,[]) := by
  rw [fgo_fgS] at h; cases e : fgS ts fs us n k with
  | none => rw [e] at h; cases h
  | some x =>
    obtain ⟨m2,l⟩ := x; rw [e] at h; cases l with
    | nil => cases h; rfl
    | cons a b => cases h
/-- what a node that is read has -/
theorem fgo_parts {ts : List Int} {us : List (List UInt8)} {n : Nd} {op : Nat} (h1 : 1 <= op) (h2 : op <= 33) (h : fgo ts (flB op) us (nd1 op) 0 = some n) : (15 <= n.op /\ n.op <= 30 -> n.a ∈ ts) /\ (n.op = 14 ∨ n.op = 30 -> n.b ∈ ts) /\ (¬ (n.op = 3 ∨ n.op = 4 ∨ 31 <= n.op) -> n.w = 0) := by
  have ho : n.op = (op : Int) := fgS_op (fgo_some h); rw [ho]
  by_cases q : (op : Int) = 3 ∨ (op : Int) = 4 ∨ 31 <= (op : Int)
  · exact ⟨fun _ => by omega,fun _ => by omega,fun hn => absurd q hn⟩
  by_cases q2 : (op : Int) <= 2
  · refine ⟨fun _ => by omega,fun _ => by omega,fun _ => ?_⟩
    have e : flB op = [] := by unfold flB; rw [if_pos q2]
    rw [e] at h; rw [fgo_nil h]
    rfl
  have e : flB op = List.replicate (pt op).toNat 112 := by unfold flB; rw [if_neg q2,if_neg (by omega),if_neg (by omega),if_neg (by omega),if_neg (by omega)]
  have hp : (pt op = 1 /\ ((op : Int) = 5 ∨ (op : Int) = 15 ∨ (op : Int) = 16)) ∨ (pt op = 3 /\ (op : Int) = 14) ∨ pt op = 2 := by
    unfold pt; rw [if_neg (by omega)]
    split
    · left; exact ⟨rfl,by omega⟩
    split
    · right; left; exact ⟨rfl,by omega⟩
    right; right; rfl
  rcases hp with ⟨hp,h5⟩ | ⟨hp,h5⟩ | hp
  · rw [e,hp] at h
    obtain ⟨us1,t1,m1,h⟩ := fgo_p h; rw [fgo_nil h]; exact ⟨fun _ => m1,fun _ => by omega,fun _ => rfl⟩
  · rw [e,hp] at h
    obtain ⟨us1,t1,m1,h⟩ := fgo_p h; obtain ⟨us2,t2,m2,h⟩ := fgo_p h; obtain ⟨us3,t3,m3,h⟩ := fgo_p h; rw [fgo_nil h]; exact ⟨fun _ => by omega,fun _ => m2,fun _ => rfl⟩
  rw [e,hp] at h; obtain ⟨us1,t1,m1,h⟩ := fgo_p h; obtain ⟨us2,t2,m2,h⟩ := fgo_p h; rw [fgo_nil h]; exact ⟨fun _ => m1,fun _ => m2,fun _ => rfl⟩
theorem ndO_facts {ts : List Int} {us : List (List UInt8)} {n : Nd} (hts : ∀ t ∈ ts,I64 t) (hus : ∀ u ∈ us,u.length <= 1048576) (h : ndO ts us = some n) : n.ok /\ (15 <= n.op /\ n.op <= 30 -> n.a ∈ ts) /\ (n.op = 14 ∨ n.op = 30 -> n.b ∈ ts) /\ (¬ (n.op = 3 ∨ n.op = 4 ∨ 31 <= n.op) -> n.w = 0) := by
  match us,hus,h with
  | [],_,h => cases h
  | [_],_,h => cases h
  | u :: o :: rs,hus,h =>
    rw [ndO] at h
    split at h
    · split at h
      · cases h
      rename_i h0
      have h33 := opO_le o; exact ⟨fgS_ok hts (fun x hx => hus x (by simp [hx])) (nd1_ok h33) (fgo_some h),fgo_parts (by omega) h33 h⟩
    cases h
/-- the line that a text is cut to -/
theorem lgo_line {l r : List UInt8} {f k : Nat} {c : UInt8} (hf : f <= k) (h : l.drop k = c :: r) : (c = 10 -> lgo ((l.take k).drop f) (l.drop k) = (l.take k).drop f :: lgo [] (l.drop (k + 1))) /\ (c ≠ 10 -> k + 1 = l.length -> lgo ((l.take k).drop f) (l.drop k) = (l.take (k + 1)).drop f :: lgo [] (l.drop (k + 1))) /\ (c ≠ 10 -> lgo ((l.take k).drop f) (l.drop k) = lgo ((l.take (k + 1)).drop f) (l.drop (k + 1))) := by
  have hr : l.drop (k + 1) = r := by rw [<- List.drop_drop,h]; rfl
  refine ⟨fun e => ?_,fun e hk => ?_,fun e => ?_⟩
  · rw [h,hr,lgo,if_pos e]
  · rw [h,hr,lgo,if_neg e,cur_more h hf]
    have : r = [] := by rw [<- hr]; exact List.drop_eq_nil_of_le (by omega)
    rw [this]
    show (if _ = [] then _ else _) = _
    rw [if_neg (by simp)]
    rfl
  rw [h,hr,lgo,if_neg e,cur_more h hf]
theorem SV.tail {W : World} {u : List UInt8} {us : List (List UInt8)} {g o n c c' m : Nat} (h : SV W (u :: us) (.slice (some ⟨g,o,none⟩) n c)) (hm : m = us.length) : SV W us (.slice (some ⟨g,o + 1,none⟩) m c') := by
  subst hm; obtain ⟨a,c1,e,h1⟩ := h; obtain ⟨g2,o2,e2,h3⟩ := h1 (by simp); cases e; cases e2; refine ⟨_,_,rfl,fun _ => ⟨g,o + 1,rfl,fun j hj => ?_⟩⟩; have := h3 (j + 1) (by simpa using hj); rw [show o + 1 + j = o + (j + 1) by omega,this]
  rfl
end Go.Proofs.YtldpkkbdhohcmaaGreatDoor
namespace Go.Proofs.YtldpkkbdhohcmaaGreatDoor
open Go.ChangeShapes Go.WideShapes Go.ChangeAt Go.RowKit Go.Lib Go.Tm Go.Bw Go.Bn Go.Bd

theorem ext_data (s : ByteArray) (a b : Nat) : (s.extract a b).data.toList = (s.data.toList.take b).drop a := by
  rw [<- Lib.toList_data,Lib.extract_toList,List.drop_take]
theorem fin_eq (L : List Nd) (n : Nd) : fin L n = ⟨n.op,(fin L n).w,n.a,n.b,n.c,n.num,n.name⟩ := by
  unfold fin
  split <;> rfl
/-- the document's lines on their way -/
structure LD7 (w wr : World) (l : List UInt8) (lim : Int) (B : Nat) (L : List Nd) (ts : List Int) (tv : Value) (k f : Nat) (G : List Nd × List Int × Nat × Int) : Prop where
  rs : RS7 w.heap.size w wr B lim L ts tv
  ll : L.length <= ts.length
  ti : ∀ t ∈ ts,isT L t = true
  eq : ldG lim (lgo ((l.take k).drop f) (l.drop k)) L ts = G
set_option maxHeartbeats 16000000 in
set_option maxRecDepth 100000 in
theorem rload_any (l : List UInt8) (lim : Int) (w : World) (h : ¬ lim < 0) (hlim : I64 lim) (hl : l.length <= 1048575) (G : List Nd × List Int × Nat × Int) (hG : ldG lim (lgo [] l) [] [] = G) :
    Calls Tryz.prog 13 #[.string ⟨l.toArray⟩,.int .i64 lim] w fun e w' => Below w.heap.size w w' /\ ((G.2.2.2 ≠ 0 /\ e = .returned (.tuple #[.pointer none,.slice none 0 0,.int .i64 (G.2.2.1 : Int),.int .i64 G.2.2.2])) ∨ (G.2.2.2 = 0 /\ G.2.2.1 = 0 /\ ∃ B v,e = .returned (.tuple #[.pointer (some ⟨B,0,none⟩),v,.int .i64 0,.int .i64 0]) /\ w'.ownsRow w.heap.size 3 1 v G.2.1.length (G.2.1.map (Value.int .i64)) /\ ∃ v1 M1 M2,SM 69 w' w.heap.size B lim G.1 v1 M1 M2)) := by
  generalize hPP : (fun (e : Ending) (w' : World) => Below w.heap.size w w' /\ ((G.2.2.2 ≠ 0 /\ e = .returned (.tuple #[.pointer none,.slice none 0 0,.int .i64 (G.2.2.1 : Int),.int .i64 G.2.2.2])) ∨ (G.2.2.2 = 0 /\ G.2.2.1 = 0 /\ ∃ B v,e = .returned (.tuple #[.pointer (some ⟨B,0,none⟩),v,.int .i64 0,.int .i64 0]) /\ w'.ownsRow w.heap.size 3 1 v G.2.1.length (G.2.1.map (Value.int .i64)) /\ ∃ v1 M1 M2,SM 69 w' w.heap.size B lim G.1 v1 M1 M2))) = PP
  have HNo : Hid (∀ w' L' k c,Below w.heap.size w w' -> c ≠ 0 -> G = (L',[],k,c) -> PP (.returned (.tuple #[.pointer none,.slice none 0 0,.int .i64 ((k : Nat) : Int),.int .i64 c])) w') := fun w' L' k c h1 h2 h3 => by rw [<- hPP,h3]; exact ⟨h1,Or.inl ⟨h2,rfl⟩⟩
  have HYe : Hid (∀ w' L' rs B v,Below w.heap.size w w' -> G = (L',rs,0,0) -> w'.ownsRow w.heap.size 3 1 v rs.length (rs.map (Value.int .i64)) -> (∃ v1 M1 M2,SM 69 w' w.heap.size B lim L' v1 M1 M2) -> PP (.returned (.tuple #[.pointer (some ⟨B,0,none⟩),v,.int .i64 0,.int .i64 0])) w') := fun w' L' rs B v h1 h2 h3 h4 => by rw [<- hPP,h2]; exact ⟨h1,Or.inr ⟨rfl,rfl,B,v,rfl,h3,h4⟩⟩
  clear hPP; obtain ⟨s,hs⟩ : ∃ s : ByteArray,(⟨l.toArray⟩ : ByteArray) = s := ⟨_,rfl⟩; have HS8 : Hid (s.data.toList = l /\ s.size = l.length) := ⟨by rw [<- hs],by rw [<- hs,size_ba]⟩; have hsl : s.size <= 1048575 := by rw [HS8.out.2]; exact hl
  rw [hs]; have HN : Hid (Calls Tryz.prog 31 #[.int .i64 lim] w fun e w' => ∃ B,e = .returned (.tuple #[.pointer (some ⟨B,0,none⟩),.int .i64 0]) /\ Below w.heap.size w w' /\ ∃ m1 m2,SM 69 w' w.heap.size B lim [] (.slice none 0 0) (some m1) (some m2)) := rnew_ok lim w h hlim; have HG : Hid (ldG lim (lgo [] l) [] [] = G) := hG; obtain ⟨i0,hi,hz0,hz1,hz2⟩ := info_parts (P := Tryz.prog) (e := 3) (z := .int .i64 0) (size := 1) (bytes := 8) (by kernel_rfl); clear h hlim hl hG hs
  go_enter Tryz.func13,Tryz.ntmps13
  go_wp2_with fail
  refine HN.out.mono ?_; rintro e w1 ⟨B,rfl,hb1,m1,m2,hSM⟩; have HS1 : Hid (LD7 w w1 l lim B [] [] (.slice none 0 0) 0 0 G) := ⟨⟨hb1,Nat.le_refl _,⟨_,_,_,hSM,by simp⟩,World.ownsRow_nil _ _ _ _⟩,Nat.le_refl _,fun t ht => (by cases ht),HG.out⟩; clear hb1 hSM HN
  go_wp2_with fail
  go_loopg [10,11,12,13] s.size (fun gk v10 v11 v12 v13 wr => ∃ k f nt : Nat,v11 = .int .i64 f /\ v12 = .int .i64 nt /\ v13 = .int .i64 k /\ k + gk = s.size /\ f <= k /\ nt <= f /\ Aside ((k = s.size -> f = s.size) /\ ∃ L ts,ts.length = nt /\ LD7 w wr l lim B L ts v10 k f G))
  case atStart => exact ⟨0,0,0,rfl,rfl,rfl,by omega,Nat.le_refl _,Nat.le_refl _,fun e => e,[],[],rfl,HS1.out⟩
  case round =>
    obtain ⟨k,f,nt,rfl,rfl,rfl,hk,hfk,hnf,HA⟩ := hrel; obtain ⟨hend,L,ts,hnt,hA⟩ := HA.out; have HS : Hid (LD7 w wr l lim B L ts u10 k f G) := hA; have HNt : Hid (ts.length = nt) := hnt; clear HA hA hnt HS1 HG
    by_cases hlt : k < s.size
    case neg =>
      obtain rfl : k = s.size := by omega
      have hfz := hend rfl; have HZ : Hid (PP (.returned (.tuple #[.pointer none,.slice none 0 0,.int .i64 ((nt : Int) + 1),.int .i64 3])) wr) := by
        have := HNo.out wr L (nt + 1) 3 HS.out.rs.bel (by decide) (by
          have hdn : l.drop s.size = [] := List.drop_eq_nil_of_le (by rw [HS8.out.2]; exact Nat.le_refl _); rw [<- HS.out.eq,hfz,hdn,take_drop_self]; rw [show lgo [] [] = [] from rfl,ldG_nil,HNt.out])
        exact this
      have hgk : ¬ (s.size : Int) < (s.size : Int) := by omega
      clear HS
      go_wp2_with fail
      first | exact HZ.out | (refine bodyPost_ret (v := _) ?_ rfl HZ.out; simp [results,Tryz.results13,go_sem])
    have hkn : (k : Int) < (s.size : Int) := by omega
    have hat := at_ofP hlt; obtain ⟨c,hc⟩ : ∃ c,s[k] = c := ⟨_,rfl⟩; rw [hc,HS8.out.1] at hat; have HLine := lgo_line (l := l) hfk hat; have HLi : Hid ((c = 10 -> lgo ((l.take k).drop f) (l.drop k) = (l.take k).drop f :: lgo [] (l.drop (k + 1))) /\ (c ≠ 10 -> k + 1 = l.length -> lgo ((l.take k).drop f) (l.drop k) = (l.take (k + 1)).drop f :: lgo [] (l.drop (k + 1))) /\ (c ≠ 10 -> lgo ((l.take k).drop f) (l.drop k) = lgo ((l.take (k + 1)).drop f) (l.drop (k + 1)))) := HLine; clear hat HLine hend; have qw : IntKind.i64.wrap ((s.size : Int) - 1) = (s.size : Int) - 1 := by rw [IntKind.wrap_i64]; omega
    by_cases h10 : c.toNat = 10
    case neg =>
      have q1 : ((c.toNat : Int) != 10) = true := by simp; omega
      have HC : Hid (c ≠ 10) := fun e => h10 (by rw [e]; rfl)
      by_cases hlast : k + 1 = s.size
      case neg =>
        have q2 : ((k : Int) != (s.size : Int) - 1) = true := by simp; omega
        have HN2 : Aside ((k + 1 = s.size -> f = s.size) /\ ∃ L ts,ts.length = nt /\ LD7 w wr l lim B L ts u10 (k + 1) f G) := ⟨fun e => absurd e hlast,L,ts,HNt.out,HS.out.rs,HS.out.ll,HS.out.ti,by rw [<- HLi.out.2.2 HC.out]; exact HS.out.eq⟩; clear HS HLi HC
        go_wp2_with fail
        go_roundg (gk - 1)
        case measure => omega
        case rel => exact ⟨k + 1,f,nt,rfl,rfl,by simp,by omega,by omega,by omega,HN2⟩
      have q2 : ((k : Int) != (s.size : Int) - 1) = false := by simp; omega
      have HLn : Hid (lgo ((l.take k).drop f) (l.drop k) = (l.take (k + 1)).drop f :: lgo [] (l.drop (k + 1))) := HLi.out.2.1 HC.out (by rw [<- HS8.out.2]; exact hlast); have HLast : Hid (k + 1 = s.size) := hlast; clear HLi HC hlast
      go_upto_region 12 with fail
      clear q2 qw
      go_upto_region 14 with fail
      have h10z : True := trivial; have hfe : f <= k + 1 := by omega
      have hfeI : (f : Int) <= ((k + 1 : Nat) : Int) := by omega
      have hen : k + 1 <= s.size := by first | omega | (have := HLast.out; omega)
      have henI : ((k + 1 : Nat) : Int) <= (s.size : Int) := by omega
      obtain ⟨ln,hln⟩ : ∃ ln,(l.take (k + 1)).drop f = ln := ⟨_,rfl⟩; have hll : ln.length <= 1048575 := by rw [<- hln,List.length_drop,List.length_take]; omega
      have HWd : Hid (∀ W,Calls Tryz.prog 32 #[.string (s.extract f (k + 1))] W fun e w' => ∃ v,e = .returned v /\ w'.ownsRow W.heap.size 9 1 v (wds ln).length ((wds ln).map strV) /\ Below W.heap.size W w') := fun W => by
        have h1 := words7_any (s.extract f (k + 1)) W (by rw [Lib.size_eq,ext_data,HS8.out.1,hln]; omega); rw [ext_data,HS8.out.1,hln] at h1; exact h1
      have HWl : Hid ((∀ u ∈ wds ln,u.length <= 1048576) /\ (wds ln).length <= 1048576) := ⟨fun u hu => by have := wds_len hu; omega,by have := wgo_num ln []; unfold wds; omega⟩; have HGl : Hid (ldG lim (ln :: lgo [] (l.drop (k + 1))) L ts = G) := by show _ = _; rw [<- hln,<- HLn.out]; exact HS.out.eq
      have HR : Hid (lgo [] (l.drop (k + 1)) = [] ↔ ¬ k + 1 < s.size) := by
        show _ ↔ _
        rw [lgo_nil,List.drop_eq_nil_iff,HS8.out.2]
        omega
      clear hln hll HLn
      go_wp2_with fail
      refine (HWd.out _).mono ?_; rintro e w2 ⟨vW,rfl,hrow,hb2⟩; have HS2 : Hid (RS7 w.heap.size w w2 B lim L ts u10) := HS.out.rs.over hb2; have HSt : Hid (L.length <= ts.length /\ ∀ t ∈ ts,isT L t = true) := ⟨HS.out.ll,HS.out.ti⟩; have HSV : Hid (SV w2 (wds ln) vW) := SV.of hrow; have HCap : Hid (∀ a n c,vW = .slice a n c -> n <= c) := fun a n c e => by
        rcases hrow.2 with ⟨h3,h0⟩ | ⟨_,_,_,e5,_,_,h6,_⟩
        · rw [h3] at e; cases e; exact Nat.le_refl _
        rw [e5] at e; cases e; exact h6
      have HIV : Hid (IV w2 ts u10) := IV.of HS2.out.row; clear hrow hb2 HWd HS; cases hw : wds ln with
      | nil =>
        rw [hw] at HSV; obtain ⟨aV,cV,rfl,-⟩ := HSV.out; have HNd := rnode_any [] ts (.slice aV 0 cV) u10 w2 HSV.out HIV.out (by simp) (by rw [HNt.out]; omega) (fun u hu => by cases hu); have HNd2 : Hid (Calls Tryz.prog 34 #[.slice aV 0 cV,u10] w2 fun e w' => Below w2.heap.size w2 w' /\ ((ndO ts [] = none /\ ∃ X : Nd,e = .returned (.tuple #[nodeV X,.bool false])) ∨ ∃ n,ndO ts [] = some n /\ e = .returned (.tuple #[nodeV n,.bool true]))) := HNd; have HZ : Hid (∀ W,Below w2.heap.size w2 W -> PP (.returned (.tuple #[.pointer none,.slice none 0 0,.int .i64 ((nt : Int) + 1),.int .i64 3])) W) := fun W hb => by
          have := HNo.out W L (nt + 1) 3 (HS2.out.over hb).bel (by decide) (by rw [<- HGl.out,ldG_cons,hw,HNt.out]); exact this
        clear hw HNd HSV HIV HS2 HGl HR; simp only [List.length_nil]
        go_wp2_with fail
        refine HNd2.out.mono ?_; rintro e w3 ⟨hb3,⟨h1,X,rfl⟩ | ⟨n0,h1,rfl⟩⟩
        · obtain ⟨x0,x1,x2,x3,x4,x5,x6⟩ := X
          rw [show nodeV ⟨x0,x1,x2,x3,x4,x5,x6⟩ = .agg #[.int .i64 x0,.int .i64 x1,.int .i64 x2,.int .i64 x3,.int .i64 x4,.int .u64 x5,.string x6] from rfl]; have HZ3 : Hid (∀ W,Below w3.heap.size w3 W -> PP (.returned (.tuple #[.pointer none,.slice none 0 0,.int .i64 ((nt : Int) + 1),.int .i64 3])) W) := fun W hb => HZ.out W (hb3.trans (hb.mono hb3.size))
          clear HZ HNd2 hb3 h1
          go_wp2_with fail
          refine bodyPost_ret (v := _) ?_ rfl (HZ3.out _ (bel1 _ _))
          simp [results,Tryz.results13,go_sem]
        cases h1
      | cons u us =>
        rw [hw] at HSV HWl; have HSV0 := HSV.out; obtain ⟨aV,cV,rfl,hcell⟩ := HSV0; obtain ⟨g,o,rfl,hg⟩ := hcell (by simp); have c1 : w2.cell? ⟨g,o,none⟩ = some (.string ⟨u.toArray⟩) := hg 0 (by simp); obtain ⟨nl,hnl⟩ : ∃ nl,us.length = nl := ⟨_,rfl⟩; have HNl : Hid (us.length = nl /\ nl <= 1048576) := ⟨hnl,by have := HWl.out.2; simp at this; omega⟩; have hln2 : (u :: us).length = nl + 1 := by simp [hnl]
        have hcv : nl + 1 <= cV := by have := HCap.out _ _ _ rfl; simpa [hnl] using this
        rw [hln2] at HSV ⊢; have hnl6 := HNl.out.2; clear hcell hg hnl hln2
        by_cases hroot : u = rootsB
        · subst hroot
          have hG2 : ldG lim (ln :: lgo [] (l.drop (k + 1))) L ts = (match rtO ts us with
              | none => (L,[],ts.length + 1,3)
              | some rs => if lgo [] (l.drop (k + 1)) = [] then (L,rs,0,0) else (L,[],ts.length + 2,3)) := by
            rw [ldG_cons,hw]; simp only [if_true]
            rfl
          have HG2 : Hid (G = (match rtO ts us with
              | none => (L,[],nt + 1,3)
              | some rs => if ¬ k + 1 < s.size then (L,rs,0,0) else (L,[],nt + 2,3))) := by
            show _ = _
            rw [<- HGl.out,hG2,HNt.out]; simp only [HR.out]
            try rfl
          rw [show (⟨rootsB.toArray⟩ : ByteArray) = ⟨#[114,111,111,116,115]⟩ from rfl] at c1; clear hw hG2 HGl HR
          by_cases hc1 : cV = 1
          · subst hc1
            obtain rfl : nl = 0 := by omega
            have HT : Hid (∀ c',SV w2 us (.slice (some ⟨g,o,none⟩) 0 c')) := fun c' => ⟨_,c',by rw [HNl.out.1],fun h => absurd h (by rw [HNl.out.1]; simp)⟩
            go_wp2_with fail
            refine (rroots_any us ts _ _ w2 (HT.out _) HIV.out (by have := HNl.out; omega) (by rw [HNt.out]; omega) (fun x hx => HWl.out.1 x (by simp [hx]))).mono ?_; rintro e w3 ⟨hb3,⟨h1,rfl⟩ | ⟨rts,v3,h1,rfl,hrow3⟩⟩
            · have HZ : Hid (PP (.returned (.tuple #[.pointer none,.slice none 0 0,.int .i64 ((nt : Int) + 1),.int .i64 3])) w3) := by
                have := HNo.out w3 L (nt + 1) 3 (HS2.out.over hb3).bel (by decide) (by rw [HG2.out,h1]); exact this
              clear hb3 h1 HG2
              go_wp2_with fail
              first | exact HZ.out | (refine bodyPost_ret (v := _) ?_ rfl HZ.out; simp [results,Tryz.results13,go_sem])
            by_cases hmore : k + 1 < s.size
            · have hmI : (k : Int) + 1 < (s.size : Int) := by omega
              have HZ : Hid (PP (.returned (.tuple #[.pointer none,.slice none 0 0,.int .i64 ((nt : Int) + 2),.int .i64 3])) w3) := by
                have := HNo.out w3 L (nt + 2) 3 (HS2.out.over hb3).bel (by decide) (by rw [HG2.out,h1]; simp only [hmore,not_true_eq_false,if_false]); exact this
              have hq2 : IntKind.i64.wrap ((nt : Int) + 1 + 1) = (nt : Int) + 2 := by rw [IntKind.wrap_i64]; omega
              clear hb3 h1 HG2 hrow3
              go_wp2_with fail
              first | exact HZ.out | (refine bodyPost_ret (v := _) ?_ rfl HZ.out; simp [results,Tryz.results13,go_sem])
            have hmI : ¬ (k : Int) + 1 < (s.size : Int) := by omega
            have HZ : Hid (PP (.returned (.tuple #[.pointer (some ⟨B,0,none⟩),v3,.int .i64 0,.int .i64 0])) w3) := by
              have h3 := HS2.out.over hb3; obtain ⟨v1,M1,M2,hS3,_⟩ := h3.sm; exact HYe.out w3 L rts B v3 h3.bel (by rw [HG2.out,h1]; simp only [hmore,not_false_eq_true,if_true]) (row_base hrow3 HS2.out.bel.size) ⟨v1,M1,M2,hS3⟩
            clear hb3 h1 HG2 hrow3
            go_wp2_with fail
            first | exact HZ.out | (refine bodyPost_ret (v := _) ?_ rfl HZ.out; simp [results,Tryz.results13,go_sem])
          have hc2 : ¬ cV - 1 = 0 := by omega
          go_wp2_with fail
          refine (rroots_any us ts _ _ w2 (HSV.out.tail (by have := HNl.out.1; omega)) HIV.out (by have := HNl.out; omega) (by rw [HNt.out]; omega) (fun x hx => HWl.out.1 x (by simp [hx]))).mono ?_; rintro e w3 ⟨hb3,⟨h1,rfl⟩ | ⟨rts,v3,h1,rfl,hrow3⟩⟩
          · have HZ : Hid (PP (.returned (.tuple #[.pointer none,.slice none 0 0,.int .i64 ((nt : Int) + 1),.int .i64 3])) w3) := by
              have := HNo.out w3 L (nt + 1) 3 (HS2.out.over hb3).bel (by decide) (by rw [HG2.out,h1]); exact this
            clear hb3 h1 HG2
            go_wp2_with fail
            first | exact HZ.out | (refine bodyPost_ret (v := _) ?_ rfl HZ.out; simp [results,Tryz.results13,go_sem])
          by_cases hmore : k + 1 < s.size
          · have hmI : (k : Int) + 1 < (s.size : Int) := by omega
            have HZ : Hid (PP (.returned (.tuple #[.pointer none,.slice none 0 0,.int .i64 ((nt : Int) + 2),.int .i64 3])) w3) := by
              have := HNo.out w3 L (nt + 2) 3 (HS2.out.over hb3).bel (by decide) (by rw [HG2.out,h1]; simp only [hmore,not_true_eq_false,if_false]); exact this
            have hq2 : IntKind.i64.wrap ((nt : Int) + 1 + 1) = (nt : Int) + 2 := by rw [IntKind.wrap_i64]; omega
            clear hb3 h1 HG2 hrow3
            go_wp2_with fail
            first | exact HZ.out | (refine bodyPost_ret (v := _) ?_ rfl HZ.out; simp [results,Tryz.results13,go_sem])
          have hmI : ¬ (k : Int) + 1 < (s.size : Int) := by omega
          have HZ : Hid (PP (.returned (.tuple #[.pointer (some ⟨B,0,none⟩),v3,.int .i64 0,.int .i64 0])) w3) := by
            have h3 := HS2.out.over hb3; obtain ⟨v1,M1,M2,hS3,_⟩ := h3.sm; exact HYe.out w3 L rts B v3 h3.bel (by rw [HG2.out,h1]; simp only [hmore,not_false_eq_true,if_true]) (row_base hrow3 HS2.out.bel.size) ⟨v1,M1,M2,hS3⟩
          clear hb3 h1 HG2 hrow3
          go_wp2_with fail
          first | exact HZ.out | (refine bodyPost_ret (v := _) ?_ rfl HZ.out; simp [results,Tryz.results13,go_sem])
        have q5 : ((⟨u.toArray⟩ : ByteArray).toList == [114,111,111,116,115]) = false := by rw [Lib.toList_data]; simpa [rootsB] using hroot
        have HG2 : Hid (G = (match lnO ts L (u :: us) with
            | none => (L,[],nt + 1,3)
            | some n => if (mk lim L n).2.2 = 0 then ldG lim (lgo [] (l.drop (k + 1))) (mk lim L n).1 (ts ++ [(mk lim L n).2.1]) else ((mk lim L n).1,[],nt + 1,(mk lim L n).2.2))) := by
          show _ = _
          rw [<- HGl.out,ldG_cons,hw,HNt.out]; simp only [if_neg hroot]
          rfl
        obtain ⟨us1,hus1⟩ : ∃ us1,(⟨u.toArray⟩ : ByteArray) = us1 := ⟨_,rfl⟩; rw [hus1] at q5 c1; clear hroot hus1 hw HGl HR
        go_wp2_with fail
        refine (rnode_any (u :: us) ts _ _ w2 HSV.out HIV.out (by have := HNl.out; simp; omega) (by rw [HNt.out]; omega) HWl.out.1).mono ?_; rintro e w3 ⟨hb3,⟨h1,X,rfl⟩ | ⟨n0,h1,rfl⟩⟩
        · obtain ⟨x0,x1,x2,x3,x4,x5,x6⟩ := X
          rw [show nodeV ⟨x0,x1,x2,x3,x4,x5,x6⟩ = .agg #[.int .i64 x0,.int .i64 x1,.int .i64 x2,.int .i64 x3,.int .i64 x4,.int .u64 x5,.string x6] from rfl]; have HZ : Hid (∀ W,Below w3.heap.size w3 W -> PP (.returned (.tuple #[.pointer none,.slice none 0 0,.int .i64 ((nt : Int) + 1),.int .i64 3])) W) := fun W hb => by
            have := HNo.out W L (nt + 1) 3 ((HS2.out.over hb3).over hb).bel (by decide) (by rw [HG2.out,lnO_ndO,h1]; rfl); exact this
          clear hb3 h1 HG2
          go_wp2_with fail
          refine bodyPost_ret (v := _) ?_ rfl (HZ.out _ (bel1 _ _))
          simp [results,Tryz.results13,go_sem]
        have HS3 : Hid (RS7 w.heap.size w w3 B lim L ts u10) := HS2.out.over hb3; have hfacts := ndO_facts (fun t ht => by have h1 := of_decide_eq_true (HSt.out.2 t ht); have h2 := HSt.out.1; have h3 := HNt.out; unfold I64; omega) HWl.out.1 h1; have HL2 : Hid (lnO ts L (u :: us) = some (fin L n0)) := by show _ = _; rw [lnO_ndO,h1]; rfl
        have HF : Hid (n0.ok /\ (15 <= n0.op /\ n0.op <= 30 -> isT L n0.a = true) /\ (n0.op = 14 ∨ n0.op = 30 -> isT L n0.b = true) /\ (¬ (n0.op = 3 ∨ n0.op = 4 ∨ 31 <= n0.op) -> n0.w = 0)) := ⟨hfacts.1,fun h => HSt.out.2 _ (hfacts.2.1 h),fun h => HSt.out.2 _ (hfacts.2.2.1 h),hfacts.2.2.2⟩; rw [HL2.out] at HG2; clear hb3 h1 hfacts HL2 HS2 HIV HSV c1 q5; obtain ⟨y0,y1,y2,y3,y4,y5,y6⟩ := n0; rw [show nodeV ⟨y0,y1,y2,y3,y4,y5,y6⟩ = .agg #[.int .i64 y0,.int .i64 y1,.int .i64 y2,.int .i64 y3,.int .i64 y4,.int .u64 y5,.string y6] from rfl]; obtain ⟨D,hD⟩ : ∃ D,w3.heap.size = D := ⟨_,rfl⟩; obtain ⟨W4,hW4⟩ : ∃ W4,w3.alloc (.cells #[.int .i64 y0,.int .i64 y1,.int .i64 y2,.int .i64 y3,.int .i64 y4,.int .u64 y5,.string y6] 64) = W4 := ⟨_,rfl⟩; have HW4 : Hid (w3.alloc (.cells #[.int .i64 y0,.int .i64 y1,.int .i64 y2,.int .i64 y3,.int .i64 y4,.int .u64 y5,.string y6] 64) = W4 /\ w3.heap.size = D) := ⟨hW4,hD⟩; have hb4 : Below w3.heap.size w3 W4 := by rw [<- hW4]; exact bel1 _ _
        have hd4 : W4.heap[D]? = some (.cells #[.int .i64 y0,.int .i64 y1,.int .i64 y2,.int .i64 y3,.int .i64 y4,.int .u64 y5,.string y6] 64 (0,0)) := by rw [<- hW4,<- hD]; exact heap_alloc_new _ _
        have HS4 : Hid (RS7 w.heap.size w W4 B lim L ts u10 /\ W4.heap[D]? = some (.cells #[.int .i64 y0,.int .i64 y1,.int .i64 y2,.int .i64 y3,.int .i64 y4,.int .u64 y5,.string y6] 64 (0,0)) /\ w.heap.size <= D) := ⟨HS3.out.over hb4,hd4,by rw [<- hD]; exact HS3.out.bel.size⟩; obtain ⟨vS,M1,M2,hSM,hM1⟩ := HS3.out.sm; have HSM : Hid (SM 69 W4 w.heap.size B lim L vS M1 M2 /\ M1 ≠ none /\ ∀ q,Own B vS M1 M2 q -> q < D) := ⟨hSM.below hb4,hM1,fun q hq => by rw [<- hD]; exact hSM.lt hq⟩; have HIm : Hid (Calls Tryz.prog 35 #[.pointer (some ⟨B,0,none⟩),.agg #[.int .i64 y0,.int .i64 y1,.int .i64 y2,.int .i64 y3,.int .i64 y4,.int .u64 y5,.string y6]] W4 fun e w' => e = .returned (.int .i64 (fin L ⟨y0,y1,y2,y3,y4,y5,y6⟩).w) /\ Below W4.heap.size W4 w') := implied_any _ _ _ _ _ _ _ ⟨y0,y1,y2,y3,y4,y5,y6⟩ W4 HSM.out.1 HF.out.2.1 HF.out.2.2.1 HF.out.2.2.2; clear hD hW4 hb4 hd4 hSM hM1 HS3
        go_upto_region 27 with fail
        rw [HW4.out.1,HW4.out.2]; have c0 : W4.cell? ⟨D,0,none⟩ = some (.int .i64 y0) := cell_of HS4.out.2.1 0; have c1 : W4.cell? ⟨D,1,none⟩ = some (.int .i64 y1) := cell_of HS4.out.2.1 1; have c2 : W4.cell? ⟨D,2,none⟩ = some (.int .i64 y2) := cell_of HS4.out.2.1 2; have c3 : W4.cell? ⟨D,3,none⟩ = some (.int .i64 y3) := cell_of HS4.out.2.1 3; have c4 : W4.cell? ⟨D,4,none⟩ = some (.int .i64 y4) := cell_of HS4.out.2.1 4; have c5 : W4.cell? ⟨D,5,none⟩ = some (.int .u64 y5) := cell_of HS4.out.2.1 5; have c6 : W4.cell? ⟨D,6,none⟩ = some (.string y6) := cell_of HS4.out.2.1 6; clear HW4
        go_wp2_with fail
        refine HIm.out.mono ?_; rintro e w5 ⟨rfl,hb5⟩; obtain ⟨z1,hz⟩ : ∃ z1,(fin L ⟨y0,y1,y2,y3,y4,y5,y6⟩).w = z1 := ⟨_,rfl⟩; have HM : Hid (fin L ⟨y0,y1,y2,y3,y4,y5,y6⟩ = ⟨y0,z1,y2,y3,y4,y5,y6⟩) := by show _ = _; rw [fin_eq,hz]
        rw [hz]; rw [HM.out] at HG2; have hd5 : w5.heap[D]? = some (.cells #[.int .i64 y0,.int .i64 y1,.int .i64 y2,.int .i64 y3,.int .i64 y4,.int .u64 y5,.string y6] 64 (0,0)) := (hb5.block D (Array.getElem?_eq_some_iff.1 HS4.out.2.1).1).trans HS4.out.2.1; have cc : w5.cell? ⟨D,1,none⟩ = some (.int .i64 y1) := cell_of hd5 1; have fc := fz_of hd5 1; obtain ⟨W6,hW6⟩ : ∃ W6,w5.setCell ⟨D,1,none⟩ (.int .i64 z1) = W6 := ⟨_,rfl⟩; have hd6 : W6.heap[D]? = some (.cells #[.int .i64 y0,.int .i64 z1,.int .i64 y2,.int .i64 y3,.int .i64 y4,.int .u64 y5,.string y6] 64 (0,0)) := by
          rw [<- hW6,heap_setCell_same _ _ 1 _ _ _ hd5]
          rfl
        have hS6 : RS7 w.heap.size w W6 B lim L ts u10 /\ SM 69 W6 w.heap.size B lim L vS M1 M2 := by
          have h5 := HS4.out.1.over hb5; have hM5 := HSM.out.1.below hb5; have hno : ∀ q,Own B vS M1 M2 q -> q ≠ D := fun q hq => by have := HSM.out.2.2 q hq; omega
          have oth : ∀ j,j ≠ D -> W6.heap[j]? = w5.heap[j]? := fun j hj => by rw [<- hW6]; exact heap_setCell_other _ _ _ _ hj
          have hM6 : SM 69 W6 w.heap.size B lim L vS M1 M2 := hM5.stands (fun q hq => oth q (hno q hq)); refine ⟨⟨⟨?_,?_,?_,?_,fun j hj => ?_⟩,h5.le,⟨vS,M1,M2,hM6,HSM.out.2.1⟩,row_is h5.row (fun j hj => oth j (fun e => row_ne h5.row hd5 (by decide) (by rw [hj,e])))⟩,hM6⟩
          · rw [<- hW6]; exact h5.bel.os
          · rw [<- hW6]; exact h5.bel.tape
          · rw [<- hW6]; exact h5.bel.output
          · rw [<- hW6,World.size_setCell]; exact h5.bel.size
          rw [oth j (by have := HS4.out.2.2; omega)]; exact h5.bel.block j hj
        have hok : Nd.ok ⟨y0,z1,y2,y3,y4,y5,y6⟩ := by rw [<- HM.out]; exact fin_ok HSM.out.1.wds HF.out.1
        have HMk : Hid (Calls Tryz.prog 36 #[.pointer (some ⟨B,0,none⟩),.agg #[.int .i64 y0,.int .i64 z1,.int .i64 y2,.int .i64 y3,.int .i64 y4,.int .u64 y5,.string y6]] W6 (MkP 69 W6 w.heap.size B lim L vS M1 M2 ⟨y0,z1,y2,y3,y4,y5,y6⟩)) := rmake_any w.heap.size B lim L vS M1 M2 ⟨y0,z1,y2,y3,y4,y5,y6⟩ W6 hS6.2 HSM.out.2.1 hS6.1.bel.size (by have := HSt.out.1; have := HNt.out; omega) hok; have HS6 : Hid (RS7 w.heap.size w W6 B lim L ts u10 /\ SM 69 W6 w.heap.size B lim L vS M1 M2 /\ M1 ≠ none) := ⟨hS6.1,hS6.2,HSM.out.2.1⟩; have HW6 : Hid (w5.setCell ⟨D,1,none⟩ (.int .i64 z1) = W6) := hW6; have d0 : W6.cell? ⟨D,0,none⟩ = some (.int .i64 y0) := cell_of hd6 0; have d1 : W6.cell? ⟨D,1,none⟩ = some (.int .i64 z1) := cell_of hd6 1; have d2 : W6.cell? ⟨D,2,none⟩ = some (.int .i64 y2) := cell_of hd6 2; have d3 : W6.cell? ⟨D,3,none⟩ = some (.int .i64 y3) := cell_of hd6 3; have d4 : W6.cell? ⟨D,4,none⟩ = some (.int .i64 y4) := cell_of hd6 4; have d5 : W6.cell? ⟨D,5,none⟩ = some (.int .u64 y5) := cell_of hd6 5; have d6 : W6.cell? ⟨D,6,none⟩ = some (.string y6) := cell_of hd6 6; clear hb5 hz hd5 hd6 hS6 hok hW6 HIm HS4 HSM c0 c1 c2 c3 c4 c5 c6 HF HM
        go_upto_region 28 with fail
        rw [HW6.out]; clear HW6 cc fc
        go_wp2_with fail
        refine HMk.out.mono ?_; rintro e w7 ⟨rfl,hA⟩; obtain ⟨m,hm⟩ : ∃ m : Nd,m = ⟨y0,z1,y2,y3,y4,y5,y6⟩ := ⟨_,rfl⟩; rw [<- hm] at hA HG2 ⊢; have HS7 : Hid (RS7 w.heap.size w w7 B lim (mk lim L m).1 ts u10) := HS6.out.1.make HS6.out.2.1 HS6.out.2.2 hA; obtain ⟨a7,ha7⟩ : ∃ a7,(mk lim L m).2.1 = a7 := ⟨_,rfl⟩; obtain ⟨e7,he7⟩ : ∃ e7,(mk lim L m).2.2 = e7 := ⟨_,rfl⟩; rw [ha7,he7]; clear hA hm HMk HS6 d0 d1 d2 d3 d4 d5 d6
        by_cases h0 : e7 = 0
        · subst h0
          have HG3 : Hid (ldG lim (lgo [] (l.drop (k + 1))) (mk lim L m).1 (ts ++ [a7]) = G) := by
            show _ = _
            rw [HG2.out]; simp only [he7,if_true,ha7]
          have HT7 : Hid ((mk lim L m).1.length <= ts.length + 1 /\ ∀ t ∈ ts ++ [a7],isT (mk lim L m).1 t = true) := by
            refine ⟨by have := mk_len lim L m; have := HSt.out.1; omega,fun t ht => ?_⟩
            rcases List.mem_append.1 ht with e | e
            · exact isT_mono (HSt.out.2 t e) mk_ge
            simp at e
            rw [e,<- ha7]; exact mk_isT he7
          clear ha7 he7 HG2 HSt; have hsz : w.heap.size <= w7.heap.size := HS7.out.bel.size; have hrow : w7.ownsRow w.heap.size 3 1 u10 nt (ts.map (Value.int .i64)) := by have := HS7.out.row; rw [HNt.out] at this; exact this
          have HRow : Hid (w7.ownsRow w.heap.size 3 1 u10 nt (ts.map (Value.int .i64))) := hrow; clear hrow
          go_wp2_with (at_builtin; refine wpList_append_own _ rfl _ _ 22 rfl w.heap.size 3 i0 (.int .i64 0) 1 8 Tryz.underlying22 hi hz0 hz1 hz2 rfl (by decide) _ _ _ rfl (HRow.out.alloc _) ⟨w7.heap.size,0,none⟩ 1 1 [.int .i64 a7] rfl rfl (cell_one_new _ _ _) (by intro u hu; simp at hu; subst hu; rfl) (by unfold maxLen; omega) (by omega) (by simp; omega) ?_; intro v8 w8 hown8 hgrow8 hnil8; have HN8 : Aside ((k + 1 = s.size -> k + 1 = s.size) /\ ∃ L ts,ts.length = nt + 1 /\ LD7 w w8 l lim B L ts v8 (k + 1) (k + 1) G) := ⟨fun e => e,_,ts ++ [a7],by rw [List.length_append,HNt.out]; rfl,HS7.out.push HNt.out hown8 hgrow8,by rw [List.length_append]; exact HT7.out.1,HT7.out.2,by rw [take_drop_self]; exact HG3.out⟩; clear hown8 hgrow8 hnil8)
          go_roundg (gk - 1)
          case measure => omega
          case rel => exact ⟨k + 1,k + 1,nt + 1,by simp,by simp,by simp,by omega,Nat.le_refl _,by omega,HN8⟩
        have q7 : (e7 != 0) = true := by simp [h0]
        have HZ : Hid (PP (.returned (.tuple #[.pointer none,.slice none 0 0,.int .i64 ((nt : Int) + 1),.int .i64 e7])) w7) := by
          have := HNo.out w7 (mk lim L m).1 (nt + 1) e7 HS7.out.bel h0 (by rw [HG2.out]; simp only [he7,if_neg h0]); exact this
        clear ha7 he7 HG2 HS7
        go_wp2_with fail
        first | exact HZ.out | (refine bodyPost_ret (v := _) ?_ rfl HZ.out; simp [results,Tryz.results13,go_sem])
    have q1 : ((c.toNat : Int) != 10) = false := by rw [h10]; rfl
    have HLn : Hid (lgo ((l.take k).drop f) (l.drop k) = (l.take k).drop f :: lgo [] (l.drop (k + 1))) := HLi.out.1 (UInt8.toNat_inj.1 (by rw [h10]; rfl)); clear HLi; have hfe : f <= k := by omega
    have hfeI : (f : Int) <= ((k : Nat) : Int) := by omega
    have hen : k <= s.size := by first | omega | (have := HLast.out; omega)
    have henI : ((k : Nat) : Int) <= (s.size : Int) := by omega
    obtain ⟨ln,hln⟩ : ∃ ln,(l.take (k)).drop f = ln := ⟨_,rfl⟩; have hll : ln.length <= 1048575 := by rw [<- hln,List.length_drop,List.length_take]; omega
    have HWd : Hid (∀ W,Calls Tryz.prog 32 #[.string (s.extract f (k))] W fun e w' => ∃ v,e = .returned v /\ w'.ownsRow W.heap.size 9 1 v (wds ln).length ((wds ln).map strV) /\ Below W.heap.size W w') := fun W => by
      have h1 := words7_any (s.extract f (k)) W (by rw [Lib.size_eq,ext_data,HS8.out.1,hln]; omega); rw [ext_data,HS8.out.1,hln] at h1; exact h1
    have HWl : Hid ((∀ u ∈ wds ln,u.length <= 1048576) /\ (wds ln).length <= 1048576) := ⟨fun u hu => by have := wds_len hu; omega,by have := wgo_num ln []; unfold wds; omega⟩; have HGl : Hid (ldG lim (ln :: lgo [] (l.drop (k + 1))) L ts = G) := by show _ = _; rw [<- hln,<- HLn.out]; exact HS.out.eq
    have HR : Hid (lgo [] (l.drop (k + 1)) = [] ↔ ¬ k + 1 < s.size) := by
      show _ ↔ _
      rw [lgo_nil,List.drop_eq_nil_iff,HS8.out.2]
      omega
    clear hln hll HLn
    go_wp2_with fail
    refine (HWd.out _).mono ?_; rintro e w2 ⟨vW,rfl,hrow,hb2⟩; have HS2 : Hid (RS7 w.heap.size w w2 B lim L ts u10) := HS.out.rs.over hb2; have HSt : Hid (L.length <= ts.length /\ ∀ t ∈ ts,isT L t = true) := ⟨HS.out.ll,HS.out.ti⟩; have HSV : Hid (SV w2 (wds ln) vW) := SV.of hrow; have HCap : Hid (∀ a n c,vW = .slice a n c -> n <= c) := fun a n c e => by
      rcases hrow.2 with ⟨h3,h0⟩ | ⟨_,_,_,e5,_,_,h6,_⟩
      · rw [h3] at e; cases e; exact Nat.le_refl _
      rw [e5] at e; cases e; exact h6
    have HIV : Hid (IV w2 ts u10) := IV.of HS2.out.row; clear hrow hb2 HWd HS; cases hw : wds ln with
    | nil =>
      rw [hw] at HSV; obtain ⟨aV,cV,rfl,-⟩ := HSV.out; have HNd := rnode_any [] ts (.slice aV 0 cV) u10 w2 HSV.out HIV.out (by simp) (by rw [HNt.out]; omega) (fun u hu => by cases hu); have HNd2 : Hid (Calls Tryz.prog 34 #[.slice aV 0 cV,u10] w2 fun e w' => Below w2.heap.size w2 w' /\ ((ndO ts [] = none /\ ∃ X : Nd,e = .returned (.tuple #[nodeV X,.bool false])) ∨ ∃ n,ndO ts [] = some n /\ e = .returned (.tuple #[nodeV n,.bool true]))) := HNd; have HZ : Hid (∀ W,Below w2.heap.size w2 W -> PP (.returned (.tuple #[.pointer none,.slice none 0 0,.int .i64 ((nt : Int) + 1),.int .i64 3])) W) := fun W hb => by
        have := HNo.out W L (nt + 1) 3 (HS2.out.over hb).bel (by decide) (by rw [<- HGl.out,ldG_cons,hw,HNt.out]); exact this
      clear hw HNd HSV HIV HS2 HGl HR; simp only [List.length_nil]
      go_wp2_with fail
      refine HNd2.out.mono ?_; rintro e w3 ⟨hb3,⟨h1,X,rfl⟩ | ⟨n0,h1,rfl⟩⟩
      · obtain ⟨x0,x1,x2,x3,x4,x5,x6⟩ := X
        rw [show nodeV ⟨x0,x1,x2,x3,x4,x5,x6⟩ = .agg #[.int .i64 x0,.int .i64 x1,.int .i64 x2,.int .i64 x3,.int .i64 x4,.int .u64 x5,.string x6] from rfl]; have HZ3 : Hid (∀ W,Below w3.heap.size w3 W -> PP (.returned (.tuple #[.pointer none,.slice none 0 0,.int .i64 ((nt : Int) + 1),.int .i64 3])) W) := fun W hb => HZ.out W (hb3.trans (hb.mono hb3.size))
        clear HZ HNd2 hb3 h1
        go_wp2_with fail
        refine bodyPost_ret (v := _) ?_ rfl (HZ3.out _ (bel1 _ _))
        simp [results,Tryz.results13,go_sem]
      cases h1
    | cons u us =>
      rw [hw] at HSV HWl; have HSV0 := HSV.out; obtain ⟨aV,cV,rfl,hcell⟩ := HSV0; obtain ⟨g,o,rfl,hg⟩ := hcell (by simp); have c1 : w2.cell? ⟨g,o,none⟩ = some (.string ⟨u.toArray⟩) := hg 0 (by simp); obtain ⟨nl,hnl⟩ : ∃ nl,us.length = nl := ⟨_,rfl⟩; have HNl : Hid (us.length = nl /\ nl <= 1048576) := ⟨hnl,by have := HWl.out.2; simp at this; omega⟩; have hln2 : (u :: us).length = nl + 1 := by simp [hnl]
      have hcv : nl + 1 <= cV := by have := HCap.out _ _ _ rfl; simpa [hnl] using this
      rw [hln2] at HSV ⊢; have hnl6 := HNl.out.2; clear hcell hg hnl hln2
      by_cases hroot : u = rootsB
      · subst hroot
        have hG2 : ldG lim (ln :: lgo [] (l.drop (k + 1))) L ts = (match rtO ts us with
            | none => (L,[],ts.length + 1,3)
            | some rs => if lgo [] (l.drop (k + 1)) = [] then (L,rs,0,0) else (L,[],ts.length + 2,3)) := by
          rw [ldG_cons,hw]; simp only [if_true]
          rfl
        have HG2 : Hid (G = (match rtO ts us with
            | none => (L,[],nt + 1,3)
            | some rs => if ¬ k + 1 < s.size then (L,rs,0,0) else (L,[],nt + 2,3))) := by
          show _ = _
          rw [<- HGl.out,hG2,HNt.out]; simp only [HR.out]
          try rfl
        rw [show (⟨rootsB.toArray⟩ : ByteArray) = ⟨#[114,111,111,116,115]⟩ from rfl] at c1; clear hw hG2 HGl HR
        by_cases hc1 : cV = 1
        · subst hc1
          obtain rfl : nl = 0 := by omega
          have HT : Hid (∀ c',SV w2 us (.slice (some ⟨g,o,none⟩) 0 c')) := fun c' => ⟨_,c',by rw [HNl.out.1],fun h => absurd h (by rw [HNl.out.1]; simp)⟩
          go_wp2_with fail
          refine (rroots_any us ts _ _ w2 (HT.out _) HIV.out (by have := HNl.out; omega) (by rw [HNt.out]; omega) (fun x hx => HWl.out.1 x (by simp [hx]))).mono ?_; rintro e w3 ⟨hb3,⟨h1,rfl⟩ | ⟨rts,v3,h1,rfl,hrow3⟩⟩
          · have HZ : Hid (PP (.returned (.tuple #[.pointer none,.slice none 0 0,.int .i64 ((nt : Int) + 1),.int .i64 3])) w3) := by
              have := HNo.out w3 L (nt + 1) 3 (HS2.out.over hb3).bel (by decide) (by rw [HG2.out,h1]); exact this
            clear hb3 h1 HG2
            go_wp2_with fail
            first | exact HZ.out | (refine bodyPost_ret (v := _) ?_ rfl HZ.out; simp [results,Tryz.results13,go_sem])
          by_cases hmore : k + 1 < s.size
          · have hmI : (k : Int) + 1 < (s.size : Int) := by omega
            have HZ : Hid (PP (.returned (.tuple #[.pointer none,.slice none 0 0,.int .i64 ((nt : Int) + 2),.int .i64 3])) w3) := by
              have := HNo.out w3 L (nt + 2) 3 (HS2.out.over hb3).bel (by decide) (by rw [HG2.out,h1]; simp only [hmore,not_true_eq_false,if_false]); exact this
            have hq2 : IntKind.i64.wrap ((nt : Int) + 1 + 1) = (nt : Int) + 2 := by rw [IntKind.wrap_i64]; omega
            clear hb3 h1 HG2 hrow3
            go_wp2_with fail
            first | exact HZ.out | (refine bodyPost_ret (v := _) ?_ rfl HZ.out; simp [results,Tryz.results13,go_sem])
          have hmI : ¬ (k : Int) + 1 < (s.size : Int) := by omega
          have HZ : Hid (PP (.returned (.tuple #[.pointer (some ⟨B,0,none⟩),v3,.int .i64 0,.int .i64 0])) w3) := by
            have h3 := HS2.out.over hb3; obtain ⟨v1,M1,M2,hS3,_⟩ := h3.sm; exact HYe.out w3 L rts B v3 h3.bel (by rw [HG2.out,h1]; simp only [hmore,not_false_eq_true,if_true]) (row_base hrow3 HS2.out.bel.size) ⟨v1,M1,M2,hS3⟩
          clear hb3 h1 HG2 hrow3
          go_wp2_with fail
          first | exact HZ.out | (refine bodyPost_ret (v := _) ?_ rfl HZ.out; simp [results,Tryz.results13,go_sem])
        have hc2 : ¬ cV - 1 = 0 := by omega
        go_wp2_with fail
        refine (rroots_any us ts _ _ w2 (HSV.out.tail (by have := HNl.out.1; omega)) HIV.out (by have := HNl.out; omega) (by rw [HNt.out]; omega) (fun x hx => HWl.out.1 x (by simp [hx]))).mono ?_; rintro e w3 ⟨hb3,⟨h1,rfl⟩ | ⟨rts,v3,h1,rfl,hrow3⟩⟩
        · have HZ : Hid (PP (.returned (.tuple #[.pointer none,.slice none 0 0,.int .i64 ((nt : Int) + 1),.int .i64 3])) w3) := by
            have := HNo.out w3 L (nt + 1) 3 (HS2.out.over hb3).bel (by decide) (by rw [HG2.out,h1]); exact this
          clear hb3 h1 HG2
          go_wp2_with fail
          first | exact HZ.out | (refine bodyPost_ret (v := _) ?_ rfl HZ.out; simp [results,Tryz.results13,go_sem])
        by_cases hmore : k + 1 < s.size
        · have hmI : (k : Int) + 1 < (s.size : Int) := by omega
          have HZ : Hid (PP (.returned (.tuple #[.pointer none,.slice none 0 0,.int .i64 ((nt : Int) + 2),.int .i64 3])) w3) := by
            have := HNo.out w3 L (nt + 2) 3 (HS2.out.over hb3).bel (by decide) (by rw [HG2.out,h1]; simp only [hmore,not_true_eq_false,if_false]); exact this
          have hq2 : IntKind.i64.wrap ((nt : Int) + 1 + 1) = (nt : Int) + 2 := by rw [IntKind.wrap_i64]; omega
          clear hb3 h1 HG2 hrow3
          go_wp2_with fail
          first | exact HZ.out | (refine bodyPost_ret (v := _) ?_ rfl HZ.out; simp [results,Tryz.results13,go_sem])
        have hmI : ¬ (k : Int) + 1 < (s.size : Int) := by omega
        have HZ : Hid (PP (.returned (.tuple #[.pointer (some ⟨B,0,none⟩),v3,.int .i64 0,.int .i64 0])) w3) := by
          have h3 := HS2.out.over hb3; obtain ⟨v1,M1,M2,hS3,_⟩ := h3.sm; exact HYe.out w3 L rts B v3 h3.bel (by rw [HG2.out,h1]; simp only [hmore,not_false_eq_true,if_true]) (row_base hrow3 HS2.out.bel.size) ⟨v1,M1,M2,hS3⟩
        clear hb3 h1 HG2 hrow3
        go_wp2_with fail
        first | exact HZ.out | (refine bodyPost_ret (v := _) ?_ rfl HZ.out; simp [results,Tryz.results13,go_sem])
      have q5 : ((⟨u.toArray⟩ : ByteArray).toList == [114,111,111,116,115]) = false := by rw [Lib.toList_data]; simpa [rootsB] using hroot
      have HG2 : Hid (G = (match lnO ts L (u :: us) with
          | none => (L,[],nt + 1,3)
          | some n => if (mk lim L n).2.2 = 0 then ldG lim (lgo [] (l.drop (k + 1))) (mk lim L n).1 (ts ++ [(mk lim L n).2.1]) else ((mk lim L n).1,[],nt + 1,(mk lim L n).2.2))) := by
        show _ = _
        rw [<- HGl.out,ldG_cons,hw,HNt.out]; simp only [if_neg hroot]
        rfl
      obtain ⟨us1,hus1⟩ : ∃ us1,(⟨u.toArray⟩ : ByteArray) = us1 := ⟨_,rfl⟩; rw [hus1] at q5 c1; clear hroot hus1 hw HGl HR
      go_wp2_with fail
      refine (rnode_any (u :: us) ts _ _ w2 HSV.out HIV.out (by have := HNl.out; simp; omega) (by rw [HNt.out]; omega) HWl.out.1).mono ?_; rintro e w3 ⟨hb3,⟨h1,X,rfl⟩ | ⟨n0,h1,rfl⟩⟩
      · obtain ⟨x0,x1,x2,x3,x4,x5,x6⟩ := X
        rw [show nodeV ⟨x0,x1,x2,x3,x4,x5,x6⟩ = .agg #[.int .i64 x0,.int .i64 x1,.int .i64 x2,.int .i64 x3,.int .i64 x4,.int .u64 x5,.string x6] from rfl]; have HZ : Hid (∀ W,Below w3.heap.size w3 W -> PP (.returned (.tuple #[.pointer none,.slice none 0 0,.int .i64 ((nt : Int) + 1),.int .i64 3])) W) := fun W hb => by
          have := HNo.out W L (nt + 1) 3 ((HS2.out.over hb3).over hb).bel (by decide) (by rw [HG2.out,lnO_ndO,h1]; rfl); exact this
        clear hb3 h1 HG2
        go_wp2_with fail
        refine bodyPost_ret (v := _) ?_ rfl (HZ.out _ (bel1 _ _))
        simp [results,Tryz.results13,go_sem]
      have HS3 : Hid (RS7 w.heap.size w w3 B lim L ts u10) := HS2.out.over hb3; have hfacts := ndO_facts (fun t ht => by have h1 := of_decide_eq_true (HSt.out.2 t ht); have h2 := HSt.out.1; have h3 := HNt.out; unfold I64; omega) HWl.out.1 h1; have HL2 : Hid (lnO ts L (u :: us) = some (fin L n0)) := by show _ = _; rw [lnO_ndO,h1]; rfl
      have HF : Hid (n0.ok /\ (15 <= n0.op /\ n0.op <= 30 -> isT L n0.a = true) /\ (n0.op = 14 ∨ n0.op = 30 -> isT L n0.b = true) /\ (¬ (n0.op = 3 ∨ n0.op = 4 ∨ 31 <= n0.op) -> n0.w = 0)) := ⟨hfacts.1,fun h => HSt.out.2 _ (hfacts.2.1 h),fun h => HSt.out.2 _ (hfacts.2.2.1 h),hfacts.2.2.2⟩; rw [HL2.out] at HG2; clear hb3 h1 hfacts HL2 HS2 HIV HSV c1 q5; obtain ⟨y0,y1,y2,y3,y4,y5,y6⟩ := n0; rw [show nodeV ⟨y0,y1,y2,y3,y4,y5,y6⟩ = .agg #[.int .i64 y0,.int .i64 y1,.int .i64 y2,.int .i64 y3,.int .i64 y4,.int .u64 y5,.string y6] from rfl]; obtain ⟨D,hD⟩ : ∃ D,w3.heap.size = D := ⟨_,rfl⟩; obtain ⟨W4,hW4⟩ : ∃ W4,w3.alloc (.cells #[.int .i64 y0,.int .i64 y1,.int .i64 y2,.int .i64 y3,.int .i64 y4,.int .u64 y5,.string y6] 64) = W4 := ⟨_,rfl⟩; have HW4 : Hid (w3.alloc (.cells #[.int .i64 y0,.int .i64 y1,.int .i64 y2,.int .i64 y3,.int .i64 y4,.int .u64 y5,.string y6] 64) = W4 /\ w3.heap.size = D) := ⟨hW4,hD⟩; have hb4 : Below w3.heap.size w3 W4 := by rw [<- hW4]; exact bel1 _ _
      have hd4 : W4.heap[D]? = some (.cells #[.int .i64 y0,.int .i64 y1,.int .i64 y2,.int .i64 y3,.int .i64 y4,.int .u64 y5,.string y6] 64 (0,0)) := by rw [<- hW4,<- hD]; exact heap_alloc_new _ _
      have HS4 : Hid (RS7 w.heap.size w W4 B lim L ts u10 /\ W4.heap[D]? = some (.cells #[.int .i64 y0,.int .i64 y1,.int .i64 y2,.int .i64 y3,.int .i64 y4,.int .u64 y5,.string y6] 64 (0,0)) /\ w.heap.size <= D) := ⟨HS3.out.over hb4,hd4,by rw [<- hD]; exact HS3.out.bel.size⟩; obtain ⟨vS,M1,M2,hSM,hM1⟩ := HS3.out.sm; have HSM : Hid (SM 69 W4 w.heap.size B lim L vS M1 M2 /\ M1 ≠ none /\ ∀ q,Own B vS M1 M2 q -> q < D) := ⟨hSM.below hb4,hM1,fun q hq => by rw [<- hD]; exact hSM.lt hq⟩; have HIm : Hid (Calls Tryz.prog 35 #[.pointer (some ⟨B,0,none⟩),.agg #[.int .i64 y0,.int .i64 y1,.int .i64 y2,.int .i64 y3,.int .i64 y4,.int .u64 y5,.string y6]] W4 fun e w' => e = .returned (.int .i64 (fin L ⟨y0,y1,y2,y3,y4,y5,y6⟩).w) /\ Below W4.heap.size W4 w') := implied_any _ _ _ _ _ _ _ ⟨y0,y1,y2,y3,y4,y5,y6⟩ W4 HSM.out.1 HF.out.2.1 HF.out.2.2.1 HF.out.2.2.2; clear hD hW4 hb4 hd4 hSM hM1 HS3
      go_upto_region 27 with fail
      rw [HW4.out.1,HW4.out.2]; have c0 : W4.cell? ⟨D,0,none⟩ = some (.int .i64 y0) := cell_of HS4.out.2.1 0; have c1 : W4.cell? ⟨D,1,none⟩ = some (.int .i64 y1) := cell_of HS4.out.2.1 1; have c2 : W4.cell? ⟨D,2,none⟩ = some (.int .i64 y2) := cell_of HS4.out.2.1 2; have c3 : W4.cell? ⟨D,3,none⟩ = some (.int .i64 y3) := cell_of HS4.out.2.1 3; have c4 : W4.cell? ⟨D,4,none⟩ = some (.int .i64 y4) := cell_of HS4.out.2.1 4; have c5 : W4.cell? ⟨D,5,none⟩ = some (.int .u64 y5) := cell_of HS4.out.2.1 5; have c6 : W4.cell? ⟨D,6,none⟩ = some (.string y6) := cell_of HS4.out.2.1 6; clear HW4
      go_wp2_with fail
      refine HIm.out.mono ?_; rintro e w5 ⟨rfl,hb5⟩; obtain ⟨z1,hz⟩ : ∃ z1,(fin L ⟨y0,y1,y2,y3,y4,y5,y6⟩).w = z1 := ⟨_,rfl⟩; have HM : Hid (fin L ⟨y0,y1,y2,y3,y4,y5,y6⟩ = ⟨y0,z1,y2,y3,y4,y5,y6⟩) := by show _ = _; rw [fin_eq,hz]
      rw [hz]; rw [HM.out] at HG2; have hd5 : w5.heap[D]? = some (.cells #[.int .i64 y0,.int .i64 y1,.int .i64 y2,.int .i64 y3,.int .i64 y4,.int .u64 y5,.string y6] 64 (0,0)) := (hb5.block D (Array.getElem?_eq_some_iff.1 HS4.out.2.1).1).trans HS4.out.2.1; have cc : w5.cell? ⟨D,1,none⟩ = some (.int .i64 y1) := cell_of hd5 1; have fc := fz_of hd5 1; obtain ⟨W6,hW6⟩ : ∃ W6,w5.setCell ⟨D,1,none⟩ (.int .i64 z1) = W6 := ⟨_,rfl⟩; have hd6 : W6.heap[D]? = some (.cells #[.int .i64 y0,.int .i64 z1,.int .i64 y2,.int .i64 y3,.int .i64 y4,.int .u64 y5,.string y6] 64 (0,0)) := by
        rw [<- hW6,heap_setCell_same _ _ 1 _ _ _ hd5]
        rfl
      have hS6 : RS7 w.heap.size w W6 B lim L ts u10 /\ SM 69 W6 w.heap.size B lim L vS M1 M2 := by
        have h5 := HS4.out.1.over hb5; have hM5 := HSM.out.1.below hb5; have hno : ∀ q,Own B vS M1 M2 q -> q ≠ D := fun q hq => by have := HSM.out.2.2 q hq; omega
        have oth : ∀ j,j ≠ D -> W6.heap[j]? = w5.heap[j]? := fun j hj => by rw [<- hW6]; exact heap_setCell_other _ _ _ _ hj
        have hM6 : SM 69 W6 w.heap.size B lim L vS M1 M2 := hM5.stands (fun q hq => oth q (hno q hq)); refine ⟨⟨⟨?_,?_,?_,?_,fun j hj => ?_⟩,h5.le,⟨vS,M1,M2,hM6,HSM.out.2.1⟩,row_is h5.row (fun j hj => oth j (fun e => row_ne h5.row hd5 (by decide) (by rw [hj,e])))⟩,hM6⟩
        · rw [<- hW6]; exact h5.bel.os
        · rw [<- hW6]; exact h5.bel.tape
        · rw [<- hW6]; exact h5.bel.output
        · rw [<- hW6,World.size_setCell]; exact h5.bel.size
        rw [oth j (by have := HS4.out.2.2; omega)]; exact h5.bel.block j hj
      have hok : Nd.ok ⟨y0,z1,y2,y3,y4,y5,y6⟩ := by rw [<- HM.out]; exact fin_ok HSM.out.1.wds HF.out.1
      have HMk : Hid (Calls Tryz.prog 36 #[.pointer (some ⟨B,0,none⟩),.agg #[.int .i64 y0,.int .i64 z1,.int .i64 y2,.int .i64 y3,.int .i64 y4,.int .u64 y5,.string y6]] W6 (MkP 69 W6 w.heap.size B lim L vS M1 M2 ⟨y0,z1,y2,y3,y4,y5,y6⟩)) := rmake_any w.heap.size B lim L vS M1 M2 ⟨y0,z1,y2,y3,y4,y5,y6⟩ W6 hS6.2 HSM.out.2.1 hS6.1.bel.size (by have := HSt.out.1; have := HNt.out; omega) hok; have HS6 : Hid (RS7 w.heap.size w W6 B lim L ts u10 /\ SM 69 W6 w.heap.size B lim L vS M1 M2 /\ M1 ≠ none) := ⟨hS6.1,hS6.2,HSM.out.2.1⟩; have HW6 : Hid (w5.setCell ⟨D,1,none⟩ (.int .i64 z1) = W6) := hW6; have d0 : W6.cell? ⟨D,0,none⟩ = some (.int .i64 y0) := cell_of hd6 0; have d1 : W6.cell? ⟨D,1,none⟩ = some (.int .i64 z1) := cell_of hd6 1; have d2 : W6.cell? ⟨D,2,none⟩ = some (.int .i64 y2) := cell_of hd6 2; have d3 : W6.cell? ⟨D,3,none⟩ = some (.int .i64 y3) := cell_of hd6 3; have d4 : W6.cell? ⟨D,4,none⟩ = some (.int .i64 y4) := cell_of hd6 4; have d5 : W6.cell? ⟨D,5,none⟩ = some (.int .u64 y5) := cell_of hd6 5; have d6 : W6.cell? ⟨D,6,none⟩ = some (.string y6) := cell_of hd6 6; clear hb5 hz hd5 hd6 hS6 hok hW6 HIm HS4 HSM c0 c1 c2 c3 c4 c5 c6 HF HM
      go_upto_region 28 with fail
      rw [HW6.out]; clear HW6 cc fc
      go_wp2_with fail
      refine HMk.out.mono ?_; rintro e w7 ⟨rfl,hA⟩; obtain ⟨m,hm⟩ : ∃ m : Nd,m = ⟨y0,z1,y2,y3,y4,y5,y6⟩ := ⟨_,rfl⟩; rw [<- hm] at hA HG2 ⊢; have HS7 : Hid (RS7 w.heap.size w w7 B lim (mk lim L m).1 ts u10) := HS6.out.1.make HS6.out.2.1 HS6.out.2.2 hA; obtain ⟨a7,ha7⟩ : ∃ a7,(mk lim L m).2.1 = a7 := ⟨_,rfl⟩; obtain ⟨e7,he7⟩ : ∃ e7,(mk lim L m).2.2 = e7 := ⟨_,rfl⟩; rw [ha7,he7]; clear hA hm HMk HS6 d0 d1 d2 d3 d4 d5 d6
      by_cases h0 : e7 = 0
      · subst h0
        have HG3 : Hid (ldG lim (lgo [] (l.drop (k + 1))) (mk lim L m).1 (ts ++ [a7]) = G) := by
          show _ = _
          rw [HG2.out]; simp only [he7,if_true,ha7]
        have HT7 : Hid ((mk lim L m).1.length <= ts.length + 1 /\ ∀ t ∈ ts ++ [a7],isT (mk lim L m).1 t = true) := by
          refine ⟨by have := mk_len lim L m; have := HSt.out.1; omega,fun t ht => ?_⟩
          rcases List.mem_append.1 ht with e | e
          · exact isT_mono (HSt.out.2 t e) mk_ge
          simp at e
          rw [e,<- ha7]; exact mk_isT he7
        clear ha7 he7 HG2 HSt; have hsz : w.heap.size <= w7.heap.size := HS7.out.bel.size; have hrow : w7.ownsRow w.heap.size 3 1 u10 nt (ts.map (Value.int .i64)) := by have := HS7.out.row; rw [HNt.out] at this; exact this
        have HRow : Hid (w7.ownsRow w.heap.size 3 1 u10 nt (ts.map (Value.int .i64))) := hrow; clear hrow
        go_wp2_with (at_builtin; refine wpList_append_own _ rfl _ _ 22 rfl w.heap.size 3 i0 (.int .i64 0) 1 8 Tryz.underlying22 hi hz0 hz1 hz2 rfl (by decide) _ _ _ rfl (HRow.out.alloc _) ⟨w7.heap.size,0,none⟩ 1 1 [.int .i64 a7] rfl rfl (cell_one_new _ _ _) (by intro u hu; simp at hu; subst hu; rfl) (by unfold maxLen; omega) (by omega) (by simp; omega) ?_; intro v8 w8 hown8 hgrow8 hnil8; have HN8 : Aside ((k + 1 = s.size -> k + 1 = s.size) /\ ∃ L ts,ts.length = nt + 1 /\ LD7 w w8 l lim B L ts v8 (k + 1) (k + 1) G) := ⟨fun e => e,_,ts ++ [a7],by rw [List.length_append,HNt.out]; rfl,HS7.out.push HNt.out hown8 hgrow8,by rw [List.length_append]; exact HT7.out.1,HT7.out.2,by rw [take_drop_self]; exact HG3.out⟩; clear hown8 hgrow8 hnil8)
        go_roundg (gk - 1)
        case measure => omega
        case rel => exact ⟨k + 1,k + 1,nt + 1,by simp,by simp,by simp,by omega,Nat.le_refl _,by omega,HN8⟩
      have q7 : (e7 != 0) = true := by simp [h0]
      have HZ : Hid (PP (.returned (.tuple #[.pointer none,.slice none 0 0,.int .i64 ((nt : Int) + 1),.int .i64 e7])) w7) := by
        have := HNo.out w7 (mk lim L m).1 (nt + 1) e7 HS7.out.bel h0 (by rw [HG2.out]; simp only [he7,if_neg h0]); exact this
      clear ha7 he7 HG2 HS7
      go_wp2_with fail
      first | exact HZ.out | (refine bodyPost_ret (v := _) ?_ rfl HZ.out; simp [results,Tryz.results13,go_sem])
end Go.Proofs.YtldpkkbdhohcmaaGreatDoor
