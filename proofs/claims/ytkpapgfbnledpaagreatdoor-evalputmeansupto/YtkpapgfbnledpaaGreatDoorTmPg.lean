import Derived.Test.YtkpapgfbnledpaaGreatDoorTmPn
import Derived.Test.YtkpapgfbnledpaaGreatDoorTmU
import Derived.Test.YtkpapgfbnledpaaGreatDoorTmE3
import Derived.Test.YtkpapgfbnledpaaGreatDoorTmT
set_option maxHeartbeats 8000000
set_option maxRecDepth 100000
namespace Go.Proofs.YtkpapgfbnledpaaGreatDoor
open Go.ChangeShapes Go.WideShapes Go.ChangeAt Go.RowKit Go.Lib Go.Tm Go.Bw Go.Bn Go.WideMaps Go.Maps Go.ChangeMaps

theorem made_list (n : Nat) : (madeCells #[Value.int .u64 0] n).toList = wrdV (List.replicate n 0) := by
  unfold madeCells wrdV; refine List.ext_getElem (by simp) fun i h1 h2 => ?_
  have hi : i < n := by simpa using h1
  simp [Nat.mod_one]
theorem GO.start (w : World) (B : Nat) (L : List Nd) (m n : Nat) (hn : n <= 1000000000000) : GO w.heap.size w (w.heap.size + 1) B (.slice (some ⟨w.heap.size,0,none⟩) n n) L m n (List.replicate n 0) [] [] (.slice none 0 0) (.slice none 0 0) ((w.alloc (.cells (madeCells #[.int .u64 0] n) 36)).alloc (.cells #[.pointer (some ⟨B,0,none⟩),.slice (some ⟨w.heap.size,0,none⟩) n n,.slice none 0 0,.slice none 0 0] 163)) := by
  have hsz : (madeCells #[Value.int .u64 0] n).size = n := size_madeCells _ _; refine ⟨⟨?_,by omega,?_,World.ownsRow_nil _ _ _ _,World.ownsRow_nil _ _ _ _,fun k hk => (by cases hk)⟩,⟨fun u hu => ?_,fun t ht => ?_⟩,PW.nil L,by simp,fun x hx => (by cases hx),bel2 _ _ _⟩
  · have := heap_alloc_new (w.alloc (.cells (madeCells #[.int .u64 0] n) 36)) (Obj.cells #[.pointer (some ⟨B,0,none⟩),.slice (some ⟨w.heap.size,0,none⟩) n n,.slice none 0 0,.slice none 0 0] 163)
    simpa using this
  · refine ⟨by unfold wrdV; simp,Or.inr ⟨w.heap.size,n,madeCells #[.int .u64 0] n,by simp,Nat.le_refl _,?_,by simp,by unfold maxLen; omega,by omega,?_⟩⟩
    · rw [Below.heap_alloc _ _ _ (by simp)]
      exact heap_alloc_new w _
    rw [List.take_of_length_le (by simp [hsz])]; exact made_list n
  · have := List.eq_of_mem_replicate hu
    omega
  rw [List.length_replicate] at ht; rw [getD_of _ _ _ (by simpa using ht)]
  simp
def toN (xs : List Int) : List Nat := xs.map Int.toNat
def OrdP (w : World) (L : List Nd) (xs : List Int) (e : Ending) (w' : World) : Prop :=
  ∃ v,e = .returned (.tuple #[v,.int .i64 0]) /\ Below w.heap.size w w' /\ w'.ownsRow w.heap.size 3 1 v (og L [] (toN xs)).length (natV (og L [] (toN xs)))
theorem order_ok (B0 B : Nat) (lim : Int) (L : List Nd) (v : Value) (M1 M2 : Option Nat) {ad : Option Addr} {cp : Nat} {xs : List Int} (w : World) (hS : SM 78 w B0 B lim L v M1 M2) (hP : PAR L) (h : IR w ad xs) (hl : xs.length < 1000000000000000) (hr : ∀ x ∈ xs,isT L x = true) :
    Calls Tryz.prog 44 #[.pointer (some ⟨B,0,none⟩),.slice ad xs.length cp] w (OrdP w L xs) := by
  generalize hPP : OrdP w L xs = PP
  have HPP : Hid (∀ v w',Below w.heap.size w w' -> w'.ownsRow w.heap.size 3 1 v (og L [] (toN xs)).length (natV (og L [] (toN xs))) -> PP (.returned (.tuple #[v,.int .i64 0])) w') := fun v w' h1 h2 => by rw [<- hPP]; exact ⟨v,rfl,h1,h2⟩
  clear hPP; obtain ⟨k,hk⟩ : ∃ k,xs.length = k := ⟨_,rfl⟩; have HK : Hid (xs.length = k) := hk; have HI : Hid (IR w ad xs) := h; have HS : Hid (STD w.heap.size w B L) := ⟨B0,lim,v,M1,M2,rfl,hS⟩; have HR : Hid (∀ j,j < k -> isT L (xs.getD j 0) = true) := fun j hj => hr _ (by rw [getD_of _ _ _ (by omega)]; exact List.getElem_mem _)
  have HH : Hid (∀ W t,W = w -> Calls Tryz.prog 29 #[.pointer (some ⟨B,0,none⟩),.int .i64 t] W fun e w' => e = .returned (.bool (isT L t)) /\ w' = W) := fun W t hW => by
    subst hW; exact has_any 78 B0 B lim L v M1 M2 t _ hS
  have HLB : Hid (L.length <= 1000000000000) := hS.len; rw [hk] at hl ⊢; clear hk h hr
  go_enter Tryz.func44,Tryz.ntmps44
  go_wp2_with fail
  go_loopg [13] k (fun gk s13 wr => ∃ i : Nat,s13 = .int .i64 (i : Int) /\ i + gk = k /\ Aside (wr = w))
  case atStart => exact ⟨0,rfl,by omega,rfl⟩
  case round =>
    obtain ⟨i,rfl,hi,HJ⟩ := hrel
    by_cases hlt : i < k
    · obtain ⟨b,o,rfl,hbl,hc⟩ := HI.out (by rw [HK.out]; omega)
      have c1 : wr.cell? ⟨b,o + i,none⟩ = some (.int .i64 (xs.getD i 0)) := by rw [HJ.out]; exact hc i (by rw [HK.out]; exact hlt)
      have hT := HR.out i hlt
      generalize xs.getD i 0 = x at *
      have HH1 : Hid (Calls Tryz.prog 29 #[.pointer (some ⟨B,0,none⟩),.int .i64 x] wr fun e w' => e = .returned (.bool true) /\ w' = wr) := by
        have h7 := HH.out wr x HJ.out; rw [hT] at h7; exact h7
      have q1 : (i : Int) < (k : Int) := by omega
      clear hc
      go_wp2_with (go_at_call 29; refine HH1.out.mono ?_; rintro e w' ⟨rfl,hw⟩; obtain rfl := hw.symm)
      go_roundg (gk - 1)
      case measure => omega
      case rel => exact ⟨i + 1,by simp,by omega,HJ⟩
    obtain rfl : i = k := by omega
    obtain ⟨W0,rfl⟩ : ∃ W,wr = W := ⟨_,rfl⟩; have hw : wr = w := HJ.out; subst hw; clear HJ HH
    by_cases hk0 : i = 0
    · subst hk0
      have HE : Hid (PP (.returned (.tuple #[.slice none 0 0,.int .i64 0])) wr) := by
        have e : xs = [] := List.eq_nil_of_length_eq_zero HK.out; subst e; exact HPP.out _ wr (Below.refl _ _) (World.ownsRow_nil _ _ _ _)
      go_wp2_with fail
      first | exact HE.out | (go_ret2; exact HE.out)
    obtain ⟨W0,hW0⟩ : ∃ W0,W0 = wr := ⟨_,rfl⟩; subst hW0; have q2 : ((i : Int) == 0) = false := beq_eq_false_iff_ne.2 (by omega); have HMx : Hid (∀ W,Below W0.heap.size W0 W -> Calls Tryz.prog 74 #[.slice ad i cp] W fun e w' => ∃ M,e = .returned (.int .i64 M) /\ w' = W /\ (∀ j,j < i -> xs.getD j 0 <= M) /\ ∃ j,j < i /\ xs.getD j 0 = M) := fun W hb => by
      have h7 := max_any (cp := cp) W (HI.out.below hb) (by rw [HK.out]; omega) (by rw [HK.out]; exact hl); rw [HK.out] at h7; exact h7
    go_wp2_with fail
    refine (HMx.out _ (Below.refl _ _)).mono ?_; rintro e w1 ⟨M,rfl,hw1,hM1,hM2⟩; obtain rfl := hw1.symm; have HMM : Hid (∀ j,j < i -> xs.getD j 0 <= M) := hM1; have hMb : 1 <= M /\ M <= (L.length : Int) := by
      obtain ⟨j,h1,h2⟩ := hM2; have h7 := HR.out j h1; rw [h2] at h7; exact of_decide_eq_true h7
    clear hM1 hM2 HMx; obtain ⟨m,rfl⟩ : ∃ m : Nat,M = (m : Int) := ⟨M.toNat,by omega⟩; have hLb := HLB.out; obtain ⟨n,hn⟩ : ∃ n,m / 64 + 1 = n := ⟨_,rfl⟩; have hn1 : (m : Int) / 64 + 1 = (n : Int) := by omega
    have hnb : n <= 1000000000000 := by omega
    obtain ⟨i1,hi1,hz1,hs1,hb1⟩ := info_parts (P := Tryz.prog) (e := 36) (z := .int .u64 0) (size := 1) (bytes := 8) (by kernel_rfl); have e1 : ∀ W : World,(Instr.makeSlice 22 (.int .i64 (n : Int)) (.int .i64 (n : Int))).run Tryz.prog W = .ok (.slice (some ⟨W.heap.size,0,none⟩) n n) (W.alloc (.cells (madeCells (Value.int .u64 0).cells (n * 1)) 36)) := fun W => by
      have := run_make (P := Tryz.prog) (w := W) 22 36 i1 (.int .u64 0) Tryz.underlying22 hi1 hz1 .i64 .i64 (n : Int) (n : Int) (by omega) (by omega) (by rw [hb1]; omega) (by omega); rw [this,hs1,show ((n : Int)).toNat = n by omega]
    have HG0 : Hid (GO W0.heap.size W0 (W0.heap.size + 1) B (.slice (some ⟨W0.heap.size,0,none⟩) n n) L m n (List.replicate n 0) [] [] (.slice none 0 0) (.slice none 0 0) ((W0.alloc (.cells (madeCells #[.int .u64 0] n) 36)).alloc (.cells #[.pointer (some ⟨B,0,none⟩),.slice (some ⟨W0.heap.size,0,none⟩) n n,.slice none 0 0,.slice none 0 0] 163))) := GO.start W0 B L m n hnb; obtain ⟨Q,hQ⟩ : ∃ Q,W0.heap.size + 1 = Q := ⟨_,rfl⟩
    go_wp2_with fail
    rw [hQ] at HG0; obtain ⟨vT,hvT⟩ : ∃ vT,Hid (Value.slice (some ⟨W0.heap.size,0,none⟩) n n = vT) := ⟨_,rfl⟩; have HFr : Hid (∀ W us o vO vP r,GO W0.heap.size W0 Q B vT L m n us o [] vO vP W -> 1 <= r -> r <= m -> Calls Tryz.prog 75 #[.pointer (some ⟨Q,0,none⟩),.int .i64 ((r : Nat) : Int)] W fun e w' => e = .returned (.tuple #[]) /\ ∃ us' vO' vP',GO W0.heap.size W0 Q B vT L m n us' (og1 L o r) [] vO' vP' w') := fun W us o vO vP r hG h1 h2 =>
      from_any W0.heap.size W0 Q B vT L m n us o vO vP r W HS.out hP hLb (by omega) (by omega) hG h1 h2
    go_loopg [34] i (fun gk s34 wq => ∃ j : Nat,s34 = .int .i64 (j : Int) /\ j + gk = i /\ ∃ us vO vP,Aside (GO W0.heap.size W0 Q B vT L m n us (og L [] (toN (xs.take j))) [] vO vP wq))
    case atStart => exact ⟨0,rfl,by omega,_,_,_,by have h7 := hvT.out; rw [<- h7]; exact HG0.out⟩
    case round =>
      obtain ⟨j,rfl,hj,us,vO,vP,HJ⟩ := hrel
      by_cases hlt : j < i
      · obtain ⟨b,o,rfl,hbl,hc⟩ := HI.out (by rw [HK.out]; omega)
        have c1 : wr.cell? ⟨b,o + j,none⟩ = some (.int .i64 (xs.getD j 0)) := (World.cell?_of_block (w' := wr) (w := W0) (a := ⟨b,o + j,none⟩) (HJ.out.bel.block b hbl)).trans (hc j (by rw [HK.out]; exact hlt)); have hT : 1 <= xs.getD j 0 /\ xs.getD j 0 <= (L.length : Int) := of_decide_eq_true (HR.out j hlt); have hT2 := HMM.out j hlt; have htk : toN (xs.take (j + 1)) = toN (xs.take j) ++ [(xs.getD j 0).toNat] := by
          unfold toN; rw [List.take_add_one,List.getElem?_eq_getElem (by rw [HK.out]; exact hlt),getD_of _ _ _ (by rw [HK.out]; exact hlt)]; simp only [List.map_append,Option.toList_some,List.map_cons,List.map_nil]
        have HTk : Hid (og L [] (toN (xs.take (j + 1))) = og1 L (og L [] (toN (xs.take j))) (xs.getD j 0).toNat) := by show _ = _; rw [htk,og_snoc]
        generalize xs.getD j 0 = x at *
        obtain ⟨r,rfl⟩ : ∃ r : Nat,x = (r : Int) := ⟨x.toNat,by omega⟩; have HF1 : Hid (Calls Tryz.prog 75 #[.pointer (some ⟨Q,0,none⟩),.int .i64 ((r : Nat) : Int)] wr fun e w' => e = .returned (.tuple #[]) /\ ∃ us' vO' vP',GO W0.heap.size W0 Q B vT L m n us' (og L [] (toN (xs.take (j + 1)))) [] vO' vP' w') := by
          have h7 := HFr.out wr us _ vO vP r HJ.out (by omega) (by omega); have h8 := HTk.out; rw [Int.toNat_natCast] at h8; rw [<- h8] at h7; exact h7
        have q1 : (j : Int) < (i : Int) := by omega
        clear hc htk HTk
        go_wp2_with fail
        refine HF1.out.mono ?_; rintro e w5 ⟨rfl,us5,vO5,vP5,hG5⟩; have HG5 : Aside (GO W0.heap.size W0 Q B vT L m n us5 (og L [] (toN (xs.take (j + 1)))) [] vO5 vP5 w5) := hG5; clear hG5 HF1
        go_wp2_with fail
        go_roundg (gk - 1)
        case measure => omega
        case rel => exact ⟨j + 1,by simp,by omega,us5,vO5,vP5,HG5⟩
      obtain rfl : j = i := by omega
      have k2 : wr.cell? ⟨Q,2,none⟩ = some vO := (HJ.out.wk.cell 2).1; have HE : Hid (PP (.returned (.tuple #[vO,.int .i64 0])) wr) := by
        have h7 := HJ.out; rw [List.take_of_length_le (by rw [HK.out]; exact Nat.le_refl _)] at h7; exact HPP.out vO wr h7.bel h7.wk.ol
      go_wp2_with fail
      first | exact HE.out | (go_ret2; exact HE.out)
end Go.Proofs.YtkpapgfbnledpaaGreatDoor
namespace Go.Proofs.YtkpapgfbnledpaaGreatDoor
open Go.ChangeShapes Go.WideShapes Go.ChangeAt Go.RowKit Go.Lib Go.Tm Go.Bw Go.Bn Go.WideMaps Go.Maps Go.ChangeMaps

def bolV (l : List Bool) : List Value := l.map Value.bool
theorem tyBI : (4 : TypeId) ≠ 3 := by decide
structure RM (H0 : Nat) (w0 : World) (bs : List Bool) (o p : List Nat) (vT vO vP : Value) (w : World) : Prop where
  tl : w.ownsRow H0 4 1 vT bs.length (bolV bs)
  ol : w.ownsRow H0 3 1 vO o.length (natV o)
  pl : w.ownsRow H0 3 1 vP p.length (natV p.reverse)
  ne : ∀ k,vO.ownBlock = some k -> vP.ownBlock ≠ some k
  bel : Below H0 w0 w
  sz : H0 <= w.heap.size
def RB (L : List Nd) (o : List Nat) (bs : List Bool) : Prop := bs.length = L.length + 1 /\ ∀ t,t <= L.length -> bs.getD t false = o.contains t
theorem RM.drewN {H0 : Nat} {w0 : World} {bs : List Bool} {o p : List Nat} {vT vO vP : Value} {w : World} {k : Nat} (h : RM H0 w0 bs o p vT vO vP w) : RM H0 w0 bs o p vT vO vP (w.drewN k) := ⟨h.tl,h.ol,h.pl,h.ne,drw h.bel _,h.sz⟩
theorem RM.alloc {H0 : Nat} {w0 : World} {bs : List Bool} {o p : List Nat} {vT vO vP : Value} {w : World} (h : RM H0 w0 bs o p vT vO vP w) (ob : Obj) : RM H0 w0 bs o p vT vO vP (w.alloc ob) := ⟨h.tl.alloc _,h.ol.alloc _,h.pl.alloc _,h.ne,h.bel.alloc h.sz ob,by have := h.sz; simp; omega⟩
theorem RM.push {H0 : Nat} {w0 : World} {bs : List Bool} {o p : List Nat} {vT vO vP : Value} {w w4 : World} {x g4 cap4 : Nat} {ob : Obj} (h0 : RM H0 w0 bs o p vT vO vP w) (hown : w4.ownsRow H0 3 1 (.slice (some ⟨g4,0,none⟩) (p.length + 1) cap4) (p.length + 1) (natV p.reverse ++ [.int .i64 (x : Int)])) (hg : (w.alloc ob).grownBy w4 vP.ownBlock) (hat : vP.ownBlock = some g4 ∨ g4 = w.heap.size + 1) :
    RM H0 w0 bs o (x :: p) vT vO (.slice (some ⟨g4,0,none⟩) (p.length + 1) cap4) w4 := by
  have h := h0.alloc ob; refine ⟨h.tl.kept hg (ob_ne h.tl h.pl tyBI),h.ol.kept hg ?_,by rw [List.reverse_cons,natV_snoc]; exact hown,fun k hk e => ?_,below_grown h.bel h.sz h.pl hg,Nat.le_trans h.sz hg.size⟩
  · cases hv : vO.ownBlock with
    | none => exact Or.inl rfl
    | some k => exact Or.inr (fun e => h.ne k hv e.symm)
  cases e
  rcases hat with e | e
  · exact h.ne g4 hk e
  have := (h0.ol.lt g4 hk).2
  omega
theorem RM.pop {H0 : Nat} {w0 : World} {bs : List Bool} {o p : List Nat} {vT vO : Value} {w : World} {t gp cp : Nat} (h : RM H0 w0 bs o (t :: p) vT vO (.slice (some ⟨gp,0,none⟩) (p.length + 1) cp) w) : RM H0 w0 bs o p vT vO (.slice (some ⟨gp,0,none⟩) p.length cp) w := by
  have hpl := h.pl; rw [List.reverse_cons,natV_snoc] at hpl; exact ⟨h.tl,h.ol,ownsRow_pop (by unfold natV; simp) hpl,h.ne,h.bel,h.sz⟩
theorem RM.mark {H0 : Nat} {w0 : World} {bs : List Bool} {o p : List Nat} {vO vP : Value} {w : World} {g n cap : Nat} (h : RM H0 w0 bs o p (.slice (some ⟨g,0,none⟩) n cap) vO vP w) (hn : n = bs.length) (j : Nat) : RM H0 w0 (bs.set j true) o p (.slice (some ⟨g,0,none⟩) n cap) vO vP (w.setCell ⟨g,j,none⟩ (.bool true)) := by
  subst hn; have hgb : ∃ cur,w.heap[g]? = some (.cells cur 4 (0,0)) := by
    rcases h.tl.2 with ⟨e,_⟩ | ⟨g',cap,cur,e,_,hg',_⟩
    · cases e
    cases e; exact ⟨cur,hg'⟩
  obtain ⟨cur,hcur⟩ := hgb; refine ⟨?_,ownsRow_setCell_other h.ol (row_ne_blk h.ol hcur (Ne.symm tyBI)) _,ownsRow_setCell_other h.pl (row_ne_blk h.pl hcur (Ne.symm tyBI)) _,h.ne,below_set h.bel (h.tl.lt g rfl).1 _,by simpa using h.sz⟩; have := (h.tl.stored j (.bool true)).1; rw [List.length_set]; unfold bolV at this ⊢; rw [List.map_set]; exact this
theorem RM.tell {H0 : Nat} {w0 : World} {bs : List Bool} {o p : List Nat} {vT vO vP : Value} {w w4 : World} {x g4 cap4 : Nat} {ob : Obj} (h0 : RM H0 w0 bs o p vT vO vP w) (hown : w4.ownsRow H0 3 1 (.slice (some ⟨g4,0,none⟩) (o.length + 1) cap4) (o.length + 1) (natV o ++ [.int .i64 (x : Int)])) (hg : (w.alloc ob).grownBy w4 vO.ownBlock) (hat : vO.ownBlock = some g4 ∨ g4 = w.heap.size + 1) :
    RM H0 w0 bs (o ++ [x]) p vT (.slice (some ⟨g4,0,none⟩) (o.length + 1) cap4) vP w4 := by
  have h := h0.alloc ob; refine ⟨h.tl.kept hg (ob_ne h.tl h.ol tyBI),by rw [natV_snoc,List.length_append]; exact hown,h.pl.kept hg ?_,fun k hk e => ?_,below_grown h.bel h.sz h.ol hg,Nat.le_trans h.sz hg.size⟩
  · cases hv : vP.ownBlock with
    | none => exact Or.inl rfl
    | some k => exact Or.inr (fun e => h.ne k e.symm hv)
  cases hk
  rcases hat with e2 | e2
  · exact h.ne g4 e2 e
  have := (h0.pl.lt g4 e).2
  omega
theorem RB.mark {L : List Nd} {o : List Nat} {bs : List Bool} (h : RB L o bs) {t : Nat} (ht : t <= L.length) : RB L (o ++ [t]) (bs.set t true) := by
  refine ⟨by rw [List.length_set]; exact h.1,fun x hx => ?_⟩
  by_cases e : x = t
  · subst e
    rw [getD_of _ _ _ (by rw [List.length_set,h.1]; omega),List.getElem_set_self]
    simp
  rw [List.getD_eq_getElem?_getD,List.getElem?_set_ne (fun e2 => e e2.symm),<- List.getD_eq_getElem?_getD,h.2 x hx]
  simp [e]
def STT (L : List Nd) (R : List Nat) (gk : Nat) (o p : List Nat) : Prop :=
  (PW L o p /\ gk = mu L o p /\ fin L gk o p = R) ∨ ∃ r,p = [r] /\ r ∈ o /\ o = R /\ PW L o [] /\ gk = mu L o [] + 1 /\ r <= L.length /\ 1 <= r
theorem STT.start {L : List Nd} {o : List Nat} {r : Nat} (h : PW L o []) (h1 : 1 <= r) (h2 : r <= L.length) : ∃ gk,STT L (og1 L o r) gk o [r] := by
  by_cases hc : o.contains r = true
  · exact ⟨_,Or.inr ⟨r,rfl,by simpa using hc,by unfold og1; rw [if_pos hc],h,rfl,h2,h1⟩⟩
  exact ⟨_,Or.inl ⟨h.root h1 h2 (by simpa using hc),rfl,by unfold og1; rw [if_neg hc]⟩⟩
theorem STT.done {L : List Nd} {R o : List Nat} {gk : Nat} (h : STT L R gk o []) : o = R := by
  rcases h with ⟨_,_,h⟩ | ⟨r,h,_⟩
  · rw [fin_nil] at h; exact h
  cases h
theorem STT.round {L : List Nd} {R o p : List Nat} {gk t : Nat} (hP : PAR L) (h : STT L R gk o (t :: p)) : (1 <= t /\ t <= L.length) /\ o.length + p.length + 1 <= L.length + 1 /\
    ((o.contains t = false /\ unt L o t ≠ 0 /\ unt L o t <= L.length /\ ∃ g,g < gk /\ STT L R g o (unt L o t :: t :: p)) ∨ (o.contains t = false /\ unt L o t = 0 /\ ∃ g,g < gk /\ STT L R g (o ++ [t]) p) ∨ (o.contains t = true /\ unt L o t = 0 /\ ∃ g,g < gk /\ STT L R g o p)) := by
  rcases h with ⟨h,hg,hf⟩ | ⟨r,e,h1,h2,h3,h4,h5,h6⟩
  · have hb := h.pb t (by simp)
    have hc : o.contains t = false := by have := h.di t (by simp); simpa using this
    have hl := h.len; rw [List.length_cons] at hl; refine ⟨hb,by omega,?_⟩
    by_cases hu : unt L o t = 0
    · refine Or.inr (Or.inl ⟨hc,hu,_,?_,Or.inl ⟨h.tell hu,rfl,?_⟩⟩)
      · have := mu_tell h; omega
      rw [<- fin_tell h hu,<- hg]; exact hf
    refine Or.inl ⟨hc,hu,?_,_,?_,Or.inl ⟨h.push hP hu,rfl,?_⟩⟩
    · have := hP.lt hb.1 hb.2 (unt_isP hu).1; omega
    · have := mu_push (x := unt L o t) h; omega
    rw [<- fin_push h hu,<- hg]; exact hf
  cases e; have hl := h3.len
  simp at hl
  exact ⟨⟨h6,h5⟩,by simp; omega,Or.inr (Or.inr ⟨by simpa using h1,h3.told h1,mu L o [],by omega,Or.inl ⟨h3,rfl,by rw [fin_nil]; exact h2⟩⟩)⟩
theorem made_bool (n : Nat) : (madeCells #[Value.bool false] n).toList = bolV (List.replicate n false) := by
  unfold madeCells bolV; refine List.ext_getElem (by simp) fun i h1 h2 => ?_
  simp [Nat.mod_one]
theorem RM.start (w : World) (n : Nat) (hn : n <= 1000000000001) : RM w.heap.size w (List.replicate n false) [] [] (.slice (some ⟨w.heap.size,0,none⟩) n n) (.slice none 0 0) (.slice none 0 0) (w.alloc (.cells (madeCells #[.bool false] n) 4)) := by
  have hsz : (madeCells #[Value.bool false] n).size = n := size_madeCells _ _; refine ⟨⟨by unfold bolV; simp,Or.inr ⟨w.heap.size,n,madeCells #[.bool false] n,by simp,Nat.le_refl _,heap_alloc_new w _,by simp,by unfold maxLen; omega,by omega,?_⟩⟩,World.ownsRow_nil _ _ _ _,World.ownsRow_nil _ _ _ _,fun k hk => (by cases hk),bel1 _ _,by simp⟩; rw [List.take_of_length_le (by simp [hsz])]; exact made_bool n
theorem RB.start (L : List Nd) : RB L [] (List.replicate (L.length + 1) false) := ⟨by simp,fun t ht => by rw [getD_of _ _ _ (by simp; omega)]; simp⟩
end Go.Proofs.YtkpapgfbnledpaaGreatDoor
