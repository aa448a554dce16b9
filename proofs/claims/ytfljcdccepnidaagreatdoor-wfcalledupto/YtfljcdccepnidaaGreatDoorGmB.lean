import Derived.Test.YtfljcdccepnidaaGreatDoorGmJ
import Derived.Test.YtfljcdccepnidaaGreatDoorFmL
import Derived.Test.YtfljcdccepnidaaGreatDoorFmK
namespace Go.Proofs.YtfljcdccepnidaaGreatDoor.Lf
open Go.ChangeShapes Go.WideShapes Go.ChangeAt Go.RowKit Go.Bn
attribute [local go_sem] Oper.semAt_some

def fN (k : Int) : Bool := decide (k ≠ 3)
def fA (k : Int) : Bool := decide (k = 2)
def fE (k : Int) : Bool := decide (k <= 3)
def fB (k : Int) : Bool := decide (k = 4)
def fT (k : Int) : Bool := decide (k = 3 ∨ k = 4)
def fO (k : Int) : Bool := decide (k = 3)
def TBF (GB : Nat) (W : World) : Prop := ∀ kn : Nat,1 <= kn -> kn <= 5 -> W.cell? ⟨GB,kn * 6,none⟩ = some (.bool (fN kn)) /\ W.cell? ⟨GB,kn * 6 + 1,none⟩ = some (.bool (fA kn)) /\ W.cell? ⟨GB,kn * 6 + 2,none⟩ = some (.bool (fE kn)) /\ W.cell? ⟨GB,kn * 6 + 3,none⟩ = some (.bool (fB kn)) /\ W.cell? ⟨GB,kn * 6 + 4,none⟩ = some (.bool (fT kn)) /\ W.cell? ⟨GB,kn * 6 + 5,none⟩ = some (.bool (fO kn))
theorem slenS (a : Option Addr) (n c : Nat) : slen (.slice a n c) = n := rfl
theorem formStmt_any (w0 W : World) (N : Nat) (b o : Nat) (k : Int) (s : ByteArray) (ka xa : Int) (sa : ByteArray) (aA : Option Addr) (nA cA : Nat) (ke xe : Int) (se : ByteArray) (aE : Option Addr) (nE cE : Nat) (lo hi : Int) (a1 : Option Addr) (n1 c1 : Nat) (a2 : Option Addr) (n2 c2 : Nat)
    (hc : W.cell? ⟨b,o + 1,none⟩ = some (.string s) /\ W.cell? ⟨b,o + 2,none⟩ = some (.int .i64 ka) /\ W.cell? ⟨b,o + 3,none⟩ = some (.int .u64 xa) /\ W.cell? ⟨b,o + 4,none⟩ = some (.string sa) /\ W.cell? ⟨b,o + 5,none⟩ = some (.slice aA nA cA) /\ W.cell? ⟨b,o + 6,none⟩ = some (.int .i64 ke) /\ W.cell? ⟨b,o + 7,none⟩ = some (.int .u64 xe) /\ W.cell? ⟨b,o + 8,none⟩ = some (.string se) /\ W.cell? ⟨b,o + 9,none⟩ = some (.slice aE nE cE) /\ W.cell? ⟨b,o + 10,none⟩ = some (.int .u64 lo) /\ W.cell? ⟨b,o + 11,none⟩ = some (.int .u64 hi) /\ W.cell? ⟨b,o + 12,none⟩ = some (.slice a1 n1 c1) /\ W.cell? ⟨b,o + 13,none⟩ = some (.slice a2 n2 c2)) (hb : b < W.heap.size) (hk : 1 <= k /\ k <= 5) (hs : s.size <= maxLen)
    (hA : EX w0 (N + 1) [.int .i64 ka,.int .u64 xa,.string sa,.slice aA nA cA]) (hE : EX w0 (N + 1) [.int .i64 ke,.int .u64 xe,.string se,.slice aE nE cE]) (hA2 : CS w0 N (.slice aA nA cA) <= 40000000) (hE2 : CS w0 N (.slice aE nE cE) <= 40000000) (hW : Below w0.heap.size w0 W) (hT : TBL 1 W) (hGB : 1 < W.heap.size) :
    Calls Tryz.prog 94 #[.pointer (some ⟨b,o,none⟩),.agg #[.bool (fN k),.bool (fA k),.bool (fE k),.bool (fB k),.bool (fT k),.bool (fO k)]] W (BP (okS w0 N k s ka xa sa (.slice aA nA cA) ke xe se (.slice aE nE cE) lo hi (.slice a1 n1 c1) (.slice a2 n2 c2)) W) := by
  have hTk : ∀ X,Below W.heap.size W X -> TBL 1 X := fun X hX kn q1 q2 => (hX.cell (p := ⟨1,kn * 3 + 1,none⟩) hGB).trans (hT kn q1 q2)
  have hx : ∀ (kk x : Int) (ss : ByteArray) (a : Option Addr) (n c : Nat) (f : Bool),EX w0 (N + 1) [.int .i64 kk,.int .u64 x,.string ss,.slice a n c] -> CS w0 N (.slice a n c) <= 40000000 -> ∀ X,Below W.heap.size W X -> Calls Tryz.prog 102 #[.agg #[.int .i64 kk,.int .u64 x,.string ss,.slice a n c],.bool f] X (BP (if f = true then FE w0 (N + 1) [.int .i64 kk,.int .u64 x,.string ss,.slice a n c] else NE kk x ss (.slice a n c)) X) := by
    intro kk x ss a n c f h1 h2 X hX; cases f with
    | true =>
      rw [if_pos rfl]; exact formPart_yes _ _ _ _ _ _ _ X (fun X' hX' => formExpr_any w0 N kk x ss a n c X' h1 (bnext hW (bnext hX hX')) h2 (hTk X' (bnext hX hX')) (Nat.lt_of_lt_of_le hGB (bnext hX hX').size))
    | false =>
      rw [if_neg (by decide)]; exact formPart_no _ _ _ _ _ _ X
  have hn : ∀ X,Below W.heap.size W X -> Calls Tryz.prog 101 #[.string s,.bool (fN k)] X (BP (if fN k = true then nameB s = true else s.size = 0) X) := by
    intro X hX; cases fN k with
    | true =>
      rw [if_pos rfl]; refine (formName_yes s X hs).mono ?_; rintro e w' ⟨rfl,hb⟩; exact ⟨_,rfl,Iff.rfl,hb⟩
    | false =>
      rw [if_neg (by decide)]; refine (formName_no s X).mono ?_; rintro e w' ⟨rfl,rfl⟩; exact ⟨_,rfl,by simp,Below.refl _ _⟩
  refine (formStmt_core W b o s ka xa sa aA nA cA ke xe se aE nE cE lo hi a1 n1 c1 a2 n2 c2 (fN k) (fA k) (fE k) (fB k) (fT k) (fO k) _ _ _ hc hb hn (hx _ _ _ _ _ _ _ hA hA2) (hx _ _ _ _ _ _ _ hE hE2)).mono ?_; rintro e w' ⟨bb,rfl,hi,hbl⟩; refine ⟨bb,rfl,hi.trans ?_,hbl⟩; unfold okS fN fA fE fB fT fO; simp only [decide_eq_true_eq,slenS,ne_eq,ite_not]
  constructor
  · rintro ⟨p1,p2,p3,p4,p5,p6⟩
    exact ⟨hk,p1,p2,p3,p4,p6,by rcases p5 with (h | h) | h; exact Or.inl h; exact Or.inr (Or.inl h); exact Or.inr (Or.inr h)⟩
  rintro ⟨_,p1,p2,p3,p4,p6,p5⟩; exact ⟨p1,p2,p3,p4,by rcases p5 with h | h | h; exact Or.inl (Or.inl h); exact Or.inl (Or.inr h); exact Or.inr h,p6⟩
end Go.Proofs.YtfljcdccepnidaaGreatDoor.Lf
namespace Go.Proofs.YtfljcdccepnidaaGreatDoor.Lf
open Go.ChangeShapes Go.WideShapes Go.ChangeAt Go.RowKit Go.Bn
attribute [local go_sem] Oper.semAt_some

theorem allT_any (ad : Option Addr) (n c : Nat) (w : World) : Calls Tryz.prog 92 #[.slice ad n c,.func (.func 93) #[] #[]] w fun e w' => e = .returned (.func (.func 100) #[] #[.pointer (some ⟨w.heap.size,0,none⟩),.pointer (some ⟨w.heap.size + 1,0,none⟩)]) /\ w' = (w.alloc (.cells #[.slice ad n c] 23)).alloc (.cells #[.func (.func 93) #[] #[]] 135) := by
  go_enter Tryz.func92,Tryz.ntmps92
  go_wp2
  go_ret
  exact ⟨rfl,rfl⟩
theorem TBL.up {GB : Nat} {W X : World} (h : TBL GB W) (hb : Below W.heap.size W X) (hg : GB < W.heap.size) : TBL GB X := fun kn q1 q2 => (hb.cell (p := ⟨GB,kn * 3 + 1,none⟩) hg).trans (h kn q1 q2)
theorem TBF.up {GB : Nat} {W X : World} (h : TBF GB W) (hb : Below W.heap.size W X) (hg : GB < W.heap.size) : TBF GB X := fun kn q1 q2 => by
  obtain ⟨h0,h1,h2,h3,h4,h5⟩ := h kn q1 q2; exact ⟨(hb.cell (p := ⟨GB,_,none⟩) hg).trans h0,(hb.cell (p := ⟨GB,_,none⟩) hg).trans h1,(hb.cell (p := ⟨GB,_,none⟩) hg).trans h2,(hb.cell (p := ⟨GB,_,none⟩) hg).trans h3,(hb.cell (p := ⟨GB,_,none⟩) hg).trans h4,(hb.cell (p := ⟨GB,_,none⟩) hg).trans h5⟩
set_option maxRecDepth 100000 in
set_option maxHeartbeats 16000000 in
theorem formBody_any (w0 : World) (N n : Nat) (aB : Option Addr) (nB cB : Nat) (W : World) (hB : TX w0 (SB w0 N n) (.slice aB nB cB)) (hW : Below w0.heap.size w0 W) (hct : CT w0 n (.slice aB nB cB) <= 40000000) (hT : TBL 1 W) (hF : TBF 0 W) (hGB : 1 < W.heap.size) :
    Calls Tryz.prog 80 #[.slice aB nB cB] W (BP (TF w0 (FT w0 N n) (.slice aB nB cB)) W) := by
  obtain ⟨W5,hW5⟩ : ∃ W5,((W.alloc (.cells #[.bool false] 4)).alloc (.cells #[.slice aB nB cB] 23)).alloc (.cells #[.func (.func 93) #[] #[]] 135) = W5 := ⟨_,rfl⟩; have HW5 : Hid (Below W.heap.size W W5 /\ W5.heap.size = W.heap.size + 3 /\ W5.heap[W.heap.size]? = some (.cells #[.bool false] 4 (0,0)) /\ W5.heap[W.heap.size + 1]? = some (.cells #[.slice aB nB cB] 23 (0,0)) /\ W5.heap[W.heap.size + 1 + 1]? = some (.cells #[.func (.func 93) #[] #[]] 135 (0,0))) := by
    have b1 := lbel W (.cells #[.bool false] 4); have n1 := heap_alloc_new W (.cells #[.bool false] 4); have s1 : (W.alloc (.cells #[.bool false] 4)).heap.size = W.heap.size + 1 := by simp
    generalize W.alloc (.cells #[.bool false] 4) = x1 at *
    have b2 := lbel x1 (.cells #[.slice aB nB cB] 23); have n2 := heap_alloc_new x1 (.cells #[.slice aB nB cB] 23); have s2 : (x1.alloc (.cells #[.slice aB nB cB] 23)).heap.size = x1.heap.size + 1 := by simp
    generalize x1.alloc (.cells #[.slice aB nB cB] 23) = x2 at *
    have b3 := lbel x2 (.cells #[.func (.func 93) #[] #[]] 135); have n3 := heap_alloc_new x2 (.cells #[.func (.func 93) #[] #[]] 135); have s3 : (x2.alloc (.cells #[.func (.func 93) #[] #[]] 135)).heap.size = x2.heap.size + 1 := by simp
    rw [hW5] at b3 n3 s3; rw [s1] at n2; rw [s2,s1] at n3; exact ⟨bnext (bnext b1 b2) b3,by omega,(b3.block _ (by omega)).trans ((b2.block _ (by omega)).trans n1),(b3.block _ (by omega)).trans n2,n3⟩
  have HT : Hid (TBL 1 W /\ TBF 0 W /\ 1 < W.heap.size) := ⟨hT,hF,hGB⟩; obtain ⟨FA,hFA⟩ : ∃ FA,TF w0 (FT w0 N n) (.slice aB nB cB) = FA := ⟨_,rfl⟩; have H05 : Below w0.heap.size w0 W5 := bnext hW HW5.out.1; have HLI : Hid (MI W5 N FA [(.slice aB nB cB,n)] /\ wtT W5 [(.slice aB nB cB,n)] <= 50000000) := by
    refine ⟨⟨fun p hp => ?_,?_⟩,?_⟩
    · rw [List.mem_singleton.1 hp]; exact hB.up H05 (SB.up H05 n)
    · rw [<- hFA,<- TF.up hB H05 (FT.up H05 n)]
      exact ⟨fun h p hp => by rw [List.mem_singleton.1 hp]; exact h,fun h => h _ (List.mem_singleton.2 rfl)⟩
    simp only [wtT,List.map_cons,List.map_nil,List.sum_cons,List.sum_nil]; rw [CT.up H05 n _ hB]
    omega
  rw [hFA]; have HW5e : Hid (((W.alloc (.cells #[.bool false] 4)).alloc (.cells #[.slice aB nB cB] 23)).alloc (.cells #[.func (.func 93) #[] #[]] 135) = W5) := hW5; clear hB hW hct hT hF hGB hFA hW5 H05; refine (callsIn_wide (n := 9)).1 ?_; refine callsIn_of_wp_marks Tryz.func80 rfl trivial ?_ rfl; simp only [Tryz.ntmps80,List.size_toArray,List.length_cons,List.length_nil,Nat.reduceAdd,Nat.reduceSub,Array.replicate_succ,Array.replicate_zero,List.push_toArray,List.append_toArray,List.nil_append,List.cons_append]
  gi_wp2_with fail
  refine ⟨trivial,(callsIn_wide.2 (allT_any _ _ _ _)).mono ?_⟩; rintro e w' ⟨rfl,hw'⟩; subst hw'
  gi_wp2_with fail
  rw [HW5e.out]; clear HW5e; have hs5 := HW5.out.2.1; refine range_all (n := 9) (by omega) (gf := 100) (lb := #[.pointer (some ⟨W.heap.size + 1,0,none⟩),.pointer (some ⟨W.heap.size + 1 + 1,0,none⟩)]) rfl (enters_of Tryz.func100 (by kernel_rfl) rfl) (encs := encT (w := W5) (N := N) (FA := FA)) (fun _ => rfl) (G := goodT) (Fin := FA)
    (allT_it 8 (by omega) W5 N FA _ _ _ _ _ _ (lc HW5.out.2.2.2.1 0) (lc HW5.out.2.2.2.2 0) (by omega) (by omega) HLI.out.1 HLI.out.2)
    (fun X => { tmps := #[.slice aB nB cB,undef,.pointer (some ⟨W.heap.size,0,none⟩),.pointer (some ⟨X.1.1.1,X.1.1.2,none⟩),.slice aB nB cB,.func (.func 100) #[] #[.pointer (some ⟨W.heap.size + 1,0,none⟩),.pointer (some ⟨W.heap.size + 1 + 1,0,none⟩)],.pointer (some ⟨X.1.1.1,X.1.1.2,none⟩),undef,undef,undef,undef,undef,undef,undef,undef,undef,undef,undef,undef,undef,undef,undef,undef,undef,undef,undef,undef,undef,undef,undef],defers := [] })
    (fun W' => Below W.heap.size W W' /\ W'.heap[W.heap.size]? = some (.cells #[.bool false] 4 (0,0)) /\ ¬ FA) ?hR ?assign ?body ?done ?stop
  case hR =>
    rintro W' o ⟨h1,h2,h3⟩; exact ⟨put_below h1 (by omega) o,(World.putObj_heap_other (by omega)).trans h2,h3⟩
  case assign =>
    intro l X W' K hK; simp only [encT]
    gi_wp2
    exact hK
  case body =>
    intro l X Wb hBb hlt1 hd1 hl1; have HR1 : Hid (Wb.heap[W.heap.size]? = some (.cells #[.bool false] 4 (0,0)) /\ Below W.heap.size W Wb) := ⟨(hBb.block _ (by omega)).trans HW5.out.2.2.1,bnext HW5.out.1 hBb⟩; obtain ⟨⟨⟨b,o⟩,vs⟩,hb,⟨m,hsb⟩,hc,hfa⟩ := X; obtain ⟨k,s,ka,xa,sa,la,ke,xe,se,le,lo,hi,t1,t2,e14,hs,hA,hE,ht1,ht2,hA2,hE2⟩ := hsb; have e14 : vs = _ := e14; subst e14; obtain ⟨aA,nA,cA,rfl⟩ : ∃ a n c,la = .slice a n c := by obtain ⟨_,_,_,_,e,_,a,n,c,e2,_⟩ := hA; cases e; exact ⟨a,n,c,e2⟩
    obtain ⟨aE,nE,cE,rfl⟩ : ∃ a n c,le = .slice a n c := by obtain ⟨_,_,_,_,e,_,a,n,c,e2,_⟩ := hE; cases e; exact ⟨a,n,c,e2⟩
    obtain ⟨a1,n1,c1,rfl,_,_⟩ := ht1; obtain ⟨a2,n2,c2,rfl,_,_⟩ := ht2; have hb : b < W5.heap.size := hb; have y0 : Wb.cell? ⟨b,o,none⟩ = some (.int .i64 k) := (hBb.cell (p := ⟨b,o + 0,none⟩) hb).trans (hc 0 (by omega)); have HCs : Hid (Wb.cell? ⟨b,o + 1,none⟩ = some (.string s) /\ Wb.cell? ⟨b,o + 2,none⟩ = some (.int .i64 ka) /\ Wb.cell? ⟨b,o + 3,none⟩ = some (.int .u64 xa) /\ Wb.cell? ⟨b,o + 4,none⟩ = some (.string sa) /\ Wb.cell? ⟨b,o + 5,none⟩ = some (.slice aA nA cA) /\ Wb.cell? ⟨b,o + 6,none⟩ = some (.int .i64 ke) /\ Wb.cell? ⟨b,o + 7,none⟩ = some (.int .u64 xe) /\ Wb.cell? ⟨b,o + 8,none⟩ = some (.string se) /\ Wb.cell? ⟨b,o + 9,none⟩ = some (.slice aE nE cE) /\ Wb.cell? ⟨b,o + 10,none⟩ = some (.int .u64 lo) /\ Wb.cell? ⟨b,o + 11,none⟩ = some (.int .u64 hi) /\ Wb.cell? ⟨b,o + 12,none⟩ = some (.slice a1 n1 c1) /\ Wb.cell? ⟨b,o + 13,none⟩ = some (.slice a2 n2 c2)) := ⟨(hBb.cell (p := ⟨b,o + 1,none⟩) hb).trans (hc 1 (by omega)),(hBb.cell (p := ⟨b,o + 2,none⟩) hb).trans (hc 2 (by omega)),(hBb.cell (p := ⟨b,o + 3,none⟩) hb).trans (hc 3 (by omega)),(hBb.cell (p := ⟨b,o + 4,none⟩) hb).trans (hc 4 (by omega)),(hBb.cell (p := ⟨b,o + 5,none⟩) hb).trans (hc 5 (by omega)),(hBb.cell (p := ⟨b,o + 6,none⟩) hb).trans (hc 6 (by omega)),(hBb.cell (p := ⟨b,o + 7,none⟩) hb).trans (hc 7 (by omega)),(hBb.cell (p := ⟨b,o + 8,none⟩) hb).trans (hc 8 (by omega)),(hBb.cell (p := ⟨b,o + 9,none⟩) hb).trans (hc 9 (by omega)),(hBb.cell (p := ⟨b,o + 10,none⟩) hb).trans (hc 10 (by omega)),(hBb.cell (p := ⟨b,o + 11,none⟩) hb).trans (hc 11 (by omega)),(hBb.cell (p := ⟨b,o + 12,none⟩) hb).trans (hc 12 (by omega)),(hBb.cell (p := ⟨b,o + 13,none⟩) hb).trans (hc 13 (by omega))⟩; have HFa : Hid (FA -> okS W5 N k s ka xa sa (.slice aA nA cA) ke xe se (.slice aE nE cE) lo hi (.slice a1 n1 c1) (.slice a2 n2 c2)) := fun hf => okV_iff.1 (hfa hf)
    have HTb : Hid (TBL 1 Wb /\ TBF 0 Wb /\ 1 < Wb.heap.size) := ⟨HT.out.1.up HR1.out.2 HT.out.2.2,HT.out.2.1.up HR1.out.2 (by have := HT.out.2.2; omega),Nat.lt_of_lt_of_le HT.out.2.2 HR1.out.2.size⟩; have HEx : Hid (EX W5 (N + 1) [.int .i64 ka,.int .u64 xa,.string sa,.slice aA nA cA] /\ EX W5 (N + 1) [.int .i64 ke,.int .u64 xe,.string se,.slice aE nE cE] /\ CS W5 N (.slice aA nA cA) <= 40000000 /\ CS W5 N (.slice aE nE cE) <= 40000000 /\ s.size <= maxLen) := ⟨hA,hE,hA2,hE2,hs⟩; have HBb : Hid (b < W5.heap.size /\ Below W5.heap.size W5 Wb) := ⟨hb,hBb⟩
    show Code.wpIn (Fence.wide.inRound l) _ Tryz.prog _ (RPost W5.heap.size (okV W5 N [.int .i64 k,.string s,.int .i64 ka,.int .u64 xa,.string sa,.slice aA nA cA,.int .i64 ke,.int .u64 xe,.string se,.slice aE nE cE,.int .u64 lo,.int .u64 hi,.slice a1 n1 c1,.slice a2 n2 c2]) _ Wb) { tmps := #[.slice aB nB cB,undef,.pointer (some ⟨W.heap.size,0,none⟩),.pointer (some ⟨b,o,none⟩),.slice aB nB cB,.func (.func 100) #[] #[.pointer (some ⟨W.heap.size + 1,0,none⟩),.pointer (some ⟨W.heap.size + 1 + 1,0,none⟩)],.pointer (some ⟨b,o,none⟩),undef,undef,undef,undef,undef,undef,undef,undef,undef,undef,undef,undef,undef,undef,undef,undef,undef,undef,undef,undef,undef,undef,undef],defers := [] } Wb
    rw [okV_iff]; have HEnd : Hid (∀ Wc,Below Wb.heap.size Wb Wc -> ¬ FA -> (Wc.cell? ⟨W.heap.size,0,none⟩ = some (.bool false) /\ Wc.frozen? ⟨W.heap.size,0,none⟩ = false) /\ ((Below W.heap.size W (Wc.setCell ⟨W.heap.size,0,none⟩ (.bool false)) /\ (Wc.setCell ⟨W.heap.size,0,none⟩ (.bool false)).heap[W.heap.size]? = some (.cells #[.bool false] 4 (0,0)) /\ ¬ FA) /\ (Wc.setCell ⟨W.heap.size,0,none⟩ (.bool false)).heap[W5.heap.size]? = Wb.heap[W5.heap.size]? /\ (Wc.setCell ⟨W.heap.size,0,none⟩ (.bool false)).heap[W5.heap.size + 1]? = Wb.heap[W5.heap.size + 1]?)) := fun Wc hc hn => by
      have r1 : Wc.heap[W.heap.size]? = some (.cells #[.bool false] 4 (0,0)) := (hc.block _ (Array.getElem?_eq_some_iff.1 HR1.out.1).1).trans HR1.out.1; refine ⟨⟨lc r1 0,by simp [World.frozen?,r1]⟩,⟨(bnext HR1.out.2 hc).setCell (Nat.le_refl _) _,heap_setCell_same _ _ 0 _ _ _ r1,hn⟩,?_,?_⟩
      · exact (heap_setCell_other _ _ _ _ (by show W5.heap.size ≠ W.heap.size; omega)).trans (hc.block _ (by omega))
      exact (heap_setCell_other _ _ _ _ (by show W5.heap.size + 1 ≠ W.heap.size; omega)).trans (hc.block _ (by omega))
    clear hA hE hA2 hE2 hs hb hBb hc hfa hs5
    by_cases hk1 : k < 1
    · have d1 : decide (k < 1) = true := decide_eq_true hk1
      obtain ⟨⟨r1,r2⟩,r3⟩ := HEnd.out Wb (Below.refl _ _) (fun hf => by have := (HFa.out hf).1.1; omega); have HR3 : Hid _ := r3; clear r3
      gi_wp2_with fail
      refine ⟨trivial,?_⟩
      gi_wp2_with fail
      exact HR3.out
    have d1 : decide (k < 1) = false := decide_eq_false hk1
    by_cases hk5 : 5 < k
    · have d5 : decide (5 < k) = true := decide_eq_true hk5
      obtain ⟨⟨r1,r2⟩,r3⟩ := HEnd.out Wb (Below.refl _ _) (fun hf => by have := (HFa.out hf).1.2; omega); have HR3 : Hid _ := r3; clear r3
      gi_wp2_with fail
      refine ⟨trivial,?_⟩
      gi_wp2_with fail
      exact HR3.out
    have d5 : decide (5 < k) = false := decide_eq_false hk5; have q0 : (0 : Int) <= k := by omega
    have q6 : k < 6 := by omega
    obtain ⟨kn,hkn⟩ : ∃ kn : Nat,(kn : Int) = k := ⟨k.toNat,Int.toNat_of_nonneg q0⟩; obtain ⟨z0,z1,z2,z3,z4,z5⟩ := HTb.out.2.1 kn (by omega) (by omega); rw [hkn] at z0 z1 z2 z3 z4 z5; obtain rfl : kn = k.toNat := by omega
    have HSt : Hid (Calls Tryz.prog 94 #[.pointer (some ⟨b,o,none⟩),.agg #[.bool (fN k),.bool (fA k),.bool (fE k),.bool (fB k),.bool (fT k),.bool (fO k)]] Wb (BP (okS W5 N k s ka xa sa (.slice aA nA cA) ke xe se (.slice aE nE cE) lo hi (.slice a1 n1 c1) (.slice a2 n2 c2)) Wb)) := formStmt_any W5 Wb N b o k s ka xa sa aA nA cA ke xe se aE nE cE lo hi a1 n1 c1 a2 n2 c2 HCs.out (Nat.lt_of_lt_of_le HBb.out.1 HBb.out.2.size) ⟨by omega,by omega⟩ HEx.out.2.2.2.2 HEx.out.1 HEx.out.2.1 HEx.out.2.2.1 HEx.out.2.2.2.1 HBb.out.2 HTb.out.1 HTb.out.2.2
    generalize okS W5 N k s ka xa sa (.slice aA nA cA) ke xe se (.slice aE nE cE) lo hi (.slice a1 n1 c1) (.slice a2 n2 c2) = PK at *
    generalize fN k = g0 at *
    generalize fA k = g1 at *
    generalize fE k = g2 at *
    generalize fB k = g3 at *
    generalize fT k = g4 at *
    generalize fO k = g5 at *
    clear hkn
    gi_wp2_with fail
    refine ⟨trivial,CallsIn.inRound l (callsIn_wide.2 (HSt.out.mono ?_))⟩; rintro e w9 ⟨bb,rfl,hi9,hb9⟩; have Hi9 : Hid (bb = true ↔ PK) := hi9; have HB9 : Hid (Below Wb.heap.size Wb w9) := hb9; clear hi9 hb9 HSt; cases bb with
    | true =>
      have HG9 : Hid (Below Wb.heap.size Wb w9 /\ PK) := ⟨HB9.out,Hi9.out.1 rfl⟩
      gi_wp2_with fail
      exact HG9.out
    | false =>
      obtain ⟨⟨r1,r2⟩,r3⟩ := HEnd.out w9 HB9.out (fun hf => absurd (Hi9.out.2 (HFa.out hf)) (by decide)); have HR3 : Hid _ := r3; clear r3
      gi_wp2_with fail
      exact HR3.out
  case done =>
    intro D W' hD hF hB hK; have r1 : W'.heap[W.heap.size]? = some (.cells #[.bool false] 4 (0,0)) := (hB.block _ (by omega)).trans HW5.out.2.2.1; have f1 : W'.cell? ⟨W.heap.size,0,none⟩ = some (.bool false) := lc r1 0; have z1 : W'.frozen? ⟨W.heap.size,0,none⟩ = false := by simp [World.frozen?,r1]
    have nD : D ≠ W.heap.size := by omega
    have hk2 : (W'.setCell ⟨W.heap.size,0,none⟩ (.bool true)).heap[D]? = some (.deferred (some [])) := (heap_setCell_other _ _ _ _ nD).trans hK; have r2 : ((W'.setCell ⟨W.heap.size,0,none⟩ (.bool true)).putObj D (.deferred none)).heap[W.heap.size]? = some (.cells #[.bool true] 4 (0,0)) := (World.putObj_heap_other (Ne.symm nD)).trans (heap_setCell_same _ _ 0 _ _ _ r1); have HE : Hid (Below W.heap.size W ((W'.setCell ⟨W.heap.size,0,none⟩ (.bool true)).putObj D (.deferred none))) := put_below ((bnext HW5.out.1 hB).setCell (Nat.le_refl _) _) (by omega) _
    gi_wp2_with fail
    refine ⟨by simp,.inl ⟨_,_,rfl,run_takeDeferred hk2,?_⟩⟩; have c9 := lc r2 0; exact ⟨_,res_c1 (p := 2) rfl _ _ ⟨W.heap.size,0,none⟩ (.bool true) rfl (by simp [loadVar,go_sem,c9]),BP.t hF HE.out⟩
  case stop =>
    rintro D W' hD ⟨hB,r1,hn⟩ hK; have nD : D ≠ W.heap.size := by omega
    have r2 : (W'.putObj D (.deferred none)).heap[W.heap.size]? = some (.cells #[.bool false] 4 (0,0)) := (World.putObj_heap_other (Ne.symm nD)).trans r1; have HE : Hid (Below W.heap.size W (W'.putObj D (.deferred none))) := put_below hB (by omega) _
    gi_wp2_with fail
    refine ⟨by simp,.inl ⟨_,_,rfl,run_takeDeferred hK,?_⟩⟩; have c9 := lc r2 0; exact ⟨_,res_c1 (p := 2) rfl _ _ ⟨W.heap.size,0,none⟩ (.bool false) rfl (by simp [loadVar,go_sem,c9]),BP.f hn HE.out⟩
end Go.Proofs.YtfljcdccepnidaaGreatDoor.Lf
