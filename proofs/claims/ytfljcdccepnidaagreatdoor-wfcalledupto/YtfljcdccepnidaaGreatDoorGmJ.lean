import Derived.Test.YtfljcdccepnidaaGreatDoorSqA
import Derived.Test.YtfljcdccepnidaaGreatDoorFmJ
import Derived.Test.YtfljcdccepnidaaGreatDoorGmA
namespace Go.Proofs.YtfljcdccepnidaaGreatDoor.Lf
open Go.ChangeShapes Go.WideShapes Go.ChangeAt Go.RowKit Go.Bn Go.Lib

set_option maxHeartbeats 8000000 in
set_option maxRecDepth 100000 in
theorem lblocks_any (base : Nat) (W : World) (ad : Option Addr) (n cap : Nat) (xs : List Value) (g o : Nat) (b1 b2 : Option Addr) (m1 k1 m2 k2 : Nat) (hO : W.ownsRow base 23 1 (.slice ad n cap) n xs) (h1 : W.cell? ⟨g,o + 12,none⟩ = some (.slice b1 m1 k1)) (h2 : W.cell? ⟨g,o + 13,none⟩ = some (.slice b2 m2 k2)) (hg : g < base) (hn : n <= 100000000) (hb : base <= W.heap.size) :
    Calls Tryz.prog 93 #[.slice ad n cap,.pointer (some ⟨g,o,none⟩)] W fun e w' => ∃ ad' cap',e = .returned (.slice ad' (n + 2) cap') /\ w'.ownsRow base 23 1 (.slice ad' (n + 2) cap') (n + 2) (xs ++ [.slice b1 m1 k1,.slice b2 m2 k2]) /\ Below base W w' := by
  obtain ⟨i0,hi,hz0,hz1,hz2⟩ := info_parts (P := Tryz.prog) (e := 23) (z := .slice none 0 0) (size := 1) (bytes := 24) (by kernel_rfl); have HO : Hid (W.ownsRow base 23 1 (.slice ad n cap) n xs) := hO; have HL : Hid (base <= W.heap.size) := hb; have HKp : Hid (∀ X,Below base W X -> X.cell? ⟨g,o + 12,none⟩ = some (.slice b1 m1 k1) /\ X.cell? ⟨g,o + 13,none⟩ = some (.slice b2 m2 k2)) := fun X hX => ⟨(hX.cell (p := ⟨g,o + 12,none⟩) hg).trans h1,(hX.cell (p := ⟨g,o + 13,none⟩) hg).trans h2⟩
  have hk0 := HKp.out W.drew ⟨rfl,rfl,rfl,Nat.le_refl _,fun _ _ => rfl⟩; clear hO hb h1 h2
  go_enter Tryz.func93,Tryz.ntmps93
  go_wp2_with fail
  refine wp_region_held_drew (S := (fun X => X.cell? ⟨g,o + 12,none⟩ = some (.slice b1 m1 k1) /\ X.cell? ⟨g,o + 13,none⟩ = some (.slice b2 m2 k2))) (by kernel_rfl) hk0 (fun hHeld => ?_); clear hk0; refine wpAnyH_take (i := 0) (oi := { dst := some 5,op := Op.move (Operand.tmp 0),type := 144,pos := "form.go:90",after := #[],guard := none }) (v := ?vq0) rfl (by kernel_rfl) (by kernel_rfl) (by kernel_rfl) (fun _ _ _ h => h) (Or.inl ⟨by kernel_rfl,?hq0⟩) (by assumption) ?rq0
  case hq0 => (intro w hSw; (try dsimp only at hSw); go_simp <;> with_reducible rfl)
  try simp only [Act.put,z0,z1,z2]
  refine wpAnyH_take (i := 1) (oi := { dst := some 6,op := Op.move (Operand.tmp 1),type := 66,pos := "form.go:90",after := #[],guard := none }) (v := ?vq1) rfl (by kernel_rfl) (by kernel_rfl) (by kernel_rfl) (fun _ _ _ h => h) (Or.inl ⟨by kernel_rfl,?hq1⟩) (by assumption) ?rq1
  case hq1 => (intro w hSw; (try dsimp only at hSw); go_simp <;> with_reducible rfl)
  try simp only [Act.put,z0,z1,z2]
  refine wpAnyH_take (i := 2) (oi := { dst := some 7,op := Op.nilCheck (Operand.tmp 6),type := 0,pos := "form.go:90",after := #[{ on := 1,ground := Ground.data }],guard := none }) (v := ?vq2) rfl (by kernel_rfl) (by kernel_rfl) (by kernel_rfl) (fun _ _ _ h => h) (Or.inl ⟨by kernel_rfl,?hq2⟩) (by assumption) ?rq2
  case hq2 => (intro w hSw; (try dsimp only at hSw); go_simp <;> with_reducible rfl)
  try simp only [Act.put,z0,z1,z2]
  refine wpAnyH_take (i := 3) (oi := { dst := some 8,op := Op.fieldAddr 46 (Operand.tmp 7) 6,type := 0,pos := "form.go:90",after := #[{ on := 2,ground := Ground.data }],guard := none }) (v := ?vq3) rfl (by kernel_rfl) (by kernel_rfl) (by kernel_rfl) (fun _ _ _ h => h) (Or.inl ⟨by kernel_rfl,?hq3⟩) (by assumption) ?rq3
  case hq3 => (intro w hSw; (try dsimp only at hSw); go_simp <;> with_reducible rfl)
  try simp only [Act.put,z0,z1,z2]
  refine wpAnyH_take (i := 4) (oi := { dst := some 9,op := Op.load 23 (Operand.tmp 8),type := 23,pos := "form.go:90",after := #[{ on := 3,ground := Ground.data }],guard := none }) (v := ?vq4) rfl (by kernel_rfl) (by kernel_rfl) (by kernel_rfl) (fun _ _ _ h => h) (Or.inl ⟨by kernel_rfl,?hq4⟩) (by assumption) ?rq4
  case hq4 => (intro w hSw; (try dsimp only at hSw); go_simp <;> with_reducible rfl)
  try simp only [Act.put,z0,z1,z2]
  refine wpAnyH_take (i := 5) (oi := { dst := some 10,op := Op.move (Operand.tmp 1),type := 66,pos := "form.go:90",after := #[],guard := none }) (v := ?vq5) rfl (by kernel_rfl) (by kernel_rfl) (by kernel_rfl) (fun _ _ _ h => h) (Or.inl ⟨by kernel_rfl,?hq5⟩) (by assumption) ?rq5
  case hq5 => (intro w hSw; (try dsimp only at hSw); go_simp <;> with_reducible rfl)
  try simp only [Act.put,z0,z1,z2]
  refine wpAnyH_take (i := 6) (oi := { dst := some 11,op := Op.nilCheck (Operand.tmp 10),type := 0,pos := "form.go:90",after := #[{ on := 5,ground := Ground.data }],guard := none }) (v := ?vq6) rfl (by kernel_rfl) (by kernel_rfl) (by kernel_rfl) (fun _ _ _ h => h) (Or.inl ⟨by kernel_rfl,?hq6⟩) (by assumption) ?rq6
  case hq6 => (intro w hSw; (try dsimp only at hSw); go_simp <;> with_reducible rfl)
  try simp only [Act.put,z0,z1,z2]
  refine wpAnyH_take (i := 7) (oi := { dst := some 12,op := Op.fieldAddr 46 (Operand.tmp 11) 7,type := 0,pos := "form.go:90",after := #[{ on := 6,ground := Ground.data }],guard := none }) (v := ?vq7) rfl (by kernel_rfl) (by kernel_rfl) (by kernel_rfl) (fun _ _ _ h => h) (Or.inl ⟨by kernel_rfl,?hq7⟩) (by assumption) ?rq7
  case hq7 => (intro w hSw; (try dsimp only at hSw); go_simp <;> with_reducible rfl)
  try simp only [Act.put,z0,z1,z2]
  refine wpAnyH_take (i := 8) (oi := { dst := some 13,op := Op.load 23 (Operand.tmp 12),type := 23,pos := "form.go:90",after := #[{ on := 7,ground := Ground.data }],guard := none }) (v := ?vq8) rfl (by kernel_rfl) (by kernel_rfl) (by kernel_rfl) (fun _ _ _ h => h) (Or.inl ⟨by kernel_rfl,?hq8⟩) (by assumption) ?rq8
  case hq8 => (intro w hSw; (try dsimp only at hSw); go_simp <;> with_reducible rfl)
  try simp only [Act.put,z0,z1,z2]
  refine wpAnyH_ready (rs := [9]) (by kernel_rfl) (by simp) ?_; refine AllReadyH.cons (o := { dst := some 14,op := Op.buildSlice 144 2 #[(0,Operand.tmp 9),(1,Operand.tmp 13)],type := 144,pos := "form.go:90",after := #[{ on := 4,ground := Ground.data },{ on := 8,ground := Ground.data }],guard := none }) rfl (fun K hK => ?_) AllReadyH.nil
  go_simp
  have hA := (Below.refl base W).alloc HL.out (.cells #[.slice b1 m1 k1,.slice b2 m2 k2] 23); refine hK.out _ _ (HKp.out _ ⟨hA.os,hA.tape,hA.output,hA.size,hA.block⟩) (fun hHeld => ?_); clear hA; clear hK K
  try simp only [Act.put,z0,z1,z2]
  refine wpAnyH_ready (rs := [10]) (by kernel_rfl) (by simp) ?_; refine AllReadyH.cons (o := { dst := some 15,op := Op.call { callee := Callee.builtin Builtin.append,args := #[Operand.tmp 5,Operand.tmp 14],argTypes := #[144,144] },type := 144,pos := "form.go:90",after := #[{ on := 0,ground := Ground.data },{ on := 9,ground := Ground.data }],guard := none }) rfl (fun K hK => ?_) AllReadyH.nil; refine step_append_lies _ (by rfl) _ _ _ (by rfl) base 23 i0 _ 1 24 Tryz.underlying144 hi hz0 hz1 hz2 rfl (by omega) (.slice ad n cap) n xs (by rfl) ((show W.drew.ownsRow base 23 1 (.slice ad n cap) n xs from HO.out).alloc _) ⟨W.drew.heap.size,0,none⟩ 2 2 [.slice b1 m1 k1,.slice b2 m2 k2] (by rfl) (by rfl) (World.news_of_block (cs := #[.slice b1 m1 k1,.slice b2 m2 k2]) (t := 23) (fr := (0,0)) (heap_alloc_new W.drew _)) (by intro u hu; simp at hu; rcases hu with rfl | rfl <;> rfl) (by omega) (by unfold maxLen; omega) (by omega) (by have := HL.out; simp; omega) (W.drew.heap.size + 1) (by simp) ?_; intro g8 c8 w8 ho8 hg8 _ _; have hG := ((Below.refl base W.drew).alloc HL.out (.cells #[.slice b1 m1 k1,.slice b2 m2 k2] 23)).grown hg8 (by have := HL.out; simp; omega) (fun q hq => (HO.out.lt q hq).1); have HZ : Hid (w8.ownsRow base 23 1 (.slice (some ⟨g8,0,none⟩) (n + 2) c8) (n + 2) (xs ++ [.slice b1 m1 k1,.slice b2 m2 k2]) /\ Below base W w8) := ⟨ho8,⟨hG.os,hG.tape,hG.output,hG.size,hG.block⟩⟩; clear ho8 hg8 hG; refine hK.out _ _ (HKp.out w8 HZ.out.2) (fun hHeld => ?_); clear hK K
  try simp only [Act.put,z0,z1,z2]
  refine wpAnyH_take (i := 11) (oi := { dst := some 4,op := Op.assign (Operand.tmp 15),type := 144,pos := "form.go:90",after := #[{ on := 10,ground := Ground.data },{ on := 10,ground := Ground.chain },{ on := 0,ground := Ground.phase },{ on := 1,ground := Ground.phase },{ on := 2,ground := Ground.phase },{ on := 3,ground := Ground.phase },{ on := 4,ground := Ground.phase },{ on := 5,ground := Ground.phase },{ on := 6,ground := Ground.phase },{ on := 7,ground := Ground.phase },{ on := 8,ground := Ground.phase },{ on := 9,ground := Ground.phase },{ on := 10,ground := Ground.phase }],guard := none }) (v := ?vq11) rfl (by kernel_rfl) (by kernel_rfl) (by kernel_rfl) (fun _ _ _ h => h) (Or.inl ⟨by kernel_rfl,?hq11⟩) (by assumption) ?rq11
  case hq11 => (intro w hSw; (try dsimp only at hSw); go_simp <;> with_reducible rfl)
  try simp only [Act.put,z0,z1,z2]
  refine wpAnyH_done (by kernel_rfl) ?_ _
  try go_wp2_with fail
  go_ret
  exact ⟨some ⟨g8,0,none⟩,c8,rfl,HZ.out.1,HZ.out.2⟩
end Go.Proofs.YtfljcdccepnidaaGreatDoor.Lf
namespace Go.Proofs.YtfljcdccepnidaaGreatDoor.Lf
open Go.ChangeShapes Go.WideShapes Go.ChangeAt Go.RowKit Go.Bn Go.Shelf
attribute [local go_sem] Oper.semAt_some

set_option maxRecDepth 100000 in
set_option maxHeartbeats 8000000 in
theorem allT_it (n : Nat) (hn : 1 <= n) (w : World) (N : Nat) (FA : Prop) (Bl Bw : Nat) (aR : Option Addr) (nR cR mR : Nat) (hl : w.cell? ⟨Bl,0,none⟩ = some (.slice aR nR cR)) (hw : w.cell? ⟨Bw,0,none⟩ = some (.func (.func 93) #[] #[])) (hBl : Bl < w.heap.size) (hBw : Bw < w.heap.size)
    (h0 : MI w N FA [(.slice aR nR cR,mR)]) (hM : wtT w [(.slice aR nR cR,mR)] <= 50000000) :
    ItAll Tryz.prog n 100 #[.pointer (some ⟨Bl,0,none⟩),.pointer (some ⟨Bw,0,none⟩)] (encT (w := w) (N := N) (FA := FA)) goodT FA w := by
  intro l Jx W1 hW1 hY; have HY : Hid (∀ (x : NT w N FA) W,Below W1.heap.size W1 W -> YieldAt Fence.wide (n - 1) Tryz.prog l (encT x) W fun e W' => (e = .returned (.bool true) /\ goodT x /\ Below W.heap.size W W') ∨ (e = .returned (.bool false) /\ Jx x W')) := hY; have HB1 : Hid (Below w.heap.size w W1) := hW1; have c1 : W1.cell? ⟨Bl,0,none⟩ = some (.slice aR nR cR) := (hW1.cell (p := ⟨Bl,0,none⟩) hBl).trans hl; have H0 : Hid (MI w N FA [(.slice aR nR cR,mR)]) := h0; clear hY hW1 h0; refine callsIn_of_wp Tryz.func100 rfl trivial ?_ rfl
  show Code.wpIn _ _ _ _ _ { tmps := #[.func (.yield l) #[] #[],.pointer (some ⟨Bl,0,none⟩),.pointer (some ⟨Bw,0,none⟩)] ++ _,defers := _ } _
  simp only [Tryz.ntmps100,List.size_toArray,List.length_cons,List.length_nil,Nat.reduceAdd,Nat.reduceSub,Array.replicate_succ,Array.replicate_zero,List.push_toArray,List.append_toArray,List.nil_append,List.cons_append]
  gi_wp2
  have e0 : (W1.alloc (.cells #[.slice aR nR cR] 23)).ownsRow W1.heap.size 23 1 (.slice (some ⟨W1.heap.size,0,none⟩) 1 1) 1 [.slice aR nR cR] := ⟨rfl,.inr ⟨_,1,#[.slice aR nR cR],rfl,Nat.le_refl _,heap_alloc_new _ _,by omega,by unfold maxLen; omega,rfl,rfl⟩⟩; have HS0 : Hid ((W1.alloc (.cells #[.slice aR nR cR] 23)).ownsRow W1.heap.size 23 1 (.slice (some ⟨W1.heap.size,0,none⟩) 1 1) 1 [.slice aR nR cR] /\ Below W1.heap.size W1 (W1.alloc (.cells #[.slice aR nR cR] 23))) := ⟨e0,lbel _ _⟩; clear e0 c1
  gi_loopg [4] (wtT w [(.slice aR nR cR,mR)]) (fun gk v4 wr => ∃ ad q cap,∃ E : List (Value × Nat),v4 = .slice ad q cap /\ E.length = q /\ wtT w E <= gk /\ gk <= 50000000 /\ Aside (wr.ownsRow W1.heap.size 23 1 (.slice ad q cap) q (E.map Prod.fst) /\ Below W1.heap.size W1 wr /\ MI w N FA E))
  case atStart => exact ⟨some ⟨W1.heap.size,0,none⟩,1,1,[(.slice aR nR cR,mR)],rfl,rfl,Nat.le_refl _,hM,⟨HS0.out.1,HS0.out.2,H0.out⟩⟩
  case round =>
    clear HS0 H0; obtain ⟨ad,q,cap,E,rfl,hq,hwt,hgk,HR⟩ := hrel
    rcases List.eq_nil_or_concat E with rfl | ⟨E0,p,rfl⟩
    · obtain rfl : q = 0 := by simpa using hq.symm
      have HF : Hid (Below W1.heap.size W1 wr /\ FA) := ⟨HR.out.2.1,HR.out.2.2.iff.2 (fun p hp => absurd hp (by simp))⟩; clear HR
      gi_wp2
      go_end0
      exact ⟨⟨_,rfl⟩,.inl HF.out⟩
    obtain ⟨v,m⟩ := p; rw [List.concat_eq_append] at hq hwt HR; obtain ⟨a2,len,c2,rfl,hlen,hsx⟩ := HR.out.2.2.tr (v,m) (List.mem_append_right _ (List.mem_singleton.2 rfl)); have HSX : Hid (0 < len -> ∃ b o,a2 = some ⟨b,o,none⟩ /\ b < w.heap.size /\ ∀ j,j < len -> ∃ vs : List Value,vs.length = 14 /\ (∀ i,i < 14 -> w.cell? ⟨b,o + j * 14 + i,none⟩ = some (vs.getD i undef)) /\ SB w N m vs) := hsx; clear hsx; obtain ⟨k,hk⟩ : ∃ k,E0.length = k := ⟨_,rfl⟩; obtain rfl : q = k + 1 := by rw [<- hq,<- hk]; simp
    have hro := HR.out.1; rw [List.map_append] at hro; obtain ⟨g,cap',e9,cg,hkc,hgB⟩ := own_last (by rw [List.length_map]; exact hk) hro; cases e9; have HL0 : Hid (wr.ownsRow W1.heap.size 23 1 (.slice (some ⟨g,0,none⟩) k cap) k (E0.map Prod.fst) /\ Below W1.heap.size W1 wr /\ MJ w N FA E0 a2 len m 0) := ⟨ownsRow_pop (by rw [List.length_map,hk]; omega) hro,HR.out.2.1,HR.out.2.2.pop.1⟩; have hwt2 : wtT w E0 + (1 + CT w m (.slice a2 len c2)) <= gk := by rw [wtT_app] at hwt; simpa [wtT] using hwt
    have hkl : k <= wtT w E0 := by rw [<- hk]; exact wtT_len w E0
    clear HR hro hwt hq; have t1 : (0 : Int) < ((k + 1 : Nat) : Int) := by omega
    have t2 : IntKind.i64.wrap (((k + 1 : Nat) : Int) - 1) = (k : Int) := by rw [IntKind.wrap_i64]; omega
    have t3 : (k : Int) < ((k + 1 : Nat) : Int) := by omega
    have t4 : (k : Int) <= (cap : Int) := by omega
    have t5 : (0 : Int) <= (k : Int) := by omega
    have hpw : pt w m a2 len <= CT w m (.slice a2 len c2) := pt_all (fun h => by
      obtain ⟨b,o,e,_,hh⟩ := HSX.out h; obtain ⟨vs,_,_,hex⟩ := hh 0 h; refine ⟨?_,b,o,e⟩; cases m with
      | zero => exact hex.elim
      | succ m => omega)
    have hcw : ∀ X,Below W1.heap.size W1 X -> X.cell? ⟨Bw,0,none⟩ = some (.func (.func 93) #[] #[]) /\ W1.heap.size <= X.heap.size := fun X hX => ⟨((bnext HB1.out hX).cell (p := ⟨Bw,0,none⟩) hBw).trans hw,hX.size⟩
    have HCw : Hid (∀ X,Below W1.heap.size W1 X -> X.cell? ⟨Bw,0,none⟩ = some (.func (.func 93) #[] #[]) /\ W1.heap.size <= X.heap.size) := hcw; clear hcw
    gi_wp2_with fail
    obtain ⟨g0,hg0⟩ : ∃ g0,g0 = gk := ⟨_,rfl⟩; subst hg0; clear cg
    gi_loopg [4,25] len (fun g2 v4 v25 wx => ∃ ad q cap,∃ E : List (Value × Nat),∃ j : Nat,v4 = .slice ad q cap /\ v25 = .int .i64 (j : Int) /\ j + g2 = len /\ E.length = q /\ wtT w E = wtT w E0 + pt w m a2 j /\ Aside (wx.ownsRow W1.heap.size 23 1 (.slice ad q cap) q (E.map Prod.fst) /\ Below W1.heap.size W1 wx /\ MJ w N FA E a2 len m j))
    case atStart => exact ⟨_,k,cap,E0,0,rfl,rfl,by omega,hk,by rw [pt_zero]; rfl,HL0.out⟩
    case round =>
      clear HL0; obtain ⟨ad5,q5,cap5,E5,j,rfl,rfl,hj,hq5,hw5,HR5⟩ := hrel; have HR : Hid (wr.ownsRow W1.heap.size 23 1 (.slice ad5 q5 cap5) q5 (E5.map Prod.fst) /\ Below W1.heap.size W1 wr /\ MJ w N FA E5 a2 len m j) := HR5.out; clear HR5
      by_cases hlt : j < len
      · have q1 : (j : Int) < (len : Int) := by omega
        have q2 : (0 : Int) <= (j : Int) := by omega
        obtain ⟨b,o,rfl,hb,hel⟩ := HSX.out (by omega); obtain ⟨vs,hvl,hvc,hex⟩ := hel j hlt; cases m with
        | zero => exact hex.elim
        | succ m =>
          have hex0 := hex; obtain ⟨kk,s,ka,xa,sa,la,ke,xe,se,le,lo,hi,u1,u2,rfl,hs,hA,hE,hu1,hu2,hx1,hx2⟩ := hex; have hu1' := hu1; have hu2' := hu2; obtain ⟨aS,nS,cS,rfl,hnS,_⟩ := hu1'; obtain ⟨aR2,nR2,cR2,rfl,hnR2,_⟩ := hu2'; have h3 : w.cell? ⟨b,o + j * 14 + 12,none⟩ = some (.slice aS nS cS) := hvc 12 (by omega); have h4 : w.cell? ⟨b,o + j * 14 + 13,none⟩ = some (.slice aR2 nR2 cR2) := hvc 13 (by omega); obtain ⟨X,hX⟩ : ∃ X : NT w N FA,X.1 = ((b,o + j * 14),[.int .i64 kk,.string s,.int .i64 ka,.int .u64 xa,.string sa,la,.int .i64 ke,.int .u64 xe,.string se,le,.int .u64 lo,.int .u64 hi,.slice aS nS cS,.slice aR2 nR2 cR2]) := ⟨⟨((b,o + j * 14),[.int .i64 kk,.string s,.int .i64 ka,.int .u64 xa,.string sa,la,.int .i64 ke,.int .u64 xe,.string se,le,.int .u64 lo,.int .u64 hi,.slice aS nS cS,.slice aR2 nR2 cR2]),hb,⟨m,hex0⟩,hvc,fun hf => okV_iff.2 (HR.out.2.2.next hlt hvc hf)⟩,rfl⟩; have HG : Hid (goodT X -> MJ w N FA (E5 ++ [(Value.slice aS nS cS,m),(.slice aR2 nR2 cR2,m)]) (some ⟨b,o,none⟩) len (m + 1) (j + 1)) := fun hg => HR.out.2.2.step hlt hvc hu1 hu2 (by unfold goodT at hg; rw [hX] at hg; exact okV_iff.1 hg)
          have hw6 : wtT w (E5 ++ [(Value.slice aS nS cS,m),(.slice aR2 nR2 cR2,m)]) = wtT w E0 + pt w (m + 1) (some ⟨b,o,none⟩) (j + 1) := by rw [wtT_app,hw5,pt_succ h3 h4]; simp [wtT]; omega
          have hq6 : q5 <= 50000000 := by
            have h7 := wtT_len w E5; have h8 := pt_mono (w := w) (m := m + 1) (a := some ⟨b,o,none⟩) (Nat.le_of_lt hlt)
            omega
          obtain ⟨fn,tmps,assign,body,hy,hRd⟩ := HY.out X wr HR.out.2.1; have HRd : Hid (RoundIn Fence.wide (n - 1) Tryz.prog l fn tmps assign body wr fun e W' => (e = .returned (.bool true) /\ goodT X /\ Below wr.heap.size wr W') ∨ (e = .returned (.bool false) /\ Jx X W')) := hRd; unfold encT at hy; rw [hX] at hy; have c3w : Hid (b < w.heap.size /\ w.cell? ⟨b,o + j * 14 + 12,none⟩ = some (.slice aS nS cS) /\ w.cell? ⟨b,o + j * 14 + 13,none⟩ = some (.slice aR2 nR2 cR2)) := ⟨hb,h3,h4⟩; clear hel hex0 hvl hvc h3 h4 hb hu1 hu2 hRd hw5 hs hX hA hE hx1 hx2
          gi_wp2
          refine HRd.out.mono ?_; rintro e W3 (⟨rfl,hg3,hb3⟩ | ⟨rfl,hj3⟩)
          · have HR3 : Hid (W3.ownsRow W1.heap.size 23 1 (.slice ad5 q5 cap5) q5 (E5.map Prod.fst) /\ Below W1.heap.size W1 W3 /\ MJ w N FA (E5 ++ [(Value.slice aS nS cS,m),(.slice aR2 nR2 cR2,m)]) (some ⟨b,o,none⟩) len (m + 1) (j + 1)) := ⟨own_keep HR.out.1 hb3,bnext HR.out.2.1 hb3,HG.out hg3⟩
            clear hg3 hb3 HR HG HRd hy; have hB3 : Below W1.heap.size W1 W3.drew := ⟨HR3.out.2.1.os,HR3.out.2.1.tape,HR3.out.2.1.output,HR3.out.2.1.size,HR3.out.2.1.block⟩; have HPt : Hid (Calls Tryz.prog 93 #[.slice ad5 q5 cap5,.pointer (some ⟨b,o + j * 14,none⟩)] W3.drew fun e w' => ∃ ad' cap',e = .returned (.slice ad' (q5 + 2) cap') /\ w'.ownsRow W1.heap.size 23 1 (.slice ad' (q5 + 2) cap') (q5 + 2) (E5.map Prod.fst ++ [.slice aS nS cS,.slice aR2 nR2 cR2]) /\ Below W1.heap.size W3.drew w') :=
              lblocks_any W1.heap.size W3.drew ad5 q5 cap5 (E5.map Prod.fst) b (o + j * 14) aS aR2 nS cS nR2 cR2 (own_drew HR3.out.1) (((bnext HB1.out hB3).cell (p := ⟨b,o + j * 14 + 12,none⟩) c3w.out.1).trans c3w.out.2.1) (((bnext HB1.out hB3).cell (p := ⟨b,o + j * 14 + 13,none⟩) c3w.out.1).trans c3w.out.2.2) (Nat.lt_of_lt_of_le c3w.out.1 HB1.out.size) (by omega) hB3.size
            have HB3 : Hid (Below W1.heap.size W1 W3.drew) := hB3; have hcw := HCw.out W3.drew hB3; clear hB3
            gi_wp2_with fail
            refine wpIn_wide.2 ?_; refine wp_region_held_drew (S := (fun X => X.cell? ⟨Bw,0,none⟩ = some (.func (.func 93) #[] #[]) /\ W1.heap.size <= X.heap.size)) (by kernel_rfl) hcw (fun hHeld => ?_); clear hcw; refine sq_of [5] [0,1,2,3,4,5,6] (by kernel_rfl) hHeld ?_
            repeat (first | (refine sq_skip (by rfl) (by rfl) ?_; simp only [Act.put,z0,z1,z2]) | (refine sq_op (v := ?_) (by rfl) (by rfl) (by rfl) ?_ ?_; rotate_left; (focus (intro w hSw; (try dsimp only at hSw); go_simp <;> with_reducible rfl)); simp only [Act.put,z0,z1,z2]))
            refine sq_do (by rfl) (by rfl) (by rfl) (fun K hK => ?_)
            go_simp
            go_at_call 93; refine HPt.out.mono ?_; rintro e w9 ⟨ad9,cap9,rfl,hown9,hb9⟩
            have HN9 : Hid (w9.ownsRow W1.heap.size 23 1 (.slice ad9 (q5 + 2) cap9) (q5 + 2) (E5.map Prod.fst ++ [.slice aS nS cS,.slice aR2 nR2 cR2]) /\ Below W1.heap.size W3.drew w9) := ⟨hown9,hb9⟩; have hs9 := HCw.out w9 ⟨hb9.os.trans HB3.out.os,hb9.tape.trans HB3.out.tape,hb9.output.trans HB3.out.output,Nat.le_trans HB3.out.size hb9.size,fun k9 hk9 => (hb9.block k9 hk9).trans (HB3.out.block k9 hk9)⟩; refine hK.out _ _ hs9 (fun _ => ?_); clear hK K hs9
            try simp only [Act.put,z0,z1,z2]
            repeat (first | (refine sq_skip (by rfl) (by rfl) ?_; simp only [Act.put,z0,z1,z2]) | (refine sq_op (v := ?_) (by rfl) (by rfl) (by rfl) ?_ ?_; rotate_left; (focus (intro w hSw; (try dsimp only at hSw); go_simp <;> with_reducible rfl)); simp only [Act.put,z0,z1,z2]))
            refine sq_end (fun _ => ?_); have HZ : Aside (w9.ownsRow W1.heap.size 23 1 (.slice ad9 (q5 + 2) cap9) (q5 + 2) ((E5 ++ [(Value.slice aS nS cS,m),(.slice aR2 nR2 cR2,m)]).map Prod.fst) /\ Below W1.heap.size W1 w9 /\ MJ w N FA (E5 ++ [(Value.slice aS nS cS,m),(.slice aR2 nR2 cR2,m)]) (some ⟨b,o,none⟩) len (m + 1) (j + 1)) := ⟨by rw [List.map_append]; exact HN9.out.1,HB3.out.trans HN9.out.2,HR3.out.2.2⟩; clear HN9 HR3 HB3 HPt hHeld
            gi_wp2_with fail
            go_roundg (gk - 1)
            case measure => omega
            case rel => exact ⟨ad9,q5 + 2,cap9,E5 ++ [(Value.slice aS nS cS,m),(.slice aR2 nR2 cR2,m)],j + 1,rfl,by simp,by omega,by simp [hq5],hw6,HZ⟩
          gi_wp2
          refine bodyPost_ret (results_none rfl _ _ _) rfl ?_; exact ⟨⟨_,rfl⟩,.inr ⟨X,hj3⟩⟩
      obtain rfl : j = len := by omega
      have q1 : ¬ (j : Int) < (j : Int) := by omega
      have HE : Aside (wr.ownsRow W1.heap.size 23 1 (.slice ad5 q5 cap5) q5 (E5.map Prod.fst) /\ Below W1.heap.size W1 wr /\ MI w N FA E5) := ⟨HR.out.1,HR.out.2.1,HR.out.2.2.done⟩; clear HR
      gi_wp2_with fail
      go_roundg (g0 - 1)
      case measure => omega
      case rel => exact ⟨ad5,q5,cap5,E5,rfl,hq5,by omega,by omega,HE⟩
end Go.Proofs.YtfljcdccepnidaaGreatDoor.Lf
