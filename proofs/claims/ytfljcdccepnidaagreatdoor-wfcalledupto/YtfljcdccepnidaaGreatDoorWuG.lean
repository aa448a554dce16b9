import Derived.Test.YtfljcdccepnidaaGreatDoorSqA
import Derived.Test.YtfljcdccepnidaaGreatDoorWuE
namespace Go.Proofs.YtfljcdccepnidaaGreatDoor
open Go.ChangeShapes Go.WideShapes Go.ChangeAt Go.RowKit Go.Lib

theorem WM.setB {H0 X : Nat} {W0 w w7 : World} {J : World -> Prop} {P : Nat -> Prop} {Wb hb xb pl : Nat} {n cap g : Nat} {xs : List Value} {a b c : Value} {ES : List (List Nd × Nat × Nat)} {vE : Value} (hc : WC H0 X W0 J P) (h : WM H0 X W0 w J P Wb hb xb pl (.slice (some ⟨g,0,none⟩) (n + 1) cap) (n + 1) (xs ++ [a,b,c]) ES vE) (a' : Value) (e7 : w.setCell ⟨g,n * 3,none⟩ a' = w7) :
    WM H0 X W0 w7 J P Wb hb xb pl (.slice (some ⟨g,0,none⟩) (n + 1) cap) (n + 1) (xs ++ [a',b,c]) ES vE /\ FRM H0 X w w7 /\ (∀ j,j ≠ g -> w7.heap[j]? = w.heap[j]?) := by
  subst e7; obtain ⟨r1,r2,r3,r4,r5,r6,r7,r8⟩ := row3 h.rowB; have hty := row_ty h.rowB (g := g) rfl; obtain ⟨cs,hcs⟩ := hty; have hlo := (row_lt h.rowB (g := g) rfl).1; have hx := hc.x; have ho : ∀ j,j ≠ g -> (w.setCell ⟨g,n * 3,none⟩ a').heap[j]? = w.heap[j]? := fun j hj => heap_setCell_other _ _ _ _ hj
  have hf : FRM H0 X w (w.setCell ⟨g,n * 3,none⟩ a') := ⟨rfl,rfl,rfl,by simp,fun j ob hj hn hcc => (ho j (fun e => by
    subst e; rw [hcs] at hj; cases hj
    rcases hcc with h3 | h3
    · omega
    exact (h3 _ _ _ rfl).2.1 rfl)).trans hj⟩
  refine ⟨⟨h.fr.trans hf,hc.js _ _ h.j (ho X (by omega)) (fun j ob hj hno => (ho j (fun e => by subst e; rw [hcs] at hj; cases hj; exact hno _ _ _ rfl)).trans hj),(ho Wb (fun e => by subst e; rw [h.box] at hcs; cases hcs)).trans h.box,r8 a',row_is h.rowE (fun j hj => ho j (fun e => by subst e; exact row_no h.rowE hcs (by decide) hj)),h.lo,h.es⟩,hf,ho⟩
theorem WM.popB {H0 X : Nat} {W0 w w7 : World} {J : World -> Prop} {P : Nat -> Prop} {Wb hb xb pl : Nat} {n cap g : Nat} {xs : List Value} {a b c : Value} {ES : List (List Nd × Nat × Nat)} {vE : Value} (hc : WC H0 X W0 J P) (h : WM H0 X W0 w J P Wb hb xb pl (.slice (some ⟨g,0,none⟩) (n + 1) cap) (n + 1) (xs ++ [a,b,c]) ES vE) (e7 : w.setCell ⟨Wb,2,none⟩ (.slice (some ⟨g,0,none⟩) n cap) = w7) :
    WM H0 X W0 w7 J P Wb hb xb pl (.slice (some ⟨g,0,none⟩) n cap) n xs ES vE /\ FRM H0 X w w7 /\ (∀ j,j ≠ Wb -> w7.heap[j]? = w.heap[j]?) := by
  subst e7; obtain ⟨r1,r2,r3,r4,r5,r6,r7,r8⟩ := row3 h.rowB; obtain ⟨f1,f2,f3,f4,f5⟩ := fld_frm (H0 := H0) (X := X) (t := 107) (row := none) (i := 2) (v := .slice (some ⟨g,0,none⟩) n cap) (Below.refl w.heap.size w) (⟨rfl,rfl,rfl,Nat.le_refl _,fun _ _ _ => rfl⟩ : w.grownBy w none) (fun g e => by cases e) (Or.inl rfl) h.box h.lo hc.x; refine ⟨⟨h.fr.trans f1,hc.js _ _ h.j f3 f4,by rw [heap_setCell_same _ Wb 2 _ _ _ f2]; rfl,row_is r1 (fun j hj => f5 j (row_lt r1 hj).2 (fun e => ?_) (by simp)),row_is h.rowE (fun j hj => f5 j (row_lt h.rowE hj).2 (fun e => ?_) (by simp)),h.lo,h.es⟩,f1,fun j hj => heap_setCell_other _ _ _ _ hj⟩
  · subst e
    exact row_no r1 h.box (by decide) hj
  subst e; exact row_no h.rowE h.box (by decide) hj
set_option maxHeartbeats 8000000 in
set_option maxRecDepth 100000 in
theorem next_raw {H0 X : Nat} {W0 : World} {J : World -> Prop} {P : Nat -> Prop} (hc : WC H0 X W0 J P) {w : World} {Wb hb xb pl : Nat} {n cap g : Nat} {xs : List Value} {ES : List (List Nd × Nat × Nat)} {vE : Value} {b o m c : Nat} {dp : Int} {lpp : Option Addr} (h : WM H0 X W0 w J P Wb hb xb pl (.slice (some ⟨g,0,none⟩) (n + 1) cap) (n + 1) (xs ++ [.slice (some ⟨b,o,none⟩) (m + 1) (c + 1),.int .i64 dp,.pointer lpp]) ES vE) (hmc : m <= c) (hn : n <= 100000000) (hm : m <= 100000000) :
    Calls Tryz.prog 75 #[.pointer (some ⟨Wb,0,none⟩)] w fun e w' => e = .returned (.tuple #[.pointer (some ⟨b,o,none⟩),.int .i64 dp,.pointer lpp]) /\ FRM H0 X w w' /\ if m = 0 then ∃ vB,WM H0 X W0 w' J P Wb hb xb pl vB n xs ES vE else WM H0 X W0 w' J P Wb hb xb pl (.slice (some ⟨g,0,none⟩) (n + 1) cap) (n + 1) (xs ++ [.slice (some ⟨b,o + 14,none⟩) m c,.int .i64 dp,.pointer lpp]) ES vE := by
  have b2 : w.cell? ⟨Wb,2,none⟩ = some (.slice (some ⟨g,0,none⟩) (n + 1) cap) := cell_of h.box 2; obtain ⟨r1,r2,r3,r4,r5,r6,r7,r8⟩ := row3 h.rowB; obtain ⟨Eb,hEb⟩ : ∃ Eb,w.heap.size = Eb := ⟨_,rfl⟩; obtain ⟨W1,hW1⟩ : ∃ W1,w.alloc (.cells #[.slice (some ⟨b,o,none⟩) (m + 1) (c + 1),.int .i64 dp,.pointer lpp] 107) = W1 := ⟨_,rfl⟩; have hb1 : Below w.heap.size w W1 := by rw [<- hW1]; exact bel1 _ _
  have hE1 : W1.heap[Eb]? = some (.cells #[.slice (some ⟨b,o,none⟩) (m + 1) (c + 1),.int .i64 dp,.pointer lpp] 107 (0,0)) := by rw [<- hW1,<- hEb]; exact heap_alloc_new _ _
  have hm1 := h.over hc hb1; obtain ⟨wd,hwd⟩ : ∃ wd,W1.drew = wd := ⟨_,rfl⟩; have hbd : Below W1.heap.size W1 wd := by rw [<- hwd]; exact ⟨rfl,rfl,rfl,Nat.le_refl _,fun _ _ => rfl⟩
  have hmd := hm1.over hc hbd; have hEd := blk_next hE1 hbd; obtain ⟨o2,ho2⟩ : ∃ o2,o2 = if c = 0 then o else o + 14 := ⟨_,rfl⟩; obtain ⟨w7,hw7⟩ : ∃ w7,wd.setCell ⟨g,n * 3,none⟩ (.slice (some ⟨b,o2,none⟩) m c) = w7 := ⟨_,rfl⟩; obtain ⟨d1,d2,d3⟩ := hmd.setB hc (.slice (some ⟨b,o2,none⟩) m c) hw7; have hgE : Eb ≠ g := fun e => by have := (row_lt h.rowB (g := g) rfl).2; omega
  have hE7 : w7.heap[Eb]? = some (.cells #[.slice (some ⟨b,o,none⟩) (m + 1) (c + 1),.int .i64 dp,.pointer lpp] 107 (0,0)) := (d3 Eb hgE).trans hEd; obtain ⟨t1,t2,t3,t4,t5,t6,t7,t8⟩ := row3 hmd.rowB; have bd2 : wd.cell? ⟨Wb,2,none⟩ = some (.slice (some ⟨g,0,none⟩) (n + 1) cap) := cell_of hmd.box 2; have b72 : w7.cell? ⟨Wb,2,none⟩ = some (.slice (some ⟨g,0,none⟩) (n + 1) cap) := cell_of d1.box 2; have f72 := fz_of d1.box 2; obtain ⟨w8,hw8⟩ : ∃ w8,w7.setCell ⟨Wb,2,none⟩ (.slice (some ⟨g,0,none⟩) n cap) = w8 := ⟨_,rfl⟩; obtain ⟨u1,u2,u3⟩ := d1.popB hc hw8; have hE8 : w8.heap[Eb]? = some (.cells #[.slice (some ⟨b,o,none⟩) (m + 1) (c + 1),.int .i64 dp,.pointer lpp] 107 (0,0)) := (u3 Eb (fun e => by have := h.box; rw [<- e] at this; have := (Array.getElem?_eq_some_iff.1 this).1; omega)).trans hE7; obtain ⟨nn,hnn⟩ : ∃ nn,n + 1 = nn := ⟨_,rfl⟩; obtain ⟨mm,hmm⟩ : ∃ mm,m + 1 = mm := ⟨_,rfl⟩; obtain ⟨cc,hcc⟩ : ∃ cc,c + 1 = cc := ⟨_,rfl⟩; rw [hnn] at b2 bd2 b72; rw [hmm,hcc] at r2 t2 hE1 hEd hE7 hE8 hW1
  generalize hPP : (fun (e : Ending) (w' : World) => e = Ending.returned (.tuple #[.pointer (some ⟨b,o,none⟩),.int .i64 dp,.pointer lpp]) /\ FRM H0 X w w' /\ if m = 0 then ∃ vB,WM H0 X W0 w' J P Wb hb xb pl vB n xs ES vE else WM H0 X W0 w' J P Wb hb xb pl (.slice (some ⟨g,0,none⟩) (n + 1) cap) (n + 1) (xs ++ [.slice (some ⟨b,o + 14,none⟩) m c,.int .i64 dp,.pointer lpp]) ES vE) = PP
  have HZ8 : Hid (m = 0 -> PP (.returned (.tuple #[.pointer (some ⟨b,o,none⟩),.int .i64 dp,.pointer lpp])) w8.drew) := fun h0 => by
    rw [<- hPP]; have hf : FRM H0 X w w8 := (((FRM.of hb1).trans (FRM.of hbd)).trans d2).trans u2; refine ⟨rfl,⟨hf.os,hf.tape,hf.output,hf.size,hf.blk⟩,?_⟩; rw [if_pos h0]; exact ⟨_,u1.over hc ⟨rfl,rfl,rfl,Nat.le_refl _,fun _ _ => rfl⟩⟩
  have HZ7 : Hid (m ≠ 0 -> PP (.returned (.tuple #[.pointer (some ⟨b,o,none⟩),.int .i64 dp,.pointer lpp])) w7.drew) := fun h0 => by
    rw [<- hPP]; have hf : FRM H0 X w w7 := ((FRM.of hb1).trans (FRM.of hbd)).trans d2; refine ⟨rfl,⟨hf.os,hf.tape,hf.output,hf.size,hf.blk⟩,?_⟩; rw [if_neg h0]; rw [ho2,if_neg (by omega)] at d1; exact d1.over hc ⟨rfl,rfl,rfl,Nat.le_refl _,fun _ _ => rfl⟩
  have HS0 : Hid (wd.cell? ⟨Wb,2,none⟩ = some (.slice (some ⟨g,0,none⟩) nn cap) /\ wd.heap[Eb]? = some (.cells #[.slice (some ⟨b,o,none⟩) mm cc,.int .i64 dp,.pointer lpp] 107 (0,0)) /\ wd.cell? ⟨g,n * 3,none⟩ = some (.slice (some ⟨b,o,none⟩) mm cc) /\ wd.frozen? ⟨g,n * 3,none⟩ = false) := ⟨bd2,hEd,t2,t5⟩; have HSl : Hid (∀ W : World,(Instr.slice 23 (.slice (some ⟨b,o,none⟩) mm cc) (some (.int .i64 1)) none none).run Tryz.prog W = .ok (.slice (some ⟨b,o2,none⟩) m c) W) := fun W => by
    have hU : Tryz.prog.underlying 23 = some (.slice 46) := Tryz.underlying23; rw [<- hmm,<- hcc,ho2]
    by_cases h0 : c = 0
    · subst h0
      obtain rfl : m = 0 := by omega
      simp [go_sem,hU]
    simp [go_sem,hU,h0]
    intro h9
    omega
  have HE7 : Hid (w7.heap[Eb]? = some (.cells #[.slice (some ⟨b,o,none⟩) mm cc,.int .i64 dp,.pointer lpp] 107 (0,0))) := hE7; have HE8 : Hid (w8.heap[Eb]? = some (.cells #[.slice (some ⟨b,o,none⟩) mm cc,.int .i64 dp,.pointer lpp] 107 (0,0))) := hE8; have e0 : w7.cell? ⟨Eb,0,none⟩ = some (.slice (some ⟨b,o,none⟩) mm cc) := cell_of hE7 0; have HWs : Hid (w.alloc (.cells #[.slice (some ⟨b,o,none⟩) mm cc,.int .i64 dp,.pointer lpp] 107) = W1 /\ w.heap.size = Eb /\ wd.setCell ⟨g,n * 3,none⟩ (.slice (some ⟨b,o2,none⟩) m c) = w7 /\ w7.setCell ⟨Wb,2,none⟩ (.slice (some ⟨g,0,none⟩) n cap) = w8) := ⟨hW1,hEb,hw7,hw8⟩; have HWd : Hid (W1.drew = wd) := hwd; have q1 : IntKind.i64.wrap ((nn : Int) - 1) = (n : Int) := by rw [IntKind.wrap_i64]; omega
  have q2 : (n : Int) < (nn : Int) := by omega
  have q3 : n < nn := by omega
  have q4 : (0 : Int) <= (n : Int) := by omega
  have q5 : n <= cap := by omega
  have q6 : (n : Int) <= (cap : Int) := by omega
  have q7 : ¬ cap = 0 := by omega
  have q8 : (0 : Int) < (mm : Int) := by omega
  have q9 : 0 < mm := by omega
  clear ho2 hPP h hc r1 r5 r6 r7 r8 hb1 hE1 hm1 hbd hmd hEd d1 d2 d3 hgE hE7 t1 t2 t3 t4 t5 t6 t7 t8 bd2 u1 u2 u3 hE8 hwd hw7 hw8 hW1 hEb; have HC : Hid (c + 1 = cc) := hcc; clear hcc
  go_enter Tryz.func75,Tryz.ntmps75
  go_upto_region 3 with fail
  rw [HWs.out.1,HWs.out.2.1]; refine AnyE.region (fun Wc => Hid (Wc.cell? ⟨Wb,2,none⟩ = some (.slice (some ⟨g,0,none⟩) nn cap) /\ Wc.heap[Eb]? = some (.cells #[.slice (some ⟨b,o,none⟩) mm cc,.int .i64 dp,.pointer lpp] 107 (0,0)) /\ Wc.cell? ⟨g,n * 3,none⟩ = some (.slice (some ⟨b,o,none⟩) mm cc) /\ Wc.frozen? ⟨g,n * 3,none⟩ = false)) 10 (by kernel_rfl) ?_; rw [HWd.out]; refine AnyE.take (i := 0) (oi := { dst := some 20,op := Op.move (Operand.tmp 0),type := 119,pos := "walk.go:100",after := #[],guard := none }) (v := .pointer (some ⟨Wb,0,none⟩)) rfl (by kernel_rfl) (by kernel_rfl) (by kernel_rfl) (by kernel_rfl) (fun _ _ _ h => h) (Or.inl ⟨by rfl,?_⟩) HS0 ?_
  · intro W _
    go_simp
  try simp only [Act.put,z0,z1,z2]
  refine AnyE.take (i := 1) (oi := { dst := some 21,op := Op.nilCheck (Operand.tmp 20),type := 0,pos := "walk.go:100",after := #[{ on := 0,ground := Ground.data }],guard := none }) (v := .pointer (some ⟨Wb,0,none⟩)) rfl (by kernel_rfl) (by kernel_rfl) (by kernel_rfl) (by kernel_rfl) (fun _ _ _ h => h) (Or.inl ⟨by rfl,?_⟩) HS0 ?_
  · intro W _
    go_simp
  try simp only [Act.put,z0,z1,z2]
  refine AnyE.take (i := 2) (oi := { dst := some 22,op := Op.fieldAddr 104 (Operand.tmp 21) 2,type := 0,pos := "walk.go:100",after := #[{ on := 1,ground := Ground.data }],guard := none }) (v := .pointer (some ⟨Wb,2,none⟩)) rfl (by kernel_rfl) (by kernel_rfl) (by kernel_rfl) (by kernel_rfl) (fun _ _ _ h => h) (Or.inl ⟨by rfl,?_⟩) HS0 ?_
  · intro W _
    go_simp
  try simp only [Act.put,z0,z1,z2]
  refine AnyE.take (i := 3) (oi := { dst := some 23,op := Op.load 101 (Operand.tmp 22),type := 101,pos := "walk.go:100",after := #[{ on := 2,ground := Ground.data }],guard := none }) (v := .slice (some ⟨g,0,none⟩) nn cap) rfl (by kernel_rfl) (by kernel_rfl) (by kernel_rfl) (by kernel_rfl) (fun _ _ _ h => h) (Or.inl ⟨by rfl,?_⟩) HS0 ?_
  · intro W hW
    have s1 := hW.out.1
    go_simp
  try simp only [Act.put,z0,z1,z2]
  refine AnyE.take (i := 4) (oi := { dst := some 24,op := Op.move (Operand.tmp 5),type := 3,pos := "walk.go:100",after := #[],guard := none }) (v := .int .i64 (n : Int)) rfl (by kernel_rfl) (by kernel_rfl) (by kernel_rfl) (by kernel_rfl) (fun _ _ _ h => h) (Or.inl ⟨by rfl,?_⟩) HS0 ?_
  · intro W _
    go_simp
  try simp only [Act.put,z0,z1,z2]
  refine AnyE.take (i := 5) (oi := { dst := some 25,op := Op.fieldAddr 107 (Operand.tmp 6) 0,type := 0,pos := "walk.go:100",after := #[],guard := none }) (v := .pointer (some ⟨Eb,0,none⟩)) rfl (by kernel_rfl) (by kernel_rfl) (by kernel_rfl) (by kernel_rfl) (fun _ _ _ h => h) (Or.inl ⟨by rfl,?_⟩) HS0 ?_
  · intro W _
    go_simp
  try simp only [Act.put,z0,z1,z2]
  refine AnyE.take (i := 6) (oi := { dst := some 26,op := Op.load 23 (Operand.tmp 25),type := 23,pos := "walk.go:100",after := #[{ on := 5,ground := Ground.data }],guard := none }) (v := .slice (some ⟨b,o,none⟩) mm cc) rfl (by kernel_rfl) (by kernel_rfl) (by kernel_rfl) (by kernel_rfl) (fun _ _ _ h => h) (Or.inl ⟨by rfl,?_⟩) HS0 ?_
  · intro W hW
    have s2 : W.cell? ⟨Eb,0,none⟩ = some (.slice (some ⟨b,o,none⟩) mm cc) := cell_of hW.out.2.1 0
    go_simp
  try simp only [Act.put,z0,z1,z2]
  refine AnyE.take (i := 7) (oi := { dst := some 27,op := Op.slice 23 (Operand.tmp 26) (some (Operand.const (Value.int IntKind.i64 1))) none none,type := 23,pos := "walk.go:100",after := #[{ on := 6,ground := Ground.data }],guard := none }) (v := .slice (some ⟨b,o2,none⟩) m c) rfl (by kernel_rfl) (by kernel_rfl) (by kernel_rfl) (by kernel_rfl) (fun _ _ _ h => h) (Or.inl ⟨by rfl,?_⟩) HS0 ?_
  · intro W hW
    have s9 := HSl.out W
    go_simp
  try simp only [Act.put,z0,z1,z2]
  refine AnyE.one (i := 8) (o := { dst := some 28,op := Op.indexAddr 101 (Operand.tmp 23) (Operand.tmp 24),type := 0,pos := "walk.go:100",after := #[{ on := 3,ground := Ground.data },{ on := 4,ground := Ground.data },{ on := 0,ground := Ground.phase },{ on := 1,ground := Ground.phase },{ on := 2,ground := Ground.phase },{ on := 3,ground := Ground.phase },{ on := 4,ground := Ground.phase },{ on := 5,ground := Ground.phase },{ on := 6,ground := Ground.phase },{ on := 7,ground := Ground.phase }],guard := none }) (by kernel_rfl) rfl (fun K hK => ?_)
  go_simp
  refine hK.out _ _ (fun _ => HS0) ?_; clear hK K
  try simp only [Act.put,z0,z1,z2]
  refine AnyE.one (i := 9) (o := { dst := some 29,op := Op.fieldAddr 107 (Operand.tmp 28) 0,type := 0,pos := "walk.go:100",after := #[{ on := 8,ground := Ground.data },{ on := 0,ground := Ground.phase },{ on := 1,ground := Ground.phase },{ on := 2,ground := Ground.phase },{ on := 3,ground := Ground.phase },{ on := 4,ground := Ground.phase },{ on := 5,ground := Ground.phase },{ on := 6,ground := Ground.phase },{ on := 7,ground := Ground.phase }],guard := none }) (by kernel_rfl) rfl (fun K hK => ?_)
  go_simp
  refine hK.out _ _ (fun _ => HS0) ?_; clear hK K
  try simp only [Act.put,z0,z1,z2]
  refine AnyE.one (i := 10) (o := { dst := none,op := Op.store 23 (Operand.tmp 29) (Operand.tmp 27),type := 0,pos := "walk.go:100",after := #[{ on := 9,ground := Ground.data },{ on := 7,ground := Ground.data },{ on := 0,ground := Ground.phase },{ on := 1,ground := Ground.phase },{ on := 2,ground := Ground.phase },{ on := 3,ground := Ground.phase },{ on := 4,ground := Ground.phase },{ on := 5,ground := Ground.phase },{ on := 6,ground := Ground.phase },{ on := 7,ground := Ground.phase }],guard := none }) (by kernel_rfl) rfl (fun K hK => ?_); have s3 := HS0.out.2.2.1; have s4 := HS0.out.2.2.2
  go_simp
  refine hK.out _ _ (fun h => absurd rfl h) (AnyE.done (by kernel_rfl) ?_ _); clear hK K s3 s4
  try simp only [Act.put,z0,z1,z2]
  rw [HWs.out.2.2.1]; clear HS0 HSl b2 r2 r3 r4
  by_cases h0 : m = 0
  · have p1 : ((mm : Int) == 1) = true := by simp; omega
    have p2 : (mm : Int) = 1 := by omega
    have HZ : Hid (PP (.returned (.tuple #[.pointer (some ⟨b,o,none⟩),.int .i64 dp,.pointer lpp])) w8.drew) := HZ8.out h0; have HE9 : Hid (w8.drew.heap[Eb]? = some (.cells #[.slice (some ⟨b,o,none⟩) mm cc,.int .i64 dp,.pointer lpp] 107 (0,0))) := HE8.out; clear h0 hmm HZ8 HZ7 HE7 HE8
    go_upto_region 6 with fail
    rw [HWs.out.2.2.2]; clear e0 b72 f72 HWs HWd; refine wp_region_held_drew (S := (fun Wc => Hid (Wc.heap[Eb]? = some (.cells #[.slice (some ⟨b,o,none⟩) mm cc,.int .i64 dp,.pointer lpp] 107 (0,0))))) (by kernel_rfl) HE9 (fun hHeld => ?_); refine sq_of [] [0,1,2,3,4,5,6,7,8,9] (by kernel_rfl) hHeld ?_
    repeat (first | (refine sq_skip (by rfl) (by rfl) ?_; simp only [Act.put,z0,z1,z2]) | (refine sq_op (v := ?_) (by rfl) (by rfl) (by rfl) ?_ ?_; rotate_left; (focus (intro W hW; have zz0 := (cell_of hW.out 0 : W.cell? ⟨Eb,0,none⟩ = some (.slice (some ⟨b,o,none⟩) mm cc)); have zz1 := (cell_of hW.out 1 : W.cell? ⟨Eb,1,none⟩ = some (.int .i64 dp)); have zz2 := (cell_of hW.out 2 : W.cell? ⟨Eb,2,none⟩ = some (.pointer lpp)); go_simp <;> with_reducible rfl)); simp only [Act.put,z0,z1,z2]))
    refine sq_end (fun _ => ?_); clear hHeld
    go_wp2_with fail
    exact ⟨rfl,_,by simp [results,Tryz.results75,go_sem],HZ.out⟩
  have p1 : ((mm : Int) == 1) = false := by simp; omega
  have p2 : ¬ (mm : Int) = 1 := by omega
  have HZ : Hid (PP (.returned (.tuple #[.pointer (some ⟨b,o,none⟩),.int .i64 dp,.pointer lpp])) w7.drew) := HZ7.out h0; have HE9 : Hid (w7.drew.heap[Eb]? = some (.cells #[.slice (some ⟨b,o,none⟩) mm cc,.int .i64 dp,.pointer lpp] 107 (0,0))) := HE7.out; clear h0 hmm HZ8 HZ7 HE7 HE8
  go_upto_region 6 with fail
  clear e0 b72 f72 HWs HWd; refine wp_region_held_drew (S := (fun Wc => Hid (Wc.heap[Eb]? = some (.cells #[.slice (some ⟨b,o,none⟩) mm cc,.int .i64 dp,.pointer lpp] 107 (0,0))))) (by kernel_rfl) HE9 (fun hHeld => ?_); refine sq_of [] [0,1,2,3,4,5,6,7,8,9] (by kernel_rfl) hHeld ?_
  repeat (first | (refine sq_skip (by rfl) (by rfl) ?_; simp only [Act.put,z0,z1,z2]) | (refine sq_op (v := ?_) (by rfl) (by rfl) (by rfl) ?_ ?_; rotate_left; (focus (intro W hW; have zz0 := (cell_of hW.out 0 : W.cell? ⟨Eb,0,none⟩ = some (.slice (some ⟨b,o,none⟩) mm cc)); have zz1 := (cell_of hW.out 1 : W.cell? ⟨Eb,1,none⟩ = some (.int .i64 dp)); have zz2 := (cell_of hW.out 2 : W.cell? ⟨Eb,2,none⟩ = some (.pointer lpp)); go_simp <;> with_reducible rfl)); simp only [Act.put,z0,z1,z2]))
  refine sq_end (fun _ => ?_); clear hHeld
  go_wp2_with fail
  exact ⟨rfl,_,by simp [results,Tryz.results75,go_sem],HZ.out⟩
theorem next_any {H0 X : Nat} {W0 : World} {J : World -> Prop} {P : Nat -> Prop} (hc : WC H0 X W0 J P) {w : World} {N Wb hb xb pl : Nat} {S : List Sd} {Bs : List (List Sd)} {dp : Nat} {lp : List ByteArray} {BL : List BEnt} (h : WS H0 X W0 w J P N Wb hb xb pl (⟨S :: Bs,dp,lp⟩ :: BL)) (hn : BL.length <= 100000000) (hm : Bs.length <= 100000000) :
    Calls Tryz.prog 75 #[.pointer (some ⟨Wb,0,none⟩)] w fun e w' => ∃ b o lpp,e = .returned (.tuple #[.pointer (some ⟨b,o,none⟩),.int .i64 (dp : Int),.pointer lpp]) /\ FRM H0 X w w' /\ SA W0 P N S b o /\ LPS w' lp lpp /\ WS H0 X W0 w' J P N Wb hb xb pl (ent Bs dp lp BL) := by
  obtain ⟨cb,vB,vE,hw,c,cr,rfl,⟨v,lpp,n,rfl,hB,_,hlp⟩,hbr⟩ := h; obtain ⟨b,o,c2,rfl,hSA,hrest,hcap⟩ := hB.first; rw [List.reverse_cons,List.flatten_append,List.length_cons] at hw; simp only [List.flatten_cons,List.flatten_nil,List.append_nil] at hw; obtain ⟨aB,cB,rfl⟩ := row_form hw.rowB; obtain ⟨g,rfl⟩ := row_some hw.rowB; refine (next_raw hc hw hcap hn hm).mono ?_; rintro e w' ⟨rfl,hf,hh⟩; have hlk : ∀ lp lpp,LPS w lp lpp -> LPS w' lp lpp := fun lp lpp h => WM.lps hc hw.j hf h
  refine ⟨b,o,lpp,rfl,hf,hSA,hlk _ _ hlp,?_⟩; unfold ent
  by_cases h0 : Bs.length = 0
  · rw [if_pos h0] at hh
    rw [if_pos h0]; obtain ⟨vB,h2⟩ := hh; exact ⟨cr,vB,vE,h2,hbr.keep hlk⟩
  rw [if_neg h0] at hh; rw [if_neg h0]; refine ⟨[.slice (some ⟨b,o + 14,none⟩) Bs.length c2,.int .i64 (dp : Int),.pointer lpp] :: cr,.slice (some ⟨g,0,none⟩) (BL.length + 1) cB,vE,?_,_,cr,rfl,⟨_,lpp,n,rfl,hrest (by omega),Nat.pos_of_ne_zero h0,hlk _ _ hlp⟩,hbr.keep hlk⟩
  simpa using hh
end Go.Proofs.YtfljcdccepnidaaGreatDoor
namespace Go.Proofs.YtfljcdccepnidaaGreatDoor
open Go.ChangeShapes Go.WideShapes Go.ChangeAt Go.RowKit Go.Lib

def thT (dp : Nat) (lp : List ByteArray) (d : Sd) : Th := ⟨1,d.k,d.s,0,d.lo,d.hi,dp,false,lp⟩
def oE (lp : List ByteArray) (L : List Nd) : List Th := if (L.headD nd0).k = 0 then [] else thE lp L
def sth (dp : Nat) (lp : List ByteArray) (d : Sd) : List Th := thT dp lp d :: (oE lp d.A ++ oE lp d.E)
def lpI (d : Sd) (lp : List ByteArray) : List ByteArray := if d.k = 4 then d.s :: lp else lp
def cen (n dp : Nat) (lp : List ByteArray) (st : List (Nat × Nat × List ByteArray)) : List (Nat × Nat × List ByteArray) := if n = 0 then st else (n,dp,lp) :: st
def thS : List Sd -> List (Nat × Nat × List ByteArray) -> List Th
  | [],_ => []
  | _ :: _,[] => []
  | d :: r,(c,dp,lp) :: st => sth dp lp d ++ thS r (cen d.mT (dp + 1) (lpI d lp) (cen d.mE (dp + 1) lp (cen (c - 1) dp lp st)))
def bflat (BL : List BEnt) : List Sd := (BL.map (fun e => e.Bs.flatten)).flatten
def bcnt (BL : List BEnt) : List (Nat × Nat × List ByteArray) := BL.map (fun e => (e.Bs.length,e.dp,e.lp))
def remT (BL : List BEnt) : List Th := thS (bflat BL) (bcnt BL)
theorem bflat_ent (Bs : List (List Sd)) (dp : Nat) (lp : List ByteArray) (BL : List BEnt) : bflat (ent Bs dp lp BL) = Bs.flatten ++ bflat BL := by
  unfold ent
  by_cases h : Bs.length = 0
  · rw [if_pos h,List.eq_nil_of_length_eq_zero h]; rfl
  rw [if_neg h]; rfl
theorem bcnt_ent (Bs : List (List Sd)) (dp : Nat) (lp : List ByteArray) (BL : List BEnt) : bcnt (ent Bs dp lp BL) = cen Bs.length dp lp (bcnt BL) := by
  unfold ent cen
  by_cases h : Bs.length = 0
  · rw [if_pos h,if_pos h]
  rw [if_neg h,if_neg h]; rfl
theorem remT_step {d : Sd} {BT BE Bs : List (List Sd)} {S : List Sd} (dp : Nat) (lp : List ByteArray) (BL : List BEnt) (hS : S = d :: (BT.flatten ++ BE.flatten)) (h1 : d.mT = BT.length) (h2 : d.mE = BE.length) : remT (⟨S :: Bs,dp,lp⟩ :: BL) = sth dp lp d ++ remT (ent BT (dp + 1) (lpI d lp) (ent BE (dp + 1) lp (ent Bs dp lp BL))) := by
  subst hS; unfold remT; rw [bflat_ent,bflat_ent,bflat_ent,bcnt_ent,bcnt_ent,bcnt_ent]; have e1 : bflat (⟨(d :: (BT.flatten ++ BE.flatten)) :: Bs,dp,lp⟩ :: BL) = d :: (BT.flatten ++ (BE.flatten ++ (Bs.flatten ++ bflat BL))) := by simp [bflat]
  have e2 : bcnt (⟨(d :: (BT.flatten ++ BE.flatten)) :: Bs,dp,lp⟩ :: BL) = (Bs.length + 1,dp,lp) :: bcnt BL := by simp [bcnt]
  rw [e1,e2,thS,h1,h2]
  simp
theorem bflat_step {d : Sd} {BT BE Bs : List (List Sd)} {S : List Sd} (dp : Nat) (lp : List ByteArray) (BL : List BEnt) (hS : S = d :: (BT.flatten ++ BE.flatten)) : bflat (⟨S :: Bs,dp,lp⟩ :: BL) = d :: bflat (ent BT (dp + 1) (lpI d lp) (ent BE (dp + 1) lp (ent Bs dp lp BL))) := by
  subst hS; rw [bflat_ent,bflat_ent,bflat_ent]
  simp [bflat]
theorem thE_len (lp : List ByteArray) (L : List Nd) : (thE lp L).length = L.length := by
  cases L with
  | nil => rfl
  | cons d r => simp [thE]
theorem oE_len (lp : List ByteArray) (L : List Nd) : (oE lp L).length <= L.length := by
  unfold oE
  split
  · simp
  rw [thE_len]; exact Nat.le_refl _
theorem OUT.next {vio : Nat -> Th -> Bool} {p q : Nat} {A B : List Th} {e : Ending} {ok : Prop} (hA : fv vio p A = none) (hq : p + A.length = q) (h : OUT vio q B e ok) : OUT vio p (A ++ B) e ok := by
  subst hq
  rcases h with ⟨h1,h2,h3⟩ | ⟨j,a1,a2,a3,dp,tp,a6,h1,h2⟩
  · exact Or.inl ⟨by rw [fv_app,hA]; exact h1,h2,h3⟩
  exact Or.inr ⟨j,a1,a2,a3,dp,tp,a6,by rw [fv_app,hA]; exact h1,h2⟩
theorem OUT.left {vio : Nat -> Th -> Bool} {p j : Nat} {A : List Th} (B : List Th) {e : Ending} (ok : Prop) {a1 a2 a3 : Option Addr} {dp : Int} {tp : Bool} {a6 : Option Addr} (hA : fv vio p A = some j) (he : e = .panicked [{ v := .iface 87 (.agg (tcs (j : Int) a1 a2 a3 dp tp a6)),recovered := false }]) : OUT vio p (A ++ B) e ok := Or.inr ⟨j,a1,a2,a3,dp,tp,a6,by rw [fv_app,hA],he⟩
def VS (H0 X : Nat) (W0 : World) (J : World -> Prop) (P : Nat -> Prop) (N hb xb : Nat) (vio : Nat -> Th -> Bool) : Prop := ∀ (w : World) (i : Nat) (d : Sd) (r : List Sd) (b o dp : Nat) (lp : List ByteArray) (lpp : Option Addr),NB d.s -> FRM H0 X W0 w -> J w -> SA w P N (d :: r) b o -> LPS w lp lpp -> Calls Tryz.prog 50 #[.agg (tcs (i : Int) none (some ⟨b,o,none⟩) none (dp : Int) false lpp),.pointer (some ⟨hb,0,none⟩),.pointer (some ⟨xb,0,none⟩)] w fun e w' => e = vans (vio i (thT dp lp d)) (tcs (i : Int) none (some ⟨b,o,none⟩) none (dp : Int) false lpp) /\ OTH X w w' /\ J w'
theorem tellS_any {H0 X : Nat} {W0 : World} {J : World -> Prop} {P : Nat -> Prop} (hc : WC H0 X W0 J P) {vio : Nat -> Th -> Bool} {w : World} {N Wb hb xb pl : Nat} (hv : VS H0 X W0 J P N hb xb vio) {BL : List BEnt} (h : WS H0 X W0 w J P N Wb hb xb pl BL) {d : Sd} {r : List Sd} {b o : Nat} (dp : Nat) {lp : List ByteArray} {lpp : Option Addr} (hE : SA W0 P N (d :: r) b o) (hlp : LPS w lp lpp) (hpl : pl <= 100000000) (hnb : NB d.s) :
    Calls Tryz.prog 76 #[.pointer (some ⟨Wb,0,none⟩),.agg (tcs 0 none (some ⟨b,o,none⟩) none (dp : Int) false lpp)] w fun e w' => e = vans (vio pl (thT dp lp d)) (tcs (pl : Int) none (some ⟨b,o,none⟩) none (dp : Int) false lpp) /\ WS H0 X W0 w' J P N Wb hb xb (pl + 1) BL /\ FRM H0 X w w' := by
  obtain ⟨cb,vB,vE,h,hbr⟩ := h; have hne := h.ne hc; refine (tell_any (vio pl (thT dp lp d)) (pl : Int) none (some ⟨b,o,none⟩) none (dp : Int) false lpp hb xb X Wb vB vE w J (by rw [IntKind.wrap_i64]; omega) h.box hne.1 hne.2 (fun w' ho => ?_)).mono (fun e w' hr => ?_)
  · have hf : FRM H0 X w w' := FRM.ot2 (OT2.right ho) h.box h.lo
    have hj : J w' := hc.js w w' h.j (ho.block X hne.2 hne.1.symm) (fun j ob hj hno => (ho.block j (Array.getElem?_eq_some_iff.1 hj).1 (fun e => by subst e; rw [h.box] at hj; cases hj; exact hno _ _ _ rfl)).trans hj); exact hv w' pl d r b o dp lp lpp hnb (h.fr.trans hf) hj (hE.keep ((h.fr.trans hf).keepP hc.p)) (WM.lps hc h.j hf hlp)
  obtain ⟨r1,r2,r3,r4⟩ := hr; have hf := FRM.ot2 r2 h.box h.lo; exact ⟨r1,⟨cb,vB,vE,h.told hc r2 r3 r4,hbr.keep (fun lp lpp h5 => WM.lps hc h.j hf h5)⟩,hf⟩
set_option maxHeartbeats 8000000 in
set_option maxRecDepth 100000 in
theorem wexpr0_any {H0 X : Nat} {W0 : World} {J : World -> Prop} {P : Nat -> Prop} (hc : WC H0 X W0 J P) {vio : Nat -> Th -> Bool} {w : World} {N Wb hb xb pl : Nat} (hv : VE H0 X W0 J P hb xb vio) {BL : List BEnt} (h : WS H0 X W0 w J P N Wb hb xb pl BL) {L : List Nd} {b o : Nat} {lp : List ByteArray} {lpp : Option Addr} (hE : EA W0 P L b o) (hlp : LPS w lp lpp) (hL : L.length <= 1048576) (hN : NMx L) (hpl : pl + L.length <= 100000000) :
    Calls Tryz.prog 77 #[.pointer (some ⟨Wb,0,none⟩),.pointer (some ⟨b,o,none⟩),.pointer lpp] w fun e w' => OUT vio pl (oE lp L) e (WS H0 X W0 w' J P N Wb hb xb (pl + (oE lp L).length) BL) /\ FRM H0 X w w' /\ J w' := by
  obtain ⟨cb,vB,vE,h,hbr⟩ := h
  by_cases hk : (L.headD nd0).k = 0
  · obtain ⟨n,v0,v1,v2,v3,hPb,c0,c1,c2,c3,hRE⟩ := h.ea hc hE
    have hv0 : v0 = .int .i64 0 := by
      cases n with
      | zero => exact hRE.elim
      | succ n =>
        obtain ⟨k,x,s,ad,cap,Ls,e1,e2,_⟩ := hRE; cases e2; subst e1; simp only [List.headD_cons] at hk; rw [hk]
    subst hv0
    generalize hPP : (fun (e : Ending) (w' : World) => OUT vio pl (oE lp L) e (WS H0 X W0 w' J P N Wb hb xb (pl + (oE lp L).length) BL) /\ FRM H0 X w w' /\ J w') = PP
    have HZ : Hid (PP (.returned (.tuple #[])) w) := by
      rw [<- hPP]; have e1 : oE lp L = [] := by unfold oE; rw [if_pos hk]
      rw [e1]; exact ⟨Or.inl ⟨rfl,rfl,cb,vB,vE,h,hbr⟩,FRM.refl _ _ _,h.j⟩
    clear hPP h hbr hc hv hE hlp hRE hPb c1 c2 c3 hk hN
    go_enter Tryz.func77,Tryz.ntmps77
    go_wp2_with fail
    first | exact HZ.out | (go_end0; exact HZ.out) | exact ⟨rfl,_,results_none rfl _ _ _,HZ.out⟩
  have e1 : oE lp L = thE lp L := by unfold oE; rw [if_neg hk]
  rw [e1,thE_len]; refine (wexpr_any hc hv h hE hlp hL hN hpl hk).mono ?_; rintro e w' ⟨ho,hf,hj⟩; refine ⟨?_,hf,hj⟩
  rcases ho with ⟨h1,h2,vE2,h3⟩ | h1
  · exact Or.inl ⟨h1,h2,cb,vB,vE2,h3,hbr.keep (fun lp lpp h5 => WM.lps hc h.j hf h5)⟩
  exact Or.inr h1
end Go.Proofs.YtfljcdccepnidaaGreatDoor
