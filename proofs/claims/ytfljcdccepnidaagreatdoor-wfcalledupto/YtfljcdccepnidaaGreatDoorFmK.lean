import Derived.Test.YtfljcdccepnidaaGreatDoorSqA
import Derived.Test.YtfljcdccepnidaaGreatDoorGmA
import Derived.Test.YtfljcdccepnidaaGreatDoorFmL
namespace Go.Proofs.YtfljcdccepnidaaGreatDoor.Lf
open Go.ChangeShapes Go.WideShapes Go.ChangeAt Go.RowKit Go.Bn
attribute [local go_sem] Oper.semAt_some

theorem formName_yes (s : ByteArray) (w : World) (hs : s.size <= maxLen) : Calls Tryz.prog 101 #[.string s,.bool true] w fun e w' => e = .returned (.bool (nameB s)) /\ Below w.heap.size w w' := by
  have HN : Hid (Calls Tryz.prog 78 #[.string s] w fun e w' => e = .returned (.bool (nameB s)) /\ Below w.heap.size w w') := isName_any s w hs
  go_enter Tryz.func101,Tryz.ntmps101
  go_wp2_with fail
  refine HN.out.mono ?_; rintro e w' ⟨rfl,hb⟩; have HB : Hid (Below w.heap.size w w') := hb; clear hb
  go_wp2
  go_ret
  exact ⟨rfl,HB.out⟩
theorem formName_no (s : ByteArray) (w : World) : Calls Tryz.prog 101 #[.string s,.bool false] w fun e w' => e = .returned (.bool (decide (s.size = 0))) /\ w' = w := by
  by_cases h : s.size = 0
  · rw [decide_eq_true h]
    have e0 := empty_yes s h
    go_enter Tryz.func101,Tryz.ntmps101
    go_wp2
    go_ret
    exact ⟨rfl,rfl⟩
  rw [decide_eq_false h]; have e0 := empty_no s h
  go_enter Tryz.func101,Tryz.ntmps101
  go_wp2
  go_ret
  exact ⟨rfl,rfl⟩
theorem allE_any (ad : Option Addr) (n c : Nat) (w : World) : Calls Tryz.prog 105 #[.slice ad n c,.func (.func 106) #[] #[]] w fun e w' => e = .returned (.func (.func 107) #[] #[.pointer (some ⟨w.heap.size,0,none⟩),.pointer (some ⟨w.heap.size + 1,0,none⟩)]) /\ w' = (w.alloc (.cells #[.slice ad n c] 41)).alloc (.cells #[.func (.func 106) #[] #[]] 150) := by
  go_enter Tryz.func105,Tryz.ntmps105
  go_wp2
  go_ret
  exact ⟨rfl,rfl⟩
def TBL (GB : Nat) (W : World) : Prop := ∀ kn : Nat,1 <= kn -> kn <= 26 -> W.cell? ⟨GB,kn * 3 + 1,none⟩ = some (.int .i64 (prt (kn : Int)))
theorem res_c1 {P : Program} {fn : Func} {p : Tmp} {ty : TypeId} (h : fn.results = #[.cell p ty]) (tmps : Array Value) (w : World) (a : Addr) (x : Value)
    (hp : tmps.getD p undef = .pointer (some a)) (hx : (loadVar ty a).run P w = .ok x w) : (results fn tmps).run P w = .ok x w := by
  simp only [results,h]
  simp [Sem.run_bind,Result.andThen]
  rw [show tmps[p]?.getD undef = tmps.getD p undef by simp,hp]
  simp [asAddr,hx]
set_option maxRecDepth 100000 in
set_option maxHeartbeats 16000000 in
theorem formExpr_any (w0 : World) (m : Nat) (k x : Int) (s : ByteArray) (ad : Option Addr) (len cap : Nat) (W : World) (hex : EX w0 (m + 1) [.int .i64 k,.int .u64 x,.string s,.slice ad len cap]) (hW : Below w0.heap.size w0 W) (hcs : CS w0 m (.slice ad len cap) <= 40000000) (hT : TBL 1 W) (hGB : 1 < W.heap.size) : Calls Tryz.prog 104 #[.agg #[.int .i64 k,.int .u64 x,.string s,.slice ad len cap]] W (BP (FE w0 (m + 1) [.int .i64 k,.int .u64 x,.string s,.slice ad len cap]) W) := by
  obtain ⟨W5,hW5⟩ : ∃ W5,((((W.alloc (.cells #[.int .i64 k,.int .u64 x,.string s,.slice ad len cap] 43)).alloc (.cells #[.bool false] 4)).alloc (.cells #[.int .i64 k,.int .u64 x,.string s,.slice ad len cap] 43)).alloc (.cells #[.slice (some ⟨W.heap.size + 1 + 1,0,none⟩) 1 1] 41)).alloc (.cells #[.func (.func 106) #[] #[]] 150) = W5 := ⟨_,rfl⟩; have HW5 : Hid (Below W.heap.size W W5 /\ W5.heap.size = W.heap.size + 5 /\ W5.heap[W.heap.size + 1]? = some (.cells #[.bool false] 4 (0,0)) /\ W5.heap[W.heap.size + 1 + 1]? = some (.cells #[.int .i64 k,.int .u64 x,.string s,.slice ad len cap] 43 (0,0)) /\ W5.heap[W.heap.size + 1 + 1 + 1]? = some (.cells #[.slice (some ⟨W.heap.size + 1 + 1,0,none⟩) 1 1] 41 (0,0)) /\ W5.heap[W.heap.size + 1 + 1 + 1 + 1]? = some (.cells #[.func (.func 106) #[] #[]] 150 (0,0))) := by
    have b1 := lbel W (.cells #[.int .i64 k,.int .u64 x,.string s,.slice ad len cap] 43); have s1 : (W.alloc (.cells #[.int .i64 k,.int .u64 x,.string s,.slice ad len cap] 43)).heap.size = W.heap.size + 1 := by simp
    generalize W.alloc (.cells #[.int .i64 k,.int .u64 x,.string s,.slice ad len cap] 43) = x1 at *
    have b2 := lbel x1 (.cells #[.bool false] 4); have n2 := heap_alloc_new x1 (.cells #[.bool false] 4); have s2 : (x1.alloc (.cells #[.bool false] 4)).heap.size = x1.heap.size + 1 := by simp
    generalize x1.alloc (.cells #[.bool false] 4) = x2 at *
    have b3 := lbel x2 (.cells #[.int .i64 k,.int .u64 x,.string s,.slice ad len cap] 43); have n3 := heap_alloc_new x2 (.cells #[.int .i64 k,.int .u64 x,.string s,.slice ad len cap] 43); have s3 : (x2.alloc (.cells #[.int .i64 k,.int .u64 x,.string s,.slice ad len cap] 43)).heap.size = x2.heap.size + 1 := by simp
    generalize x2.alloc (.cells #[.int .i64 k,.int .u64 x,.string s,.slice ad len cap] 43) = x3 at *
    have b4 := lbel x3 (.cells #[.slice (some ⟨W.heap.size + 1 + 1,0,none⟩) 1 1] 41); have n4 := heap_alloc_new x3 (.cells #[.slice (some ⟨W.heap.size + 1 + 1,0,none⟩) 1 1] 41); have s4 : (x3.alloc (.cells #[.slice (some ⟨W.heap.size + 1 + 1,0,none⟩) 1 1] 41)).heap.size = x3.heap.size + 1 := by simp
    generalize x3.alloc (.cells #[.slice (some ⟨W.heap.size + 1 + 1,0,none⟩) 1 1] 41) = x4 at *
    have b5 := lbel x4 (.cells #[.func (.func 106) #[] #[]] 150); have n5 := heap_alloc_new x4 (.cells #[.func (.func 106) #[] #[]] 150); have s5 : (x4.alloc (.cells #[.func (.func 106) #[] #[]] 150)).heap.size = x4.heap.size + 1 := by simp
    rw [hW5] at b5 n5 s5; rw [s1] at n2; rw [s2,s1] at n3; rw [s3,s2,s1] at n4; rw [s4,s3,s2,s1] at n5; exact ⟨bnext (bnext (bnext (bnext b1 b2) b3) b4) b5,by omega,(b5.block _ (by omega)).trans ((b4.block _ (by omega)).trans ((b3.block _ (by omega)).trans n2)),(b5.block _ (by omega)).trans ((b4.block _ (by omega)).trans n3),(b5.block _ (by omega)).trans n4,n5⟩
  have HT : Hid (TBL 1 W /\ 1 < W.heap.size) := ⟨hT,hGB⟩; obtain ⟨FA,hFA⟩ : ∃ FA,FE w0 (m + 1) [.int .i64 k,.int .u64 x,.string s,.slice ad len cap] = FA := ⟨_,rfl⟩; have HLI : Hid (LI W5 FA [(.slice (some ⟨W.heap.size + 1 + 1,0,none⟩) 1 1,m + 1)] /\ wtE W5 [(.slice (some ⟨W.heap.size + 1 + 1,0,none⟩) 1 1,m + 1)] <= 50000000) := by
    obtain ⟨h1,h2⟩ := LI.root hex (bnext hW HW5.out.1) HW5.out.2.2.2.1; rw [hFA] at h1; exact ⟨h1,by omega⟩
  rw [hFA]; have HW5e : Hid (((((W.alloc (.cells #[.int .i64 k,.int .u64 x,.string s,.slice ad len cap] 43)).alloc (.cells #[.bool false] 4)).alloc (.cells #[.int .i64 k,.int .u64 x,.string s,.slice ad len cap] 43)).alloc (.cells #[.slice (some ⟨W.heap.size + 1 + 1,0,none⟩) 1 1] 41)).alloc (.cells #[.func (.func 106) #[] #[]] 150) = W5) := hW5; clear hex hW hcs hT hGB hFA hW5; refine (callsIn_wide (n := 9)).1 ?_; refine callsIn_of_wp_marks Tryz.func104 rfl trivial ?_ rfl; simp only [Tryz.ntmps104,List.size_toArray,List.length_cons,List.length_nil,Nat.reduceAdd,Nat.reduceSub,Array.replicate_succ,Array.replicate_zero,List.push_toArray,List.append_toArray,List.nil_append,List.cons_append]
  gi_wp2_with fail
  refine ⟨trivial,(callsIn_wide.2 (allE_any _ _ _ _)).mono ?_⟩; rintro e w' ⟨rfl,hw'⟩; subst hw'
  gi_wp2_with fail
  rw [HW5e.out]; clear HW5e; have hs5 := HW5.out.2.1; refine range_all (n := 9) (by omega) (gf := 107) (lb := #[.pointer (some ⟨W.heap.size + 1 + 1 + 1,0,none⟩),.pointer (some ⟨W.heap.size + 1 + 1 + 1 + 1,0,none⟩)]) rfl (enters_of Tryz.func107 (by kernel_rfl) rfl) (encs := encN (w := W5) (FA := FA)) (fun _ => rfl) (G := goodN) (Fin := FA)
    (allE_it 8 (by omega) W5 FA _ _ _ _ _ _ (lc HW5.out.2.2.2.2.1 0) (lc HW5.out.2.2.2.2.2 0) (by omega) (by omega) HLI.out.1 HLI.out.2)
    (fun X => { tmps := #[.agg #[.int .i64 k,.int .u64 x,.string s,.slice ad len cap],.pointer (some ⟨W.heap.size,0,none⟩),.pointer (some ⟨W.heap.size + 1,0,none⟩),.pointer (some ⟨X.1.1.1,X.1.1.2,none⟩),.agg #[.int .i64 k,.int .u64 x,.string s,.slice ad len cap],.slice (some ⟨W.heap.size + 1 + 1,0,none⟩) 1 1,.func (.func 107) #[] #[.pointer (some ⟨W.heap.size + 1 + 1 + 1,0,none⟩),.pointer (some ⟨W.heap.size + 1 + 1 + 1 + 1,0,none⟩)],.pointer (some ⟨X.1.1.1,X.1.1.2,none⟩),undef,undef,undef,undef,undef,undef,undef,undef,undef,undef,undef,undef,undef,undef,undef,undef,undef,undef,undef,undef,undef,undef,undef,undef,undef,undef,undef,undef,undef,undef,undef,undef,undef,undef,undef,undef,undef,undef,undef,undef,undef,undef,undef,undef,undef,undef,undef,undef,undef,undef,undef,undef,undef,undef,undef,undef,undef,undef,undef,undef,undef],defers := [] })
    (fun W' => Below W.heap.size W W' /\ W'.heap[W.heap.size + 1]? = some (.cells #[.bool false] 4 (0,0)) /\ ¬ FA) ?hR ?assign ?body ?done ?stop
  case hR =>
    rintro W' o ⟨h1,h2,h3⟩; exact ⟨put_below h1 (by omega) o,(World.putObj_heap_other (by omega)).trans h2,h3⟩
  case assign =>
    intro l X W' K hK; simp only [encN]
    gi_wp2
    exact hK
  case body =>
    obtain ⟨xo,hxo⟩ : ∃ xo,xo = x := ⟨_,rfl⟩; obtain ⟨so,hso⟩ : ∃ so,so = s := ⟨_,rfl⟩; rw [<- hxo,<- hso]; clear hxo hso; intro l X Wb hBb hlt1 hd1 hl1; have HR1 : Hid (Wb.heap[W.heap.size + 1]? = some (.cells #[.bool false] 4 (0,0)) /\ Below W.heap.size W Wb) := ⟨(hBb.block _ (by omega)).trans HW5.out.2.2.1,bnext HW5.out.1 hBb⟩; obtain ⟨⟨⟨b,o⟩,kx,x,s,sl⟩,hb,h0,h1,h2,h3,hs,⟨aS,nS,cS,hsl⟩,hfa⟩ := X; have hsl : sl = .slice aS nS cS := hsl; subst hsl; have HB : Hid (b < W5.heap.size /\ Below W5.heap.size W5 Wb) := ⟨hb,hBb⟩; have y0 : Wb.cell? ⟨b,o,none⟩ = some (.int .i64 kx) := (hBb.cell (p := ⟨b,o,none⟩) hb).trans h0; have y1 : Wb.cell? ⟨b,o + 1,none⟩ = some (.int .u64 x) := (hBb.cell (p := ⟨b,o + 1,none⟩) hb).trans h1; have y2 : Wb.cell? ⟨b,o + 2,none⟩ = some (.string s) := (hBb.cell (p := ⟨b,o + 2,none⟩) hb).trans h2; have y3 : Wb.cell? ⟨b,o + 3,none⟩ = some (.slice aS nS cS) := (hBb.cell (p := ⟨b,o + 3,none⟩) hb).trans h3; have HFa : Hid (FA -> okE kx x s (.slice aS nS cS)) := hfa; have hTb : TBL 1 Wb := fun kn q1 q2 => (HR1.out.2.cell (p := ⟨1,kn * 3 + 1,none⟩) HT.out.2).trans (HT.out.1 kn q1 q2)
    have HTb : Hid (TBL 1 Wb /\ 1 < Wb.heap.size) := ⟨hTb,Nat.lt_of_lt_of_le HT.out.2 HR1.out.2.size⟩
    show Code.wpIn (Fence.wide.inRound l) _ Tryz.prog _ (RPost W5.heap.size (okE kx x s (.slice aS nS cS)) _ Wb) { tmps := #[.agg #[.int .i64 k,.int .u64 xo,.string so,.slice ad len cap],.pointer (some ⟨W.heap.size,0,none⟩),.pointer (some ⟨W.heap.size + 1,0,none⟩),.pointer (some ⟨b,o,none⟩),.agg #[.int .i64 k,.int .u64 xo,.string so,.slice ad len cap],.slice (some ⟨W.heap.size + 1 + 1,0,none⟩) 1 1,.func (.func 107) #[] #[.pointer (some ⟨W.heap.size + 1 + 1 + 1,0,none⟩),.pointer (some ⟨W.heap.size + 1 + 1 + 1 + 1,0,none⟩)],.pointer (some ⟨b,o,none⟩),undef,undef,undef,undef,undef,undef,undef,undef,undef,undef,undef,undef,undef,undef,undef,undef,undef,undef,undef,undef,undef,undef,undef,undef,undef,undef,undef,undef,undef,undef,undef,undef,undef,undef,undef,undef,undef,undef,undef,undef,undef,undef,undef,undef,undef,undef,undef,undef,undef,undef,undef,undef,undef,undef,undef,undef,undef,undef,undef,undef,undef],defers := [] } Wb
    clear h0 h1 h2 h3 hb hBb hfa hTb; have HEnd : Hid (∀ Wc,Below Wb.heap.size Wb Wc -> ¬ FA -> (Wc.cell? ⟨W.heap.size + 1,0,none⟩ = some (.bool false) /\ Wc.frozen? ⟨W.heap.size + 1,0,none⟩ = false) /\ ((Below W.heap.size W (Wc.setCell ⟨W.heap.size + 1,0,none⟩ (.bool false)) /\ (Wc.setCell ⟨W.heap.size + 1,0,none⟩ (.bool false)).heap[W.heap.size + 1]? = some (.cells #[.bool false] 4 (0,0)) /\ ¬ FA) /\ (Wc.setCell ⟨W.heap.size + 1,0,none⟩ (.bool false)).heap[W5.heap.size]? = Wb.heap[W5.heap.size]? /\ (Wc.setCell ⟨W.heap.size + 1,0,none⟩ (.bool false)).heap[W5.heap.size + 1]? = Wb.heap[W5.heap.size + 1]?)) := fun Wc hc hn => by
      have r1 : Wc.heap[W.heap.size + 1]? = some (.cells #[.bool false] 4 (0,0)) := (hc.block _ (Array.getElem?_eq_some_iff.1 HR1.out.1).1).trans HR1.out.1; refine ⟨⟨lc r1 0,by simp [World.frozen?,r1]⟩,⟨(bnext HR1.out.2 hc).setCell (by show W.heap.size <= W.heap.size + 1; omega) _,heap_setCell_same _ _ 0 _ _ _ r1,hn⟩,?_,?_⟩
      · exact (heap_setCell_other _ _ _ _ (by show W5.heap.size ≠ W.heap.size + 1; omega)).trans (hc.block _ (by omega))
      exact (heap_setCell_other _ _ _ _ (by show W5.heap.size + 1 ≠ W.heap.size + 1; omega)).trans (hc.block _ (by omega))
    have HS : Hid (s.size <= maxLen) := hs; clear hs hs5
    by_cases hk1 : kx < 1
    · skip
      have HKp : Hid (∀ Wc,Below Wb.heap.size Wb Wc -> Aside (Below Wb.heap.size Wb Wc) /\ Wc.cell? ⟨b,o,none⟩ = some (.int .i64 kx) /\ Wc.cell? ⟨b,o + 1,none⟩ = some (.int .u64 x) /\ Wc.cell? ⟨b,o + 2,none⟩ = some (.string s) /\ Wc.cell? ⟨b,o + 3,none⟩ = some (.slice aS nS cS)) := fun Wc hc => ⟨hc,(hc.cell (p := ⟨b,o,none⟩) (Nat.lt_of_lt_of_le HB.out.1 HB.out.2.size)).trans y0,(hc.cell (p := ⟨b,o + 1,none⟩) (Nat.lt_of_lt_of_le HB.out.1 HB.out.2.size)).trans y1,(hc.cell (p := ⟨b,o + 2,none⟩) (Nat.lt_of_lt_of_le HB.out.1 HB.out.2.size)).trans y2,(hc.cell (p := ⟨b,o + 3,none⟩) (Nat.lt_of_lt_of_le HB.out.1 HB.out.2.size)).trans y3⟩
      have hk0 := HKp.out Wb.drew ⟨rfl,rfl,rfl,Nat.le_refl _,fun _ _ => rfl⟩
      gi_wp2_with fail
      refine region_round (S := (fun Wc => Aside (Below Wb.heap.size Wb Wc) /\ Wc.cell? ⟨b,o,none⟩ = some (.int .i64 kx) /\ Wc.cell? ⟨b,o + 1,none⟩ = some (.int .u64 x) /\ Wc.cell? ⟨b,o + 2,none⟩ = some (.string s) /\ Wc.cell? ⟨b,o + 3,none⟩ = some (.slice aS nS cS))) (by kernel_rfl) (by kernel_rfl) (by rintro ⟨_,_,h⟩; exact h) hk0 (fun hHeld => ?_); clear hk0; refine sq_of [] [0,1,2,3,4,5,6,7,8,9,10,11,12,13,14,15,16,17,18,19,20,21,22,23,24,25,26,27,28,29,30,31,32,33,34,35,36,37,38,39,40,41,42,43,44,45,46,47,48,49,50,51,52,53,54,55,56,57,58,59,60] (by kernel_rfl) hHeld ?_
      repeat (first | (refine sq_skip (by rfl) (by rfl) ?_; simp only [Act.put,z0,z1,z2]) | (refine sq_op (v := ?_) (by rfl) (by rfl) (by rfl) ?_ ?_; rotate_left; (focus (intro w hSw; (try dsimp only at hSw); go_simp <;> with_reducible rfl)); simp only [Act.put,z0,z1,z2]))
      refine sq_end (fun _ => ?_); obtain ⟨⟨r1,r2⟩,r3⟩ := HEnd.out _ hHeld.1.out (fun hf => absurd (HFa.out hf) (by intro hh; have h9 := hh.1; unfold prt at h9; rw [if_pos (Or.inl hk1)] at h9; simp [slen] at h9)); have HR3 : Hid _ := r3; clear r3
      gi_wp2_with fail
      exact HR3.out
    have d1 : decide (kx < 1) = false := decide_eq_false hk1
    by_cases hk26 : 26 < kx
    · have d26 : decide (26 < kx) = true := decide_eq_true hk26
      have HKp : Hid (∀ Wc,Below Wb.heap.size Wb Wc -> Aside (Below Wb.heap.size Wb Wc) /\ Wc.cell? ⟨b,o,none⟩ = some (.int .i64 kx) /\ Wc.cell? ⟨b,o + 1,none⟩ = some (.int .u64 x) /\ Wc.cell? ⟨b,o + 2,none⟩ = some (.string s) /\ Wc.cell? ⟨b,o + 3,none⟩ = some (.slice aS nS cS)) := fun Wc hc => ⟨hc,(hc.cell (p := ⟨b,o,none⟩) (Nat.lt_of_lt_of_le HB.out.1 HB.out.2.size)).trans y0,(hc.cell (p := ⟨b,o + 1,none⟩) (Nat.lt_of_lt_of_le HB.out.1 HB.out.2.size)).trans y1,(hc.cell (p := ⟨b,o + 2,none⟩) (Nat.lt_of_lt_of_le HB.out.1 HB.out.2.size)).trans y2,(hc.cell (p := ⟨b,o + 3,none⟩) (Nat.lt_of_lt_of_le HB.out.1 HB.out.2.size)).trans y3⟩
      have hk0 := HKp.out Wb.drew ⟨rfl,rfl,rfl,Nat.le_refl _,fun _ _ => rfl⟩
      gi_wp2_with fail
      refine region_round (S := (fun Wc => Aside (Below Wb.heap.size Wb Wc) /\ Wc.cell? ⟨b,o,none⟩ = some (.int .i64 kx) /\ Wc.cell? ⟨b,o + 1,none⟩ = some (.int .u64 x) /\ Wc.cell? ⟨b,o + 2,none⟩ = some (.string s) /\ Wc.cell? ⟨b,o + 3,none⟩ = some (.slice aS nS cS))) (by kernel_rfl) (by kernel_rfl) (by rintro ⟨_,_,h⟩; exact h) hk0 (fun hHeld => ?_); clear hk0; refine sq_of [] [0,1,2,3,4,5,6,7,8,9,10,11,12,13,14,15,16,17,18,19,20,21,22,23,24,25,26,27,28,29,30,31,32,33,34,35,36,37,38,39,40,41,42,43,44,45,46,47,48,49,50,51,52,53,54,55,56,57,58,59,60] (by kernel_rfl) hHeld ?_
      repeat (first | (refine sq_skip (by rfl) (by rfl) ?_; simp only [Act.put,z0,z1,z2]) | (refine sq_op (v := ?_) (by rfl) (by rfl) (by rfl) ?_ ?_; rotate_left; (focus (intro w hSw; (try dsimp only at hSw); go_simp <;> with_reducible rfl)); simp only [Act.put,z0,z1,z2]))
      refine sq_end (fun _ => ?_); obtain ⟨⟨r1,r2⟩,r3⟩ := HEnd.out _ hHeld.1.out (fun hf => absurd (HFa.out hf) (by intro hh; have h9 := hh.1; unfold prt at h9; rw [if_pos (Or.inr hk26)] at h9; simp [slen] at h9)); have HR3 : Hid _ := r3; clear r3
      gi_wp2_with fail
      exact HR3.out
    have d26 : decide (26 < kx) = false := decide_eq_false hk26; have ytb : Wb.cell? ⟨1,kx.toNat * 3 + 1,none⟩ = some (.int .i64 (prt kx)) := by have h9 := HTb.out.1 kx.toNat (by omega) (by omega); rw [Int.toNat_of_nonneg (by omega)] at h9; exact h9
    have q0 : (0 : Int) <= kx := by omega
    have q27 : kx < 27 := by omega
    by_cases hpl : (nS : Int) = prt kx
    · by_cases hk2 : kx = 2
      · subst hk2
        have ytb : Wb.cell? ⟨1,7,none⟩ = some (.int .i64 (prt (2 : Int))) := ytb; have t6 : ((nS : Int) != prt (2 : Int)) = false := by simp [hpl]
        replace hpl : Hid ((nS : Int) = prt (2 : Int)) := hpl
        generalize hPP : prt (2 : Int) = PP at *
        replace hPP : Hid (prt (2 : Int) = PP) := hPP; cases hnm : nameB s with
        | false =>
          have HKp : Hid (∀ Wc,Below Wb.heap.size Wb Wc -> Aside (Below Wb.heap.size Wb Wc) /\ Wc.cell? ⟨b,o,none⟩ = some (.int .i64 2) /\ Wc.cell? ⟨b,o + 1,none⟩ = some (.int .u64 x) /\ Wc.cell? ⟨b,o + 2,none⟩ = some (.string s) /\ Wc.cell? ⟨b,o + 3,none⟩ = some (.slice aS nS cS) /\ Wc.cell? ⟨1,7,none⟩ = some (.int .i64 PP)) := fun Wc hc => ⟨hc,(hc.cell (p := ⟨b,o,none⟩) (Nat.lt_of_lt_of_le HB.out.1 HB.out.2.size)).trans y0,(hc.cell (p := ⟨b,o + 1,none⟩) (Nat.lt_of_lt_of_le HB.out.1 HB.out.2.size)).trans y1,(hc.cell (p := ⟨b,o + 2,none⟩) (Nat.lt_of_lt_of_le HB.out.1 HB.out.2.size)).trans y2,(hc.cell (p := ⟨b,o + 3,none⟩) (Nat.lt_of_lt_of_le HB.out.1 HB.out.2.size)).trans y3,(hc.cell (p := ⟨1,_,none⟩) HTb.out.2).trans ytb⟩
          have hk0 := HKp.out Wb.drew ⟨rfl,rfl,rfl,Nat.le_refl _,fun _ _ => rfl⟩
          gi_wp2_with fail
          refine region_round (S := (fun Wc => Aside (Below Wb.heap.size Wb Wc) /\ Wc.cell? ⟨b,o,none⟩ = some (.int .i64 2) /\ Wc.cell? ⟨b,o + 1,none⟩ = some (.int .u64 x) /\ Wc.cell? ⟨b,o + 2,none⟩ = some (.string s) /\ Wc.cell? ⟨b,o + 3,none⟩ = some (.slice aS nS cS) /\ Wc.cell? ⟨1,7,none⟩ = some (.int .i64 PP))) (by kernel_rfl) (by kernel_rfl) (by rintro ⟨_,_,h⟩; exact h) hk0 (fun hHeld => ?_); clear hk0; refine sq_of [44] [0,1,2,3,4,5,6,7,8,9,10,11,12,13,14,15,16,17,18,19,20,21,22,23,24,25,26,27,28,29,30,31,32,33,34,35,36,37,38,39,40,41,42,43,44,45,46,47,48,49,50,51,52,53,54,55,56,57,58,59,60] (by kernel_rfl) hHeld ?_
          repeat (first | (refine sq_skip (by rfl) (by rfl) ?_; simp only [Act.put,z0,z1,z2]) | (refine sq_op (v := ?_) (by rfl) (by rfl) (by rfl) ?_ ?_; rotate_left; (focus (intro w hSw; (try dsimp only at hSw); go_simp <;> with_reducible rfl)); simp only [Act.put,z0,z1,z2]))
          refine sq_do (by rfl) (by rfl) (by rfl) (fun K hK => ?_)
          go_simp
          go_at_call 101; refine (formName_yes s _ HS.out).mono ?_; rintro e w9 ⟨he,hb9⟩
          rw [hnm] at he; subst he; have hx9 := HKp.out w9 (bnext hHeld.1.out hb9); clear hb9 hHeld; refine hK.out _ _ hx9 (fun hHeld => ?_); clear hK K hx9
          try simp only [Act.put,z0,z1,z2]
          repeat (first | (refine sq_skip (by rfl) (by rfl) ?_; simp only [Act.put,z0,z1,z2]) | (refine sq_op (v := ?_) (by rfl) (by rfl) (by rfl) ?_ ?_; rotate_left; (focus (intro w hSw; (try dsimp only at hSw); go_simp <;> with_reducible rfl)); simp only [Act.put,z0,z1,z2]))
          refine sq_end (fun _ => ?_); obtain ⟨⟨r1,r2⟩,r3⟩ := HEnd.out _ hHeld.1.out (fun hf => absurd (HFa.out hf) (by intro hh; have h9 := hh.2.1; rw [if_pos (by decide),hnm] at h9; exact absurd h9 (by decide))); have HR3 : Hid _ := r3; clear r3
          gi_wp2_with fail
          exact HR3.out
        | true =>
          by_cases hx0 : x = 0
          · have tx : (x != 0) = false := by simp [hx0]
            replace hx0 : Hid (x = 0) := hx0; have HKp : Hid (∀ Wc,Below Wb.heap.size Wb Wc -> Aside (Below Wb.heap.size Wb Wc) /\ Wc.cell? ⟨b,o,none⟩ = some (.int .i64 2) /\ Wc.cell? ⟨b,o + 1,none⟩ = some (.int .u64 x) /\ Wc.cell? ⟨b,o + 2,none⟩ = some (.string s) /\ Wc.cell? ⟨b,o + 3,none⟩ = some (.slice aS nS cS) /\ Wc.cell? ⟨1,7,none⟩ = some (.int .i64 PP)) := fun Wc hc => ⟨hc,(hc.cell (p := ⟨b,o,none⟩) (Nat.lt_of_lt_of_le HB.out.1 HB.out.2.size)).trans y0,(hc.cell (p := ⟨b,o + 1,none⟩) (Nat.lt_of_lt_of_le HB.out.1 HB.out.2.size)).trans y1,(hc.cell (p := ⟨b,o + 2,none⟩) (Nat.lt_of_lt_of_le HB.out.1 HB.out.2.size)).trans y2,(hc.cell (p := ⟨b,o + 3,none⟩) (Nat.lt_of_lt_of_le HB.out.1 HB.out.2.size)).trans y3,(hc.cell (p := ⟨1,_,none⟩) HTb.out.2).trans ytb⟩
            have hk0 := HKp.out Wb.drew ⟨rfl,rfl,rfl,Nat.le_refl _,fun _ _ => rfl⟩
            gi_wp2_with fail
            refine region_round (S := (fun Wc => Aside (Below Wb.heap.size Wb Wc) /\ Wc.cell? ⟨b,o,none⟩ = some (.int .i64 2) /\ Wc.cell? ⟨b,o + 1,none⟩ = some (.int .u64 x) /\ Wc.cell? ⟨b,o + 2,none⟩ = some (.string s) /\ Wc.cell? ⟨b,o + 3,none⟩ = some (.slice aS nS cS) /\ Wc.cell? ⟨1,7,none⟩ = some (.int .i64 PP))) (by kernel_rfl) (by kernel_rfl) (by rintro ⟨_,_,h⟩; exact h) hk0 (fun hHeld => ?_); clear hk0; refine sq_of [44] [0,1,2,3,4,5,6,7,8,9,10,11,12,13,14,15,16,17,18,19,20,21,22,23,24,25,26,27,28,29,30,31,32,33,34,35,36,37,38,39,40,41,42,43,44,45,46,47,48,49,50,51,52,53,54,55,56,57,58,59,60] (by kernel_rfl) hHeld ?_
            repeat (first | (refine sq_skip (by rfl) (by rfl) ?_; simp only [Act.put,z0,z1,z2]) | (refine sq_op (v := ?_) (by rfl) (by rfl) (by rfl) ?_ ?_; rotate_left; (focus (intro w hSw; (try dsimp only at hSw); go_simp <;> with_reducible rfl)); simp only [Act.put,z0,z1,z2]))
            refine sq_do (by rfl) (by rfl) (by rfl) (fun K hK => ?_)
            go_simp
            go_at_call 101; refine (formName_yes s _ HS.out).mono ?_; rintro e w9 ⟨he,hb9⟩
            rw [hnm] at he; subst he; have hx9 := HKp.out w9 (bnext hHeld.1.out hb9); clear hb9 hHeld; refine hK.out _ _ hx9 (fun hHeld => ?_); clear hK K hx9
            try simp only [Act.put,z0,z1,z2]
            repeat (first | (refine sq_skip (by rfl) (by rfl) ?_; simp only [Act.put,z0,z1,z2]) | (refine sq_op (v := ?_) (by rfl) (by rfl) (by rfl) ?_ ?_; rotate_left; (focus (intro w hSw; (try dsimp only at hSw); go_simp <;> with_reducible rfl)); simp only [Act.put,z0,z1,z2]))
            refine sq_end (fun _ => ?_); have HBl := hHeld.1
            gi_wp2_with fail
            exact ⟨HBl.out,⟨by rw [hPP.out]; exact hpl.out,by rw [if_pos (by decide)]; exact hnm,Or.inr hx0.out⟩⟩
          have tx : (x != 0) = true := by simpa using hx0
          have HKp : Hid (∀ Wc,Below Wb.heap.size Wb Wc -> Aside (Below Wb.heap.size Wb Wc) /\ Wc.cell? ⟨b,o,none⟩ = some (.int .i64 2) /\ Wc.cell? ⟨b,o + 1,none⟩ = some (.int .u64 x) /\ Wc.cell? ⟨b,o + 2,none⟩ = some (.string s) /\ Wc.cell? ⟨b,o + 3,none⟩ = some (.slice aS nS cS) /\ Wc.cell? ⟨1,7,none⟩ = some (.int .i64 PP)) := fun Wc hc => ⟨hc,(hc.cell (p := ⟨b,o,none⟩) (Nat.lt_of_lt_of_le HB.out.1 HB.out.2.size)).trans y0,(hc.cell (p := ⟨b,o + 1,none⟩) (Nat.lt_of_lt_of_le HB.out.1 HB.out.2.size)).trans y1,(hc.cell (p := ⟨b,o + 2,none⟩) (Nat.lt_of_lt_of_le HB.out.1 HB.out.2.size)).trans y2,(hc.cell (p := ⟨b,o + 3,none⟩) (Nat.lt_of_lt_of_le HB.out.1 HB.out.2.size)).trans y3,(hc.cell (p := ⟨1,_,none⟩) HTb.out.2).trans ytb⟩
          have hk0 := HKp.out Wb.drew ⟨rfl,rfl,rfl,Nat.le_refl _,fun _ _ => rfl⟩
          gi_wp2_with fail
          refine region_round (S := (fun Wc => Aside (Below Wb.heap.size Wb Wc) /\ Wc.cell? ⟨b,o,none⟩ = some (.int .i64 2) /\ Wc.cell? ⟨b,o + 1,none⟩ = some (.int .u64 x) /\ Wc.cell? ⟨b,o + 2,none⟩ = some (.string s) /\ Wc.cell? ⟨b,o + 3,none⟩ = some (.slice aS nS cS) /\ Wc.cell? ⟨1,7,none⟩ = some (.int .i64 PP))) (by kernel_rfl) (by kernel_rfl) (by rintro ⟨_,_,h⟩; exact h) hk0 (fun hHeld => ?_); clear hk0; refine sq_of [44] [0,1,2,3,4,5,6,7,8,9,10,11,12,13,14,15,16,17,18,19,20,21,22,23,24,25,26,27,28,29,30,31,32,33,34,35,36,37,38,39,40,41,42,43,44,45,46,47,48,49,50,51,52,53,54,55,56,57,58,59,60] (by kernel_rfl) hHeld ?_
          repeat (first | (refine sq_skip (by rfl) (by rfl) ?_; simp only [Act.put,z0,z1,z2]) | (refine sq_op (v := ?_) (by rfl) (by rfl) (by rfl) ?_ ?_; rotate_left; (focus (intro w hSw; (try dsimp only at hSw); go_simp <;> with_reducible rfl)); simp only [Act.put,z0,z1,z2]))
          refine sq_do (by rfl) (by rfl) (by rfl) (fun K hK => ?_)
          go_simp
          go_at_call 101; refine (formName_yes s _ HS.out).mono ?_; rintro e w9 ⟨he,hb9⟩
          rw [hnm] at he; subst he; have hx9 := HKp.out w9 (bnext hHeld.1.out hb9); clear hb9 hHeld; refine hK.out _ _ hx9 (fun hHeld => ?_); clear hK K hx9
          try simp only [Act.put,z0,z1,z2]
          repeat (first | (refine sq_skip (by rfl) (by rfl) ?_; simp only [Act.put,z0,z1,z2]) | (refine sq_op (v := ?_) (by rfl) (by rfl) (by rfl) ?_ ?_; rotate_left; (focus (intro w hSw; (try dsimp only at hSw); go_simp <;> with_reducible rfl)); simp only [Act.put,z0,z1,z2]))
          refine sq_end (fun _ => ?_); obtain ⟨⟨r1,r2⟩,r3⟩ := HEnd.out _ hHeld.1.out (fun hf => absurd (HFa.out hf) (by intro hh; rcases hh.2.2 with h | h; exact absurd h (by decide); exact hx0 h)); have HR3 : Hid _ := r3; clear r3
          gi_wp2_with fail
          exact HR3.out
      by_cases hk3 : kx = 3
      · subst hk3
        have ytb : Wb.cell? ⟨1,10,none⟩ = some (.int .i64 (prt (3 : Int))) := ytb; have t6 : ((nS : Int) != prt (3 : Int)) = false := by simp [hpl]
        replace hpl : Hid ((nS : Int) = prt (3 : Int)) := hpl
        generalize hPP : prt (3 : Int) = PP at *
        replace hPP : Hid (prt (3 : Int) = PP) := hPP; cases hnm : nameB s with
        | false =>
          have HKp : Hid (∀ Wc,Below Wb.heap.size Wb Wc -> Aside (Below Wb.heap.size Wb Wc) /\ Wc.cell? ⟨b,o,none⟩ = some (.int .i64 3) /\ Wc.cell? ⟨b,o + 1,none⟩ = some (.int .u64 x) /\ Wc.cell? ⟨b,o + 2,none⟩ = some (.string s) /\ Wc.cell? ⟨b,o + 3,none⟩ = some (.slice aS nS cS) /\ Wc.cell? ⟨1,10,none⟩ = some (.int .i64 PP)) := fun Wc hc => ⟨hc,(hc.cell (p := ⟨b,o,none⟩) (Nat.lt_of_lt_of_le HB.out.1 HB.out.2.size)).trans y0,(hc.cell (p := ⟨b,o + 1,none⟩) (Nat.lt_of_lt_of_le HB.out.1 HB.out.2.size)).trans y1,(hc.cell (p := ⟨b,o + 2,none⟩) (Nat.lt_of_lt_of_le HB.out.1 HB.out.2.size)).trans y2,(hc.cell (p := ⟨b,o + 3,none⟩) (Nat.lt_of_lt_of_le HB.out.1 HB.out.2.size)).trans y3,(hc.cell (p := ⟨1,_,none⟩) HTb.out.2).trans ytb⟩
          have hk0 := HKp.out Wb.drew ⟨rfl,rfl,rfl,Nat.le_refl _,fun _ _ => rfl⟩
          gi_wp2_with fail
          refine region_round (S := (fun Wc => Aside (Below Wb.heap.size Wb Wc) /\ Wc.cell? ⟨b,o,none⟩ = some (.int .i64 3) /\ Wc.cell? ⟨b,o + 1,none⟩ = some (.int .u64 x) /\ Wc.cell? ⟨b,o + 2,none⟩ = some (.string s) /\ Wc.cell? ⟨b,o + 3,none⟩ = some (.slice aS nS cS) /\ Wc.cell? ⟨1,10,none⟩ = some (.int .i64 PP))) (by kernel_rfl) (by kernel_rfl) (by rintro ⟨_,_,h⟩; exact h) hk0 (fun hHeld => ?_); clear hk0; refine sq_of [44] [0,1,2,3,4,5,6,7,8,9,10,11,12,13,14,15,16,17,18,19,20,21,22,23,24,25,26,27,28,29,30,31,32,33,34,35,36,37,38,39,40,41,42,43,44,45,46,47,48,49,50,51,52,53,54,55,56,57,58,59,60] (by kernel_rfl) hHeld ?_
          repeat (first | (refine sq_skip (by rfl) (by rfl) ?_; simp only [Act.put,z0,z1,z2]) | (refine sq_op (v := ?_) (by rfl) (by rfl) (by rfl) ?_ ?_; rotate_left; (focus (intro w hSw; (try dsimp only at hSw); go_simp <;> with_reducible rfl)); simp only [Act.put,z0,z1,z2]))
          refine sq_do (by rfl) (by rfl) (by rfl) (fun K hK => ?_)
          go_simp
          go_at_call 101; refine (formName_yes s _ HS.out).mono ?_; rintro e w9 ⟨he,hb9⟩
          rw [hnm] at he; subst he; have hx9 := HKp.out w9 (bnext hHeld.1.out hb9); clear hb9 hHeld; refine hK.out _ _ hx9 (fun hHeld => ?_); clear hK K hx9
          try simp only [Act.put,z0,z1,z2]
          repeat (first | (refine sq_skip (by rfl) (by rfl) ?_; simp only [Act.put,z0,z1,z2]) | (refine sq_op (v := ?_) (by rfl) (by rfl) (by rfl) ?_ ?_; rotate_left; (focus (intro w hSw; (try dsimp only at hSw); go_simp <;> with_reducible rfl)); simp only [Act.put,z0,z1,z2]))
          refine sq_end (fun _ => ?_); obtain ⟨⟨r1,r2⟩,r3⟩ := HEnd.out _ hHeld.1.out (fun hf => absurd (HFa.out hf) (by intro hh; have h9 := hh.2.1; rw [if_pos (by decide),hnm] at h9; exact absurd h9 (by decide))); have HR3 : Hid _ := r3; clear r3
          gi_wp2_with fail
          exact HR3.out
        | true =>
          by_cases hx0 : x = 0
          · have tx : (x != 0) = false := by simp [hx0]
            replace hx0 : Hid (x = 0) := hx0; have HKp : Hid (∀ Wc,Below Wb.heap.size Wb Wc -> Aside (Below Wb.heap.size Wb Wc) /\ Wc.cell? ⟨b,o,none⟩ = some (.int .i64 3) /\ Wc.cell? ⟨b,o + 1,none⟩ = some (.int .u64 x) /\ Wc.cell? ⟨b,o + 2,none⟩ = some (.string s) /\ Wc.cell? ⟨b,o + 3,none⟩ = some (.slice aS nS cS) /\ Wc.cell? ⟨1,10,none⟩ = some (.int .i64 PP)) := fun Wc hc => ⟨hc,(hc.cell (p := ⟨b,o,none⟩) (Nat.lt_of_lt_of_le HB.out.1 HB.out.2.size)).trans y0,(hc.cell (p := ⟨b,o + 1,none⟩) (Nat.lt_of_lt_of_le HB.out.1 HB.out.2.size)).trans y1,(hc.cell (p := ⟨b,o + 2,none⟩) (Nat.lt_of_lt_of_le HB.out.1 HB.out.2.size)).trans y2,(hc.cell (p := ⟨b,o + 3,none⟩) (Nat.lt_of_lt_of_le HB.out.1 HB.out.2.size)).trans y3,(hc.cell (p := ⟨1,_,none⟩) HTb.out.2).trans ytb⟩
            have hk0 := HKp.out Wb.drew ⟨rfl,rfl,rfl,Nat.le_refl _,fun _ _ => rfl⟩
            gi_wp2_with fail
            refine region_round (S := (fun Wc => Aside (Below Wb.heap.size Wb Wc) /\ Wc.cell? ⟨b,o,none⟩ = some (.int .i64 3) /\ Wc.cell? ⟨b,o + 1,none⟩ = some (.int .u64 x) /\ Wc.cell? ⟨b,o + 2,none⟩ = some (.string s) /\ Wc.cell? ⟨b,o + 3,none⟩ = some (.slice aS nS cS) /\ Wc.cell? ⟨1,10,none⟩ = some (.int .i64 PP))) (by kernel_rfl) (by kernel_rfl) (by rintro ⟨_,_,h⟩; exact h) hk0 (fun hHeld => ?_); clear hk0; refine sq_of [44] [0,1,2,3,4,5,6,7,8,9,10,11,12,13,14,15,16,17,18,19,20,21,22,23,24,25,26,27,28,29,30,31,32,33,34,35,36,37,38,39,40,41,42,43,44,45,46,47,48,49,50,51,52,53,54,55,56,57,58,59,60] (by kernel_rfl) hHeld ?_
            repeat (first | (refine sq_skip (by rfl) (by rfl) ?_; simp only [Act.put,z0,z1,z2]) | (refine sq_op (v := ?_) (by rfl) (by rfl) (by rfl) ?_ ?_; rotate_left; (focus (intro w hSw; (try dsimp only at hSw); go_simp <;> with_reducible rfl)); simp only [Act.put,z0,z1,z2]))
            refine sq_do (by rfl) (by rfl) (by rfl) (fun K hK => ?_)
            go_simp
            go_at_call 101; refine (formName_yes s _ HS.out).mono ?_; rintro e w9 ⟨he,hb9⟩
            rw [hnm] at he; subst he; have hx9 := HKp.out w9 (bnext hHeld.1.out hb9); clear hb9 hHeld; refine hK.out _ _ hx9 (fun hHeld => ?_); clear hK K hx9
            try simp only [Act.put,z0,z1,z2]
            repeat (first | (refine sq_skip (by rfl) (by rfl) ?_; simp only [Act.put,z0,z1,z2]) | (refine sq_op (v := ?_) (by rfl) (by rfl) (by rfl) ?_ ?_; rotate_left; (focus (intro w hSw; (try dsimp only at hSw); go_simp <;> with_reducible rfl)); simp only [Act.put,z0,z1,z2]))
            refine sq_end (fun _ => ?_); have HBl := hHeld.1
            gi_wp2_with fail
            exact ⟨HBl.out,⟨by rw [hPP.out]; exact hpl.out,by rw [if_pos (by decide)]; exact hnm,Or.inr hx0.out⟩⟩
          have tx : (x != 0) = true := by simpa using hx0
          have HKp : Hid (∀ Wc,Below Wb.heap.size Wb Wc -> Aside (Below Wb.heap.size Wb Wc) /\ Wc.cell? ⟨b,o,none⟩ = some (.int .i64 3) /\ Wc.cell? ⟨b,o + 1,none⟩ = some (.int .u64 x) /\ Wc.cell? ⟨b,o + 2,none⟩ = some (.string s) /\ Wc.cell? ⟨b,o + 3,none⟩ = some (.slice aS nS cS) /\ Wc.cell? ⟨1,10,none⟩ = some (.int .i64 PP)) := fun Wc hc => ⟨hc,(hc.cell (p := ⟨b,o,none⟩) (Nat.lt_of_lt_of_le HB.out.1 HB.out.2.size)).trans y0,(hc.cell (p := ⟨b,o + 1,none⟩) (Nat.lt_of_lt_of_le HB.out.1 HB.out.2.size)).trans y1,(hc.cell (p := ⟨b,o + 2,none⟩) (Nat.lt_of_lt_of_le HB.out.1 HB.out.2.size)).trans y2,(hc.cell (p := ⟨b,o + 3,none⟩) (Nat.lt_of_lt_of_le HB.out.1 HB.out.2.size)).trans y3,(hc.cell (p := ⟨1,_,none⟩) HTb.out.2).trans ytb⟩
          have hk0 := HKp.out Wb.drew ⟨rfl,rfl,rfl,Nat.le_refl _,fun _ _ => rfl⟩
          gi_wp2_with fail
          refine region_round (S := (fun Wc => Aside (Below Wb.heap.size Wb Wc) /\ Wc.cell? ⟨b,o,none⟩ = some (.int .i64 3) /\ Wc.cell? ⟨b,o + 1,none⟩ = some (.int .u64 x) /\ Wc.cell? ⟨b,o + 2,none⟩ = some (.string s) /\ Wc.cell? ⟨b,o + 3,none⟩ = some (.slice aS nS cS) /\ Wc.cell? ⟨1,10,none⟩ = some (.int .i64 PP))) (by kernel_rfl) (by kernel_rfl) (by rintro ⟨_,_,h⟩; exact h) hk0 (fun hHeld => ?_); clear hk0; refine sq_of [44] [0,1,2,3,4,5,6,7,8,9,10,11,12,13,14,15,16,17,18,19,20,21,22,23,24,25,26,27,28,29,30,31,32,33,34,35,36,37,38,39,40,41,42,43,44,45,46,47,48,49,50,51,52,53,54,55,56,57,58,59,60] (by kernel_rfl) hHeld ?_
          repeat (first | (refine sq_skip (by rfl) (by rfl) ?_; simp only [Act.put,z0,z1,z2]) | (refine sq_op (v := ?_) (by rfl) (by rfl) (by rfl) ?_ ?_; rotate_left; (focus (intro w hSw; (try dsimp only at hSw); go_simp <;> with_reducible rfl)); simp only [Act.put,z0,z1,z2]))
          refine sq_do (by rfl) (by rfl) (by rfl) (fun K hK => ?_)
          go_simp
          go_at_call 101; refine (formName_yes s _ HS.out).mono ?_; rintro e w9 ⟨he,hb9⟩
          rw [hnm] at he; subst he; have hx9 := HKp.out w9 (bnext hHeld.1.out hb9); clear hb9 hHeld; refine hK.out _ _ hx9 (fun hHeld => ?_); clear hK K hx9
          try simp only [Act.put,z0,z1,z2]
          repeat (first | (refine sq_skip (by rfl) (by rfl) ?_; simp only [Act.put,z0,z1,z2]) | (refine sq_op (v := ?_) (by rfl) (by rfl) (by rfl) ?_ ?_; rotate_left; (focus (intro w hSw; (try dsimp only at hSw); go_simp <;> with_reducible rfl)); simp only [Act.put,z0,z1,z2]))
          refine sq_end (fun _ => ?_); obtain ⟨⟨r1,r2⟩,r3⟩ := HEnd.out _ hHeld.1.out (fun hf => absurd (HFa.out hf) (by intro hh; rcases hh.2.2 with h | h; exact absurd h (by decide); exact hx0 h)); have HR3 : Hid _ := r3; clear r3
          gi_wp2_with fail
          exact HR3.out
      have t2 : (kx == 2) = false := by simpa using hk2
      have t3 : (kx == 3) = false := by simpa using hk3
      have t6 : ((nS : Int) != prt kx) = false := by simp [hpl]
      replace hpl : Hid ((nS : Int) = prt kx) := hpl; have hno : Hid (¬ (kx = 2 ∨ kx = 3)) := by show ¬ _; omega
      generalize hPP : prt kx = PP at *
      replace hPP : Hid (prt kx = PP) := hPP
      by_cases hs0 : s.size = 0
      · have hsz : decide (s.size = 0) = true := decide_eq_true hs0
        by_cases hkn1 : kx = 1
        · have t1 : (kx != 1) = false := by simp [hkn1]
          replace hkn1 : Hid (kx = 1) := hkn1; have HKp : Hid (∀ Wc,Below Wb.heap.size Wb Wc -> Aside (Below Wb.heap.size Wb Wc) /\ Wc.cell? ⟨b,o,none⟩ = some (.int .i64 kx) /\ Wc.cell? ⟨b,o + 1,none⟩ = some (.int .u64 x) /\ Wc.cell? ⟨b,o + 2,none⟩ = some (.string s) /\ Wc.cell? ⟨b,o + 3,none⟩ = some (.slice aS nS cS) /\ Wc.cell? ⟨1,kx.toNat * 3 + 1,none⟩ = some (.int .i64 PP)) := fun Wc hc => ⟨hc,(hc.cell (p := ⟨b,o,none⟩) (Nat.lt_of_lt_of_le HB.out.1 HB.out.2.size)).trans y0,(hc.cell (p := ⟨b,o + 1,none⟩) (Nat.lt_of_lt_of_le HB.out.1 HB.out.2.size)).trans y1,(hc.cell (p := ⟨b,o + 2,none⟩) (Nat.lt_of_lt_of_le HB.out.1 HB.out.2.size)).trans y2,(hc.cell (p := ⟨b,o + 3,none⟩) (Nat.lt_of_lt_of_le HB.out.1 HB.out.2.size)).trans y3,(hc.cell (p := ⟨1,_,none⟩) HTb.out.2).trans ytb⟩
          have hk0 := HKp.out Wb.drew ⟨rfl,rfl,rfl,Nat.le_refl _,fun _ _ => rfl⟩
          gi_wp2_with fail
          refine region_round (S := (fun Wc => Aside (Below Wb.heap.size Wb Wc) /\ Wc.cell? ⟨b,o,none⟩ = some (.int .i64 kx) /\ Wc.cell? ⟨b,o + 1,none⟩ = some (.int .u64 x) /\ Wc.cell? ⟨b,o + 2,none⟩ = some (.string s) /\ Wc.cell? ⟨b,o + 3,none⟩ = some (.slice aS nS cS) /\ Wc.cell? ⟨1,kx.toNat * 3 + 1,none⟩ = some (.int .i64 PP))) (by kernel_rfl) (by kernel_rfl) (by rintro ⟨_,_,h⟩; exact h) hk0 (fun hHeld => ?_); clear hk0; refine sq_of [44] [0,1,2,3,4,5,6,7,8,9,10,11,12,13,14,15,16,17,18,19,20,21,22,23,24,25,26,27,28,29,30,31,32,33,34,35,36,37,38,39,40,41,42,43,44,45,46,47,48,49,50,51,52,53,54,55,56,57,58,59,60] (by kernel_rfl) hHeld ?_
          repeat (first | (refine sq_skip (by rfl) (by rfl) ?_; simp only [Act.put,z0,z1,z2]) | (refine sq_op (v := ?_) (by rfl) (by rfl) (by rfl) ?_ ?_; rotate_left; (focus (intro w hSw; (try dsimp only at hSw); go_simp <;> with_reducible rfl)); simp only [Act.put,z0,z1,z2]))
          refine sq_do (by rfl) (by rfl) (by rfl) (fun K hK => ?_)
          go_simp
          go_at_call 101; refine (formName_no s _).mono ?_; rintro e w9 ⟨he,hw9⟩
          rw [hsz] at he; subst he; obtain rfl := hw9.symm; refine hK.out _ _ hHeld (fun _ => ?_); clear hK K
          try simp only [Act.put,z0,z1,z2]
          repeat (first | (refine sq_skip (by rfl) (by rfl) ?_; simp only [Act.put,z0,z1,z2]) | (refine sq_op (v := ?_) (by rfl) (by rfl) (by rfl) ?_ ?_; rotate_left; (focus (intro w hSw; (try dsimp only at hSw); go_simp <;> with_reducible rfl)); simp only [Act.put,z0,z1,z2]))
          refine sq_end (fun _ => ?_); have HBl := hHeld.1
          gi_wp2_with fail
          exact ⟨HBl.out,⟨by rw [hPP.out]; exact hpl.out,by rw [if_neg hno.out]; exact hs0,Or.inl hkn1.out⟩⟩
        have t1 : (kx != 1) = true := by simpa using hkn1
        by_cases hx0 : x = 0
        · have tx : (x != 0) = false := by simp [hx0]
          replace hx0 : Hid (x = 0) := hx0; have HKp : Hid (∀ Wc,Below Wb.heap.size Wb Wc -> Aside (Below Wb.heap.size Wb Wc) /\ Wc.cell? ⟨b,o,none⟩ = some (.int .i64 kx) /\ Wc.cell? ⟨b,o + 1,none⟩ = some (.int .u64 x) /\ Wc.cell? ⟨b,o + 2,none⟩ = some (.string s) /\ Wc.cell? ⟨b,o + 3,none⟩ = some (.slice aS nS cS) /\ Wc.cell? ⟨1,kx.toNat * 3 + 1,none⟩ = some (.int .i64 PP)) := fun Wc hc => ⟨hc,(hc.cell (p := ⟨b,o,none⟩) (Nat.lt_of_lt_of_le HB.out.1 HB.out.2.size)).trans y0,(hc.cell (p := ⟨b,o + 1,none⟩) (Nat.lt_of_lt_of_le HB.out.1 HB.out.2.size)).trans y1,(hc.cell (p := ⟨b,o + 2,none⟩) (Nat.lt_of_lt_of_le HB.out.1 HB.out.2.size)).trans y2,(hc.cell (p := ⟨b,o + 3,none⟩) (Nat.lt_of_lt_of_le HB.out.1 HB.out.2.size)).trans y3,(hc.cell (p := ⟨1,_,none⟩) HTb.out.2).trans ytb⟩
          have hk0 := HKp.out Wb.drew ⟨rfl,rfl,rfl,Nat.le_refl _,fun _ _ => rfl⟩
          gi_wp2_with fail
          refine region_round (S := (fun Wc => Aside (Below Wb.heap.size Wb Wc) /\ Wc.cell? ⟨b,o,none⟩ = some (.int .i64 kx) /\ Wc.cell? ⟨b,o + 1,none⟩ = some (.int .u64 x) /\ Wc.cell? ⟨b,o + 2,none⟩ = some (.string s) /\ Wc.cell? ⟨b,o + 3,none⟩ = some (.slice aS nS cS) /\ Wc.cell? ⟨1,kx.toNat * 3 + 1,none⟩ = some (.int .i64 PP))) (by kernel_rfl) (by kernel_rfl) (by rintro ⟨_,_,h⟩; exact h) hk0 (fun hHeld => ?_); clear hk0; refine sq_of [44] [0,1,2,3,4,5,6,7,8,9,10,11,12,13,14,15,16,17,18,19,20,21,22,23,24,25,26,27,28,29,30,31,32,33,34,35,36,37,38,39,40,41,42,43,44,45,46,47,48,49,50,51,52,53,54,55,56,57,58,59,60] (by kernel_rfl) hHeld ?_
          repeat (first | (refine sq_skip (by rfl) (by rfl) ?_; simp only [Act.put,z0,z1,z2]) | (refine sq_op (v := ?_) (by rfl) (by rfl) (by rfl) ?_ ?_; rotate_left; (focus (intro w hSw; (try dsimp only at hSw); go_simp <;> with_reducible rfl)); simp only [Act.put,z0,z1,z2]))
          refine sq_do (by rfl) (by rfl) (by rfl) (fun K hK => ?_)
          go_simp
          go_at_call 101; refine (formName_no s _).mono ?_; rintro e w9 ⟨he,hw9⟩
          rw [hsz] at he; subst he; obtain rfl := hw9.symm; refine hK.out _ _ hHeld (fun _ => ?_); clear hK K
          try simp only [Act.put,z0,z1,z2]
          repeat (first | (refine sq_skip (by rfl) (by rfl) ?_; simp only [Act.put,z0,z1,z2]) | (refine sq_op (v := ?_) (by rfl) (by rfl) (by rfl) ?_ ?_; rotate_left; (focus (intro w hSw; (try dsimp only at hSw); go_simp <;> with_reducible rfl)); simp only [Act.put,z0,z1,z2]))
          refine sq_end (fun _ => ?_); have HBl := hHeld.1
          gi_wp2_with fail
          exact ⟨HBl.out,⟨by rw [hPP.out]; exact hpl.out,by rw [if_neg hno.out]; exact hs0,Or.inr hx0.out⟩⟩
        have tx : (x != 0) = true := by simpa using hx0
        have HKp : Hid (∀ Wc,Below Wb.heap.size Wb Wc -> Aside (Below Wb.heap.size Wb Wc) /\ Wc.cell? ⟨b,o,none⟩ = some (.int .i64 kx) /\ Wc.cell? ⟨b,o + 1,none⟩ = some (.int .u64 x) /\ Wc.cell? ⟨b,o + 2,none⟩ = some (.string s) /\ Wc.cell? ⟨b,o + 3,none⟩ = some (.slice aS nS cS) /\ Wc.cell? ⟨1,kx.toNat * 3 + 1,none⟩ = some (.int .i64 PP)) := fun Wc hc => ⟨hc,(hc.cell (p := ⟨b,o,none⟩) (Nat.lt_of_lt_of_le HB.out.1 HB.out.2.size)).trans y0,(hc.cell (p := ⟨b,o + 1,none⟩) (Nat.lt_of_lt_of_le HB.out.1 HB.out.2.size)).trans y1,(hc.cell (p := ⟨b,o + 2,none⟩) (Nat.lt_of_lt_of_le HB.out.1 HB.out.2.size)).trans y2,(hc.cell (p := ⟨b,o + 3,none⟩) (Nat.lt_of_lt_of_le HB.out.1 HB.out.2.size)).trans y3,(hc.cell (p := ⟨1,_,none⟩) HTb.out.2).trans ytb⟩
        have hk0 := HKp.out Wb.drew ⟨rfl,rfl,rfl,Nat.le_refl _,fun _ _ => rfl⟩
        gi_wp2_with fail
        refine region_round (S := (fun Wc => Aside (Below Wb.heap.size Wb Wc) /\ Wc.cell? ⟨b,o,none⟩ = some (.int .i64 kx) /\ Wc.cell? ⟨b,o + 1,none⟩ = some (.int .u64 x) /\ Wc.cell? ⟨b,o + 2,none⟩ = some (.string s) /\ Wc.cell? ⟨b,o + 3,none⟩ = some (.slice aS nS cS) /\ Wc.cell? ⟨1,kx.toNat * 3 + 1,none⟩ = some (.int .i64 PP))) (by kernel_rfl) (by kernel_rfl) (by rintro ⟨_,_,h⟩; exact h) hk0 (fun hHeld => ?_); clear hk0; refine sq_of [44] [0,1,2,3,4,5,6,7,8,9,10,11,12,13,14,15,16,17,18,19,20,21,22,23,24,25,26,27,28,29,30,31,32,33,34,35,36,37,38,39,40,41,42,43,44,45,46,47,48,49,50,51,52,53,54,55,56,57,58,59,60] (by kernel_rfl) hHeld ?_
        repeat (first | (refine sq_skip (by rfl) (by rfl) ?_; simp only [Act.put,z0,z1,z2]) | (refine sq_op (v := ?_) (by rfl) (by rfl) (by rfl) ?_ ?_; rotate_left; (focus (intro w hSw; (try dsimp only at hSw); go_simp <;> with_reducible rfl)); simp only [Act.put,z0,z1,z2]))
        refine sq_do (by rfl) (by rfl) (by rfl) (fun K hK => ?_)
        go_simp
        go_at_call 101; refine (formName_no s _).mono ?_; rintro e w9 ⟨he,hw9⟩
        rw [hsz] at he; subst he; obtain rfl := hw9.symm; refine hK.out _ _ hHeld (fun _ => ?_); clear hK K
        try simp only [Act.put,z0,z1,z2]
        repeat (first | (refine sq_skip (by rfl) (by rfl) ?_; simp only [Act.put,z0,z1,z2]) | (refine sq_op (v := ?_) (by rfl) (by rfl) (by rfl) ?_ ?_; rotate_left; (focus (intro w hSw; (try dsimp only at hSw); go_simp <;> with_reducible rfl)); simp only [Act.put,z0,z1,z2]))
        refine sq_end (fun _ => ?_); obtain ⟨⟨r1,r2⟩,r3⟩ := HEnd.out _ hHeld.1.out (fun hf => absurd (HFa.out hf) (by intro hh; rcases hh.2.2 with h | h; exact hkn1 h; exact hx0 h)); have HR3 : Hid _ := r3; clear r3
        gi_wp2_with fail
        exact HR3.out
      have hsz : decide (s.size = 0) = false := decide_eq_false hs0; have HKp : Hid (∀ Wc,Below Wb.heap.size Wb Wc -> Aside (Below Wb.heap.size Wb Wc) /\ Wc.cell? ⟨b,o,none⟩ = some (.int .i64 kx) /\ Wc.cell? ⟨b,o + 1,none⟩ = some (.int .u64 x) /\ Wc.cell? ⟨b,o + 2,none⟩ = some (.string s) /\ Wc.cell? ⟨b,o + 3,none⟩ = some (.slice aS nS cS) /\ Wc.cell? ⟨1,kx.toNat * 3 + 1,none⟩ = some (.int .i64 PP)) := fun Wc hc => ⟨hc,(hc.cell (p := ⟨b,o,none⟩) (Nat.lt_of_lt_of_le HB.out.1 HB.out.2.size)).trans y0,(hc.cell (p := ⟨b,o + 1,none⟩) (Nat.lt_of_lt_of_le HB.out.1 HB.out.2.size)).trans y1,(hc.cell (p := ⟨b,o + 2,none⟩) (Nat.lt_of_lt_of_le HB.out.1 HB.out.2.size)).trans y2,(hc.cell (p := ⟨b,o + 3,none⟩) (Nat.lt_of_lt_of_le HB.out.1 HB.out.2.size)).trans y3,(hc.cell (p := ⟨1,_,none⟩) HTb.out.2).trans ytb⟩
      have hk0 := HKp.out Wb.drew ⟨rfl,rfl,rfl,Nat.le_refl _,fun _ _ => rfl⟩
      gi_wp2_with fail
      refine region_round (S := (fun Wc => Aside (Below Wb.heap.size Wb Wc) /\ Wc.cell? ⟨b,o,none⟩ = some (.int .i64 kx) /\ Wc.cell? ⟨b,o + 1,none⟩ = some (.int .u64 x) /\ Wc.cell? ⟨b,o + 2,none⟩ = some (.string s) /\ Wc.cell? ⟨b,o + 3,none⟩ = some (.slice aS nS cS) /\ Wc.cell? ⟨1,kx.toNat * 3 + 1,none⟩ = some (.int .i64 PP))) (by kernel_rfl) (by kernel_rfl) (by rintro ⟨_,_,h⟩; exact h) hk0 (fun hHeld => ?_); clear hk0; refine sq_of [44] [0,1,2,3,4,5,6,7,8,9,10,11,12,13,14,15,16,17,18,19,20,21,22,23,24,25,26,27,28,29,30,31,32,33,34,35,36,37,38,39,40,41,42,43,44,45,46,47,48,49,50,51,52,53,54,55,56,57,58,59,60] (by kernel_rfl) hHeld ?_
      repeat (first | (refine sq_skip (by rfl) (by rfl) ?_; simp only [Act.put,z0,z1,z2]) | (refine sq_op (v := ?_) (by rfl) (by rfl) (by rfl) ?_ ?_; rotate_left; (focus (intro w hSw; (try dsimp only at hSw); go_simp <;> with_reducible rfl)); simp only [Act.put,z0,z1,z2]))
      refine sq_do (by rfl) (by rfl) (by rfl) (fun K hK => ?_)
      go_simp
      go_at_call 101; refine (formName_no s _).mono ?_; rintro e w9 ⟨he,hw9⟩
      rw [hsz] at he; subst he; obtain rfl := hw9.symm; refine hK.out _ _ hHeld (fun _ => ?_); clear hK K
      try simp only [Act.put,z0,z1,z2]
      repeat (first | (refine sq_skip (by rfl) (by rfl) ?_; simp only [Act.put,z0,z1,z2]) | (refine sq_op (v := ?_) (by rfl) (by rfl) (by rfl) ?_ ?_; rotate_left; (focus (intro w hSw; (try dsimp only at hSw); go_simp <;> with_reducible rfl)); simp only [Act.put,z0,z1,z2]))
      refine sq_end (fun _ => ?_); obtain ⟨⟨r1,r2⟩,r3⟩ := HEnd.out _ hHeld.1.out (fun hf => absurd (HFa.out hf) (by intro hh; have h9 := hh.2.1; rw [if_neg hno.out] at h9; exact hs0 h9)); have HR3 : Hid _ := r3; clear r3
      gi_wp2_with fail
      exact HR3.out
    have t6 : ((nS : Int) != prt kx) = true := by simpa using hpl
    have HKp : Hid (∀ Wc,Below Wb.heap.size Wb Wc -> Aside (Below Wb.heap.size Wb Wc) /\ Wc.cell? ⟨b,o,none⟩ = some (.int .i64 kx) /\ Wc.cell? ⟨b,o + 1,none⟩ = some (.int .u64 x) /\ Wc.cell? ⟨b,o + 2,none⟩ = some (.string s) /\ Wc.cell? ⟨b,o + 3,none⟩ = some (.slice aS nS cS) /\ Wc.cell? ⟨1,kx.toNat * 3 + 1,none⟩ = some (.int .i64 (prt kx))) := fun Wc hc => ⟨hc,(hc.cell (p := ⟨b,o,none⟩) (Nat.lt_of_lt_of_le HB.out.1 HB.out.2.size)).trans y0,(hc.cell (p := ⟨b,o + 1,none⟩) (Nat.lt_of_lt_of_le HB.out.1 HB.out.2.size)).trans y1,(hc.cell (p := ⟨b,o + 2,none⟩) (Nat.lt_of_lt_of_le HB.out.1 HB.out.2.size)).trans y2,(hc.cell (p := ⟨b,o + 3,none⟩) (Nat.lt_of_lt_of_le HB.out.1 HB.out.2.size)).trans y3,(hc.cell (p := ⟨1,_,none⟩) HTb.out.2).trans ytb⟩
    have hk0 := HKp.out Wb.drew ⟨rfl,rfl,rfl,Nat.le_refl _,fun _ _ => rfl⟩
    gi_wp2_with fail
    refine region_round (S := (fun Wc => Aside (Below Wb.heap.size Wb Wc) /\ Wc.cell? ⟨b,o,none⟩ = some (.int .i64 kx) /\ Wc.cell? ⟨b,o + 1,none⟩ = some (.int .u64 x) /\ Wc.cell? ⟨b,o + 2,none⟩ = some (.string s) /\ Wc.cell? ⟨b,o + 3,none⟩ = some (.slice aS nS cS) /\ Wc.cell? ⟨1,kx.toNat * 3 + 1,none⟩ = some (.int .i64 (prt kx)))) (by kernel_rfl) (by kernel_rfl) (by rintro ⟨_,_,h⟩; exact h) hk0 (fun hHeld => ?_); clear hk0; refine sq_of [] [0,1,2,3,4,5,6,7,8,9,10,11,12,13,14,15,16,17,18,19,20,21,22,23,24,25,26,27,28,29,30,31,32,33,34,35,36,37,38,39,40,41,42,43,44,45,46,47,48,49,50,51,52,53,54,55,56,57,58,59,60] (by kernel_rfl) hHeld ?_
    repeat (first | (refine sq_skip (by rfl) (by rfl) ?_; simp only [Act.put,z0,z1,z2]) | (refine sq_op (v := ?_) (by rfl) (by rfl) (by rfl) ?_ ?_; rotate_left; (focus (intro w hSw; (try dsimp only at hSw); go_simp <;> with_reducible rfl)); simp only [Act.put,z0,z1,z2]))
    refine sq_end (fun _ => ?_); obtain ⟨⟨r1,r2⟩,r3⟩ := HEnd.out _ hHeld.1.out (fun hf => absurd (HFa.out hf) (by intro hh; exact hpl hh.1)); have HR3 : Hid _ := r3; clear r3
    gi_wp2_with fail
    exact HR3.out
  case done =>
    intro D W' hD hF hB hK; have r1 : W'.heap[W.heap.size + 1]? = some (.cells #[.bool false] 4 (0,0)) := (hB.block _ (by omega)).trans HW5.out.2.2.1; have f1 : W'.cell? ⟨W.heap.size + 1,0,none⟩ = some (.bool false) := lc r1 0; have z1 : W'.frozen? ⟨W.heap.size + 1,0,none⟩ = false := by simp [World.frozen?,r1]
    have nD : D ≠ W.heap.size + 1 := by omega
    have hk2 : (W'.setCell ⟨W.heap.size + 1,0,none⟩ (.bool true)).heap[D]? = some (.deferred (some [])) := (heap_setCell_other _ _ _ _ nD).trans hK; have r2 : ((W'.setCell ⟨W.heap.size + 1,0,none⟩ (.bool true)).putObj D (.deferred none)).heap[W.heap.size + 1]? = some (.cells #[.bool true] 4 (0,0)) := (World.putObj_heap_other (Ne.symm nD)).trans (heap_setCell_same _ _ 0 _ _ _ r1); have HE : Hid (Below W.heap.size W ((W'.setCell ⟨W.heap.size + 1,0,none⟩ (.bool true)).putObj D (.deferred none))) := put_below ((bnext HW5.out.1 hB).setCell (by show W.heap.size <= W.heap.size + 1; omega) _) (by omega) _
    gi_wp2_with fail
    refine ⟨by simp,.inl ⟨_,_,rfl,run_takeDeferred hk2,?_⟩⟩; have c9 := lc r2 0; exact ⟨_,res_c1 (p := 2) rfl _ _ ⟨W.heap.size + 1,0,none⟩ (.bool true) rfl (by simp [loadVar,go_sem,c9]),BP.t hF HE.out⟩
  case stop =>
    rintro D W' hD ⟨hB,r1,hn⟩ hK; have nD : D ≠ W.heap.size + 1 := by omega
    have r2 : (W'.putObj D (.deferred none)).heap[W.heap.size + 1]? = some (.cells #[.bool false] 4 (0,0)) := (World.putObj_heap_other (Ne.symm nD)).trans r1; have HE : Hid (Below W.heap.size W (W'.putObj D (.deferred none))) := put_below hB (by omega) _
    gi_wp2_with fail
    refine ⟨by simp,.inl ⟨_,_,rfl,run_takeDeferred hK,?_⟩⟩; have c9 := lc r2 0; exact ⟨_,res_c1 (p := 2) rfl _ _ ⟨W.heap.size + 1,0,none⟩ (.bool false) rfl (by simp [loadVar,go_sem,c9]),BP.f hn HE.out⟩
end Go.Proofs.YtfljcdccepnidaaGreatDoor.Lf
