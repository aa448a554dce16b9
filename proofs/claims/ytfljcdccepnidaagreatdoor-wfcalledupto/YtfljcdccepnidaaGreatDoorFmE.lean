import Derived.Test.YtfljcdccepnidaaGreatDoorSqA
import Derived.Laws.Rows
import Derived.Deep.Cut
import Derived.Deep.DeepCutAuto
namespace Go.Proofs.YtfljcdccepnidaaGreatDoor.Lf
open Go.ChangeShapes Go.WideShapes Go.ChangeAt Go.RowKit Go.Bn

theorem lc {w : World} {G : Nat} {cs : Array Value} {e : TypeId} (h : w.heap[G]? = some (.cells cs e (0,0))) (j : Nat) : w.cell? ⟨G,j,none⟩ = cs[j]? := by
  simp [World.cell?,h]
theorem lbel (w : World) (o : Obj) : Below w.heap.size w (w.alloc o) := (Below.refl _ _).alloc (Nat.le_refl _) _
def XB (W : World) (g : Nat) (cs : Array Value) (X : World) : Prop := Aside (X.heap[g]? = some (.cells cs 43 (0,0)) /\ Below W.heap.size W X)
theorem XB.next {W X X' : World} {g : Nat} {cs : Array Value} (h : XB W g cs X) (hb : Below X.heap.size X X') : XB W g cs X' := ⟨(hb.block _ (Array.getElem?_eq_some_iff.1 h.out.1).1).trans h.out.1,bnext h.out.2 hb⟩
theorem XB.drew {W X : World} {g : Nat} {cs : Array Value} (h : XB W g cs X) : XB W g cs X.drew := ⟨h.out.1,⟨h.out.2.os,h.out.2.tape,h.out.2.output,h.out.2.size,h.out.2.block⟩⟩
def XS (W : World) (k x : Int) (s : ByteArray) (ad : Option Addr) (len cap : Nat) (X : World) : Prop := XB W W.heap.size #[.int .i64 k,.int .u64 x,.string s,.slice ad len cap] X /\ X.cell? ⟨W.heap.size,0,none⟩ = some (.int .i64 k) /\ X.cell? ⟨W.heap.size,1,none⟩ = some (.int .u64 x) /\ X.cell? ⟨W.heap.size,2,none⟩ = some (.string s) /\ X.cell? ⟨W.heap.size,3,none⟩ = some (.slice ad len cap)
theorem XS.of {W : World} {k x : Int} {s : ByteArray} {ad : Option Addr} {len cap : Nat} {X : World} (h : XB W W.heap.size #[.int .i64 k,.int .u64 x,.string s,.slice ad len cap] X) : XS W k x s ad len cap X := ⟨h,lc h.out.1 0,lc h.out.1 1,lc h.out.1 2,lc h.out.1 3⟩
set_option maxHeartbeats 16000000 in
set_option maxRecDepth 100000 in
theorem exprForm_any (w0 : World) : ∀ (n : Nat) (cs : List Value) (W : World),EX w0 n cs -> Below w0.heap.size w0 W -> Calls Tryz.prog 96 #[.agg cs.toArray] W (BP (FE w0 n cs) W) := by
  intro n
  induction n with
  | zero => exact fun cs W h _ => h.elim
  | succ n ih =>
    rintro cs W ⟨k,x,s,sl,rfl,hs,ad,len,cap,rfl,hlen,hsx⟩ hW; have IH : Hid (∀ (cs : List Value) (W : World),EX w0 n cs -> Below w0.heap.size w0 W -> Calls Tryz.prog 96 #[.agg cs.toArray] W (BP (FE w0 n cs) W)) := ih; clear ih; have HSX : Hid (0 < len -> ∃ b o,ad = some ⟨b,o,none⟩ /\ b < w0.heap.size /\ ∀ j,j < len -> ∃ v0 v1 v2 v3,w0.cell? ⟨b,o + j * 4,none⟩ = some v0 /\ w0.cell? ⟨b,o + j * 4 + 1,none⟩ = some v1 /\ w0.cell? ⟨b,o + j * 4 + 2,none⟩ = some v2 /\ w0.cell? ⟨b,o + j * 4 + 3,none⟩ = some v3 /\ EX w0 n [v0,v1,v2,v3]) := hsx; have HW : Hid (Below w0.heap.size w0 W) := hW; clear hsx hW; have HPa : Hid (∀ X,Calls Tryz.prog 103 #[.int .i64 k] X fun e w' => e = .returned (.int .i64 (prt k)) /\ w' = X) := fun X => parts_any k X
    have HNm : Hid (∀ X,Calls Tryz.prog 6 #[.string s] X fun e w' => e = .returned (.bool (nameB s)) /\ Below X.heap.size X w') := fun X => rName_any s X hs
    have HFE : Hid (FE w0 (n + 1) [.int .i64 k,.int .u64 x,.string s,.slice ad len cap] ↔ (((len : Nat) : Int) = prt k /\ (if k = 2 ∨ k = 3 then nameB s = true else s.size = 0) /\ (k = 1 ∨ x = 0)) /\ SF w0 (FE w0 n) (.slice ad len cap)) := FE_succ; have HX : Hid (XB W W.heap.size #[.int .i64 k,.int .u64 x,.string s,.slice ad len cap] (W.alloc (.cells #[.int .i64 k,.int .u64 x,.string s,.slice ad len cap] 43))) := ⟨heap_alloc_new _ _,lbel _ _⟩; obtain ⟨P,hP⟩ : ∃ P,prt k = P := ⟨_,rfl⟩; have HPe : Hid (prt k = P) := hP; rw [hP] at HPa HFE; clear hP
    show Calls Tryz.prog 96 #[.agg #[.int .i64 k,.int .u64 x,.string s,.slice ad len cap]] W _
    by_cases hk2 : k = 2
    · subst hk2
      obtain ⟨okX,hokX⟩ : ∃ okX : Prop,okX ↔ ((len : Int) = P /\ nameB s = true /\ ((2 : Int) = 1 ∨ x = 0)) := ⟨_,Iff.rfl⟩; have HOk : Hid (okX ↔ ((len : Int) = P /\ nameB s = true /\ ((2 : Int) = 1 ∨ x = 0))) := hokX; rw [if_pos (Or.inl rfl),<- hokX] at HFE; clear hokX
      go_enter Tryz.func96,Tryz.ntmps96
      go_wp2_with fail
      generalize W.alloc (.cells #[.int .i64 2,.int .u64 x,.string s,.slice ad len cap] 43) = W1 at *
      go_cut [45] (fun s45 wx => ∃ bd,s45 = .bool bd /\ Aside ((bd = false ↔ okX) /\ XB W W.heap.size #[.int .i64 2,.int .u64 x,.string s,.slice ad len cap] wx))
      case first =>
        by_cases hpl : (len : Int) = P
        · have t6 : ((len : Int) != P) = false := by simp [hpl]
          replace hpl : Hid ((len : Int) = P) := hpl
          by_cases hs0 : s.size = 0
          · have e0 := empty_yes s hs0
            refine wp_region_held_drew (S := (fun X => XB W W.heap.size #[.int .i64 2,.int .u64 x,.string s,.slice ad len cap] X /\ X.cell? ⟨W.heap.size,0,none⟩ = some (.int .i64 2) /\ X.cell? ⟨W.heap.size,1,none⟩ = some (.int .u64 x) /\ X.cell? ⟨W.heap.size,2,none⟩ = some (.string s) /\ X.cell? ⟨W.heap.size,3,none⟩ = some (.slice ad len cap))) (by kernel_rfl) (XS.of HX.out.drew) (fun hHeld => ?_); refine sq_of [5] [0,1,2,3,4,5,6,7,8,9,10,11,12,13,14,15,16,17,18,19,20,21,22,23,24,25,26,27,28,29,30,31,32] (by kernel_rfl) hHeld ?_
            repeat (first | (refine sq_skip (by rfl) (by rfl) ?_; simp only [Act.put,z0,z1,z2]) | (refine sq_op (v := ?_) (by rfl) (by rfl) (by rfl) ?_ ?_; rotate_left; (focus (intro w hSw; (try dsimp only at hSw); go_simp <;> with_reducible rfl)); simp only [Act.put,z0,z1,z2]))
            refine sq_do (by rfl) (by rfl) (by rfl) (fun K hK => ?_)
            go_simp
            go_at_call 103; refine (HPa.out _).mono ?_; rintro e w9 ⟨rfl,hw⟩; obtain rfl := hw.symm
            refine hK.out _ _ hHeld (fun _ => ?_); clear hK K
            try simp only [Act.put,z0,z1,z2]
            repeat (first | (refine sq_skip (by rfl) (by rfl) ?_; simp only [Act.put,z0,z1,z2]) | (refine sq_op (v := ?_) (by rfl) (by rfl) (by rfl) ?_ ?_; rotate_left; (focus (intro w hSw; (try dsimp only at hSw); go_simp <;> with_reducible rfl)); simp only [Act.put,z0,z1,z2]))
            refine sq_end (fun _ => ?_)
            try go_wp2_with fail
            go_meet
            exact ⟨true,rfl,⟨fun h => (by cases h),fun h => absurd (HOk.out.1 h) (by intro hh; exact nameB_pos hh.2.1 hs0)⟩,hHeld.1⟩
          have e0 := empty_no s hs0; cases hnm : nameB s with
          | false =>
            refine wp_region_held_drew (S := (fun X => XB W W.heap.size #[.int .i64 2,.int .u64 x,.string s,.slice ad len cap] X /\ X.cell? ⟨W.heap.size,0,none⟩ = some (.int .i64 2) /\ X.cell? ⟨W.heap.size,1,none⟩ = some (.int .u64 x) /\ X.cell? ⟨W.heap.size,2,none⟩ = some (.string s) /\ X.cell? ⟨W.heap.size,3,none⟩ = some (.slice ad len cap))) (by kernel_rfl) (XS.of HX.out.drew) (fun hHeld => ?_); refine sq_of [5,19] [0,1,2,3,4,5,6,7,8,9,10,11,12,13,14,15,16,17,18,19,20,21,22,23,24,25,26,27,28,29,30,31,32] (by kernel_rfl) hHeld ?_
            repeat (first | (refine sq_skip (by rfl) (by rfl) ?_; simp only [Act.put,z0,z1,z2]) | (refine sq_op (v := ?_) (by rfl) (by rfl) (by rfl) ?_ ?_; rotate_left; (focus (intro w hSw; (try dsimp only at hSw); go_simp <;> with_reducible rfl)); simp only [Act.put,z0,z1,z2]))
            refine sq_do (by rfl) (by rfl) (by rfl) (fun K hK => ?_)
            go_simp
            go_at_call 103; refine (HPa.out _).mono ?_; rintro e w9 ⟨rfl,hw⟩; obtain rfl := hw.symm
            refine hK.out _ _ hHeld (fun _ => ?_); clear hK K
            try simp only [Act.put,z0,z1,z2]
            repeat (first | (refine sq_skip (by rfl) (by rfl) ?_; simp only [Act.put,z0,z1,z2]) | (refine sq_op (v := ?_) (by rfl) (by rfl) (by rfl) ?_ ?_; rotate_left; (focus (intro w hSw; (try dsimp only at hSw); go_simp <;> with_reducible rfl)); simp only [Act.put,z0,z1,z2]))
            refine sq_do (by rfl) (by rfl) (by rfl) (fun K hK => ?_)
            go_simp
            go_at_call 6; refine (HNm.out _).mono ?_; rintro e w9 ⟨he,hb⟩
            rw [hnm] at he; subst he; have hx9 := XS.of (hHeld.1.next hb); clear hb hHeld; refine hK.out _ _ hx9 (fun hHeld => ?_); clear hK K hx9
            try simp only [Act.put,z0,z1,z2]
            repeat (first | (refine sq_skip (by rfl) (by rfl) ?_; simp only [Act.put,z0,z1,z2]) | (refine sq_op (v := ?_) (by rfl) (by rfl) (by rfl) ?_ ?_; rotate_left; (focus (intro w hSw; (try dsimp only at hSw); go_simp <;> with_reducible rfl)); simp only [Act.put,z0,z1,z2]))
            refine sq_end (fun _ => ?_)
            try go_wp2_with fail
            go_meet
            exact ⟨true,rfl,⟨fun h => (by cases h),fun h => absurd (HOk.out.1 h) (by intro hh; rw [hnm] at hh; exact absurd hh.2.1 (by decide))⟩,hHeld.1⟩
          | true =>
            by_cases hx0 : x = 0
            · have tx : (x != 0) = false := by simp [hx0]
              replace hx0 : Hid (x = 0) := hx0; refine wp_region_held_drew (S := (fun X => XB W W.heap.size #[.int .i64 2,.int .u64 x,.string s,.slice ad len cap] X /\ X.cell? ⟨W.heap.size,0,none⟩ = some (.int .i64 2) /\ X.cell? ⟨W.heap.size,1,none⟩ = some (.int .u64 x) /\ X.cell? ⟨W.heap.size,2,none⟩ = some (.string s) /\ X.cell? ⟨W.heap.size,3,none⟩ = some (.slice ad len cap))) (by kernel_rfl) (XS.of HX.out.drew) (fun hHeld => ?_); refine sq_of [5,19] [0,1,2,3,4,5,6,7,8,9,10,11,12,13,14,15,16,17,18,19,20,21,22,23,24,25,26,27,28,29,30,31,32] (by kernel_rfl) hHeld ?_
              repeat (first | (refine sq_skip (by rfl) (by rfl) ?_; simp only [Act.put,z0,z1,z2]) | (refine sq_op (v := ?_) (by rfl) (by rfl) (by rfl) ?_ ?_; rotate_left; (focus (intro w hSw; (try dsimp only at hSw); go_simp <;> with_reducible rfl)); simp only [Act.put,z0,z1,z2]))
              refine sq_do (by rfl) (by rfl) (by rfl) (fun K hK => ?_)
              go_simp
              go_at_call 103; refine (HPa.out _).mono ?_; rintro e w9 ⟨rfl,hw⟩; obtain rfl := hw.symm
              refine hK.out _ _ hHeld (fun _ => ?_); clear hK K
              try simp only [Act.put,z0,z1,z2]
              repeat (first | (refine sq_skip (by rfl) (by rfl) ?_; simp only [Act.put,z0,z1,z2]) | (refine sq_op (v := ?_) (by rfl) (by rfl) (by rfl) ?_ ?_; rotate_left; (focus (intro w hSw; (try dsimp only at hSw); go_simp <;> with_reducible rfl)); simp only [Act.put,z0,z1,z2]))
              refine sq_do (by rfl) (by rfl) (by rfl) (fun K hK => ?_)
              go_simp
              go_at_call 6; refine (HNm.out _).mono ?_; rintro e w9 ⟨he,hb⟩
              rw [hnm] at he; subst he; have hx9 := XS.of (hHeld.1.next hb); clear hb hHeld; refine hK.out _ _ hx9 (fun hHeld => ?_); clear hK K hx9
              try simp only [Act.put,z0,z1,z2]
              repeat (first | (refine sq_skip (by rfl) (by rfl) ?_; simp only [Act.put,z0,z1,z2]) | (refine sq_op (v := ?_) (by rfl) (by rfl) (by rfl) ?_ ?_; rotate_left; (focus (intro w hSw; (try dsimp only at hSw); go_simp <;> with_reducible rfl)); simp only [Act.put,z0,z1,z2]))
              refine sq_end (fun _ => ?_)
              try go_wp2_with fail
              go_meet
              exact ⟨false,rfl,⟨fun _ => HOk.out.2 (by exact ⟨hpl.out,hnm,Or.inr hx0.out⟩),fun _ => rfl⟩,hHeld.1⟩
            have tx : (x != 0) = true := by simpa using hx0
            refine wp_region_held_drew (S := (fun X => XB W W.heap.size #[.int .i64 2,.int .u64 x,.string s,.slice ad len cap] X /\ X.cell? ⟨W.heap.size,0,none⟩ = some (.int .i64 2) /\ X.cell? ⟨W.heap.size,1,none⟩ = some (.int .u64 x) /\ X.cell? ⟨W.heap.size,2,none⟩ = some (.string s) /\ X.cell? ⟨W.heap.size,3,none⟩ = some (.slice ad len cap))) (by kernel_rfl) (XS.of HX.out.drew) (fun hHeld => ?_); refine sq_of [5,19] [0,1,2,3,4,5,6,7,8,9,10,11,12,13,14,15,16,17,18,19,20,21,22,23,24,25,26,27,28,29,30,31,32] (by kernel_rfl) hHeld ?_
            repeat (first | (refine sq_skip (by rfl) (by rfl) ?_; simp only [Act.put,z0,z1,z2]) | (refine sq_op (v := ?_) (by rfl) (by rfl) (by rfl) ?_ ?_; rotate_left; (focus (intro w hSw; (try dsimp only at hSw); go_simp <;> with_reducible rfl)); simp only [Act.put,z0,z1,z2]))
            refine sq_do (by rfl) (by rfl) (by rfl) (fun K hK => ?_)
            go_simp
            go_at_call 103; refine (HPa.out _).mono ?_; rintro e w9 ⟨rfl,hw⟩; obtain rfl := hw.symm
            refine hK.out _ _ hHeld (fun _ => ?_); clear hK K
            try simp only [Act.put,z0,z1,z2]
            repeat (first | (refine sq_skip (by rfl) (by rfl) ?_; simp only [Act.put,z0,z1,z2]) | (refine sq_op (v := ?_) (by rfl) (by rfl) (by rfl) ?_ ?_; rotate_left; (focus (intro w hSw; (try dsimp only at hSw); go_simp <;> with_reducible rfl)); simp only [Act.put,z0,z1,z2]))
            refine sq_do (by rfl) (by rfl) (by rfl) (fun K hK => ?_)
            go_simp
            go_at_call 6; refine (HNm.out _).mono ?_; rintro e w9 ⟨he,hb⟩
            rw [hnm] at he; subst he; have hx9 := XS.of (hHeld.1.next hb); clear hb hHeld; refine hK.out _ _ hx9 (fun hHeld => ?_); clear hK K hx9
            try simp only [Act.put,z0,z1,z2]
            repeat (first | (refine sq_skip (by rfl) (by rfl) ?_; simp only [Act.put,z0,z1,z2]) | (refine sq_op (v := ?_) (by rfl) (by rfl) (by rfl) ?_ ?_; rotate_left; (focus (intro w hSw; (try dsimp only at hSw); go_simp <;> with_reducible rfl)); simp only [Act.put,z0,z1,z2]))
            refine sq_end (fun _ => ?_)
            try go_wp2_with fail
            go_meet
            exact ⟨true,rfl,⟨fun h => (by cases h),fun h => absurd (HOk.out.1 h) (by intro hh; rcases hh.2.2 with h | h; exact absurd h (by decide); exact hx0 h)⟩,hHeld.1⟩
        have t6 : ((len : Int) != P) = true := by simpa using hpl
        refine wp_region_held_drew (S := (fun X => XB W W.heap.size #[.int .i64 2,.int .u64 x,.string s,.slice ad len cap] X /\ X.cell? ⟨W.heap.size,0,none⟩ = some (.int .i64 2) /\ X.cell? ⟨W.heap.size,1,none⟩ = some (.int .u64 x) /\ X.cell? ⟨W.heap.size,2,none⟩ = some (.string s) /\ X.cell? ⟨W.heap.size,3,none⟩ = some (.slice ad len cap))) (by kernel_rfl) (XS.of HX.out.drew) (fun hHeld => ?_); refine sq_of [5] [0,1,2,3,4,5,6,7,8,9,10,11,12,13,14,15,16,17,18,19,20,21,22,23,24,25,26,27,28,29,30,31,32] (by kernel_rfl) hHeld ?_
        repeat (first | (refine sq_skip (by rfl) (by rfl) ?_; simp only [Act.put,z0,z1,z2]) | (refine sq_op (v := ?_) (by rfl) (by rfl) (by rfl) ?_ ?_; rotate_left; (focus (intro w hSw; (try dsimp only at hSw); go_simp <;> with_reducible rfl)); simp only [Act.put,z0,z1,z2]))
        refine sq_do (by rfl) (by rfl) (by rfl) (fun K hK => ?_)
        go_simp
        go_at_call 103; refine (HPa.out _).mono ?_; rintro e w9 ⟨rfl,hw⟩; obtain rfl := hw.symm
        refine hK.out _ _ hHeld (fun _ => ?_); clear hK K
        try simp only [Act.put,z0,z1,z2]
        repeat (first | (refine sq_skip (by rfl) (by rfl) ?_; simp only [Act.put,z0,z1,z2]) | (refine sq_op (v := ?_) (by rfl) (by rfl) (by rfl) ?_ ?_; rotate_left; (focus (intro w hSw; (try dsimp only at hSw); go_simp <;> with_reducible rfl)); simp only [Act.put,z0,z1,z2]))
        refine sq_end (fun _ => ?_)
        try go_wp2_with fail
        go_meet
        exact ⟨true,rfl,⟨fun h => (by cases h),fun h => absurd (HOk.out.1 h) (by intro hh; exact hpl hh.1)⟩,hHeld.1⟩
      case rest =>
        obtain ⟨bd,rfl,hok,hxb⟩ := hcut; have HXc : Hid (XB W W.heap.size #[.int .i64 2,.int .u64 x,.string s,.slice ad len cap] wc) := hxb; have HOb : Hid (bd = false ↔ okX) := hok; clear hok hxb HX HOk HPa HNm; cases bd with
        | true =>
          have HB9 : Hid (Below W.heap.size W wc) := HXc.out.out.2
          go_wp2
          go_ret
          exact BP.f (fun h => absurd (HOb.out.2 (HFE.out.1 h).1) (by decide)) HB9.out
        | false =>
          have HO2 : Hid okX := HOb.out.1 rfl; have c3 : wc.cell? ⟨W.heap.size,3,none⟩ = some (.slice ad len cap) := lc HXc.out.out.1 3
          go_wp2_with fail
          go_loopg [4] len (fun gk v4 wr => ∃ j : Nat,v4 = .int .i64 (j : Int) /\ j + gk = len /\ Aside (XB W W.heap.size #[.int .i64 2,.int .u64 x,.string s,.slice ad len cap] wr /\ ∀ i,i < j -> KO w0 (FE w0 n) ad i))
          case atStart => exact ⟨0,rfl,by omega,⟨HXc.out,fun i hi => absurd hi (by omega)⟩⟩
          case round =>
            clear HXc c3; obtain ⟨j,rfl,hj,HR⟩ := hrel; have HR2 : Hid (XB W W.heap.size #[.int .i64 2,.int .u64 x,.string s,.slice ad len cap] wr /\ ∀ i,i < j -> KO w0 (FE w0 n) ad i) := HR.out; clear HR; have c3 : wr.cell? ⟨W.heap.size,3,none⟩ = some (.slice ad len cap) := lc HR2.out.1.out.1 3
            by_cases hlt : j < len
            · have q1 : (j : Int) < (len : Int) := by omega
              obtain ⟨b,o,rfl,hb,hel⟩ := HSX.out (by omega); obtain ⟨v0,v1,v2,v3,h0,h1,h2,h3,hex⟩ := hel j hlt; have HB0 : Hid (Below w0.heap.size w0 wr) := bnext HW.out HR2.out.1.out.2; have y0 := (HB0.out.cell (p := ⟨b,o + j * 4,none⟩) hb).trans h0; have y1 := (HB0.out.cell (p := ⟨b,o + j * 4 + 1,none⟩) hb).trans h1; have y2 := (HB0.out.cell (p := ⟨b,o + j * 4 + 2,none⟩) hb).trans h2; have y3 := (HB0.out.cell (p := ⟨b,o + j * 4 + 3,none⟩) hb).trans h3; have HKo : Hid (KO w0 (FE w0 n) (some ⟨b,o,none⟩) j ↔ FE w0 n [v0,v1,v2,v3]) := KO_at h0 h1 h2 h3; have HCl : Hid (Calls Tryz.prog 96 #[.agg #[v0,v1,v2,v3]] wr (BP (FE w0 n [v0,v1,v2,v3]) wr)) := IH.out [v0,v1,v2,v3] wr hex HB0.out; clear hel h0 h1 h2 h3 hex hb
              go_wp2_with fail
              refine HCl.out.mono ?_; rintro e w1 ⟨bb,rfl,hiff,hbl⟩; have HB1 : Hid (Below wr.heap.size wr w1 /\ (bb = true ↔ FE w0 n [v0,v1,v2,v3])) := ⟨hbl,hiff⟩; clear hbl hiff y0 y1 y2 y3 c3 HCl; cases bb with
              | false =>
                have HE : Hid (Below W.heap.size W w1 /\ ¬ SF w0 (FE w0 n) (.slice (some ⟨b,o,none⟩) len cap)) := ⟨bnext HR2.out.1.out.2 HB1.out.1,fun h => absurd (HB1.out.2.2 (HKo.out.1 (SF_iff.1 h j hlt))) (by decide)⟩
                go_wp2
                go_ret
                exact BP.f (fun h => absurd (HFE.out.1 h).2 HE.out.2) HE.out.1
              | true =>
                have HN : Aside (XB W W.heap.size #[.int .i64 2,.int .u64 x,.string s,.slice (some ⟨b,o,none⟩) len cap] w1 /\ ∀ i,i < j + 1 -> KO w0 (FE w0 n) (some ⟨b,o,none⟩) i) := ⟨HR2.out.1.next HB1.out.1,fun i hi => by
                  by_cases e : i = j
                  · subst e
                    exact HKo.out.2 (HB1.out.2.1 rfl)
                  exact HR2.out.2 i (by omega)⟩
                go_wp2_with fail
                go_roundg (gk - 1)
                case measure => omega
                case rel => exact ⟨j + 1,by simp,by omega,HN⟩
            obtain rfl : j = len := by omega
            have q1 : ¬ (j : Int) < (j : Int) := by omega
            have HE : Hid (Below W.heap.size W wr /\ SF w0 (FE w0 n) (.slice ad j cap)) := ⟨HR2.out.1.out.2,SF_iff.2 HR2.out.2⟩
            go_wp2
            go_ret
            exact BP.t (HFE.out.2 ⟨HO2.out,HE.out.2⟩) HE.out.1
    by_cases hk3 : k = 3
    · subst hk3
      obtain ⟨okX,hokX⟩ : ∃ okX : Prop,okX ↔ ((len : Int) = P /\ nameB s = true /\ ((3 : Int) = 1 ∨ x = 0)) := ⟨_,Iff.rfl⟩; have HOk : Hid (okX ↔ ((len : Int) = P /\ nameB s = true /\ ((3 : Int) = 1 ∨ x = 0))) := hokX; rw [if_pos (Or.inr rfl),<- hokX] at HFE; clear hokX
      go_enter Tryz.func96,Tryz.ntmps96
      go_wp2_with fail
      generalize W.alloc (.cells #[.int .i64 3,.int .u64 x,.string s,.slice ad len cap] 43) = W1 at *
      go_cut [45] (fun s45 wx => ∃ bd,s45 = .bool bd /\ Aside ((bd = false ↔ okX) /\ XB W W.heap.size #[.int .i64 3,.int .u64 x,.string s,.slice ad len cap] wx))
      case first =>
        by_cases hpl : (len : Int) = P
        · have t6 : ((len : Int) != P) = false := by simp [hpl]
          replace hpl : Hid ((len : Int) = P) := hpl
          by_cases hs0 : s.size = 0
          · have e0 := empty_yes s hs0
            refine wp_region_held_drew (S := (fun X => XB W W.heap.size #[.int .i64 3,.int .u64 x,.string s,.slice ad len cap] X /\ X.cell? ⟨W.heap.size,0,none⟩ = some (.int .i64 3) /\ X.cell? ⟨W.heap.size,1,none⟩ = some (.int .u64 x) /\ X.cell? ⟨W.heap.size,2,none⟩ = some (.string s) /\ X.cell? ⟨W.heap.size,3,none⟩ = some (.slice ad len cap))) (by kernel_rfl) (XS.of HX.out.drew) (fun hHeld => ?_); refine sq_of [5] [0,1,2,3,4,5,6,7,8,9,10,11,12,13,14,15,16,17,18,19,20,21,22,23,24,25,26,27,28,29,30,31,32] (by kernel_rfl) hHeld ?_
            repeat (first | (refine sq_skip (by rfl) (by rfl) ?_; simp only [Act.put,z0,z1,z2]) | (refine sq_op (v := ?_) (by rfl) (by rfl) (by rfl) ?_ ?_; rotate_left; (focus (intro w hSw; (try dsimp only at hSw); go_simp <;> with_reducible rfl)); simp only [Act.put,z0,z1,z2]))
            refine sq_do (by rfl) (by rfl) (by rfl) (fun K hK => ?_)
            go_simp
            go_at_call 103; refine (HPa.out _).mono ?_; rintro e w9 ⟨rfl,hw⟩; obtain rfl := hw.symm
            refine hK.out _ _ hHeld (fun _ => ?_); clear hK K
            try simp only [Act.put,z0,z1,z2]
            repeat (first | (refine sq_skip (by rfl) (by rfl) ?_; simp only [Act.put,z0,z1,z2]) | (refine sq_op (v := ?_) (by rfl) (by rfl) (by rfl) ?_ ?_; rotate_left; (focus (intro w hSw; (try dsimp only at hSw); go_simp <;> with_reducible rfl)); simp only [Act.put,z0,z1,z2]))
            refine sq_end (fun _ => ?_)
            try go_wp2_with fail
            go_meet
            exact ⟨true,rfl,⟨fun h => (by cases h),fun h => absurd (HOk.out.1 h) (by intro hh; exact nameB_pos hh.2.1 hs0)⟩,hHeld.1⟩
          have e0 := empty_no s hs0; cases hnm : nameB s with
          | false =>
            refine wp_region_held_drew (S := (fun X => XB W W.heap.size #[.int .i64 3,.int .u64 x,.string s,.slice ad len cap] X /\ X.cell? ⟨W.heap.size,0,none⟩ = some (.int .i64 3) /\ X.cell? ⟨W.heap.size,1,none⟩ = some (.int .u64 x) /\ X.cell? ⟨W.heap.size,2,none⟩ = some (.string s) /\ X.cell? ⟨W.heap.size,3,none⟩ = some (.slice ad len cap))) (by kernel_rfl) (XS.of HX.out.drew) (fun hHeld => ?_); refine sq_of [5,19] [0,1,2,3,4,5,6,7,8,9,10,11,12,13,14,15,16,17,18,19,20,21,22,23,24,25,26,27,28,29,30,31,32] (by kernel_rfl) hHeld ?_
            repeat (first | (refine sq_skip (by rfl) (by rfl) ?_; simp only [Act.put,z0,z1,z2]) | (refine sq_op (v := ?_) (by rfl) (by rfl) (by rfl) ?_ ?_; rotate_left; (focus (intro w hSw; (try dsimp only at hSw); go_simp <;> with_reducible rfl)); simp only [Act.put,z0,z1,z2]))
            refine sq_do (by rfl) (by rfl) (by rfl) (fun K hK => ?_)
            go_simp
            go_at_call 103; refine (HPa.out _).mono ?_; rintro e w9 ⟨rfl,hw⟩; obtain rfl := hw.symm
            refine hK.out _ _ hHeld (fun _ => ?_); clear hK K
            try simp only [Act.put,z0,z1,z2]
            repeat (first | (refine sq_skip (by rfl) (by rfl) ?_; simp only [Act.put,z0,z1,z2]) | (refine sq_op (v := ?_) (by rfl) (by rfl) (by rfl) ?_ ?_; rotate_left; (focus (intro w hSw; (try dsimp only at hSw); go_simp <;> with_reducible rfl)); simp only [Act.put,z0,z1,z2]))
            refine sq_do (by rfl) (by rfl) (by rfl) (fun K hK => ?_)
            go_simp
            go_at_call 6; refine (HNm.out _).mono ?_; rintro e w9 ⟨he,hb⟩
            rw [hnm] at he; subst he; have hx9 := XS.of (hHeld.1.next hb); clear hb hHeld; refine hK.out _ _ hx9 (fun hHeld => ?_); clear hK K hx9
            try simp only [Act.put,z0,z1,z2]
            repeat (first | (refine sq_skip (by rfl) (by rfl) ?_; simp only [Act.put,z0,z1,z2]) | (refine sq_op (v := ?_) (by rfl) (by rfl) (by rfl) ?_ ?_; rotate_left; (focus (intro w hSw; (try dsimp only at hSw); go_simp <;> with_reducible rfl)); simp only [Act.put,z0,z1,z2]))
            refine sq_end (fun _ => ?_)
            try go_wp2_with fail
            go_meet
            exact ⟨true,rfl,⟨fun h => (by cases h),fun h => absurd (HOk.out.1 h) (by intro hh; rw [hnm] at hh; exact absurd hh.2.1 (by decide))⟩,hHeld.1⟩
          | true =>
            by_cases hx0 : x = 0
            · have tx : (x != 0) = false := by simp [hx0]
              replace hx0 : Hid (x = 0) := hx0; refine wp_region_held_drew (S := (fun X => XB W W.heap.size #[.int .i64 3,.int .u64 x,.string s,.slice ad len cap] X /\ X.cell? ⟨W.heap.size,0,none⟩ = some (.int .i64 3) /\ X.cell? ⟨W.heap.size,1,none⟩ = some (.int .u64 x) /\ X.cell? ⟨W.heap.size,2,none⟩ = some (.string s) /\ X.cell? ⟨W.heap.size,3,none⟩ = some (.slice ad len cap))) (by kernel_rfl) (XS.of HX.out.drew) (fun hHeld => ?_); refine sq_of [5,19] [0,1,2,3,4,5,6,7,8,9,10,11,12,13,14,15,16,17,18,19,20,21,22,23,24,25,26,27,28,29,30,31,32] (by kernel_rfl) hHeld ?_
              repeat (first | (refine sq_skip (by rfl) (by rfl) ?_; simp only [Act.put,z0,z1,z2]) | (refine sq_op (v := ?_) (by rfl) (by rfl) (by rfl) ?_ ?_; rotate_left; (focus (intro w hSw; (try dsimp only at hSw); go_simp <;> with_reducible rfl)); simp only [Act.put,z0,z1,z2]))
              refine sq_do (by rfl) (by rfl) (by rfl) (fun K hK => ?_)
              go_simp
              go_at_call 103; refine (HPa.out _).mono ?_; rintro e w9 ⟨rfl,hw⟩; obtain rfl := hw.symm
              refine hK.out _ _ hHeld (fun _ => ?_); clear hK K
              try simp only [Act.put,z0,z1,z2]
              repeat (first | (refine sq_skip (by rfl) (by rfl) ?_; simp only [Act.put,z0,z1,z2]) | (refine sq_op (v := ?_) (by rfl) (by rfl) (by rfl) ?_ ?_; rotate_left; (focus (intro w hSw; (try dsimp only at hSw); go_simp <;> with_reducible rfl)); simp only [Act.put,z0,z1,z2]))
              refine sq_do (by rfl) (by rfl) (by rfl) (fun K hK => ?_)
              go_simp
              go_at_call 6; refine (HNm.out _).mono ?_; rintro e w9 ⟨he,hb⟩
              rw [hnm] at he; subst he; have hx9 := XS.of (hHeld.1.next hb); clear hb hHeld; refine hK.out _ _ hx9 (fun hHeld => ?_); clear hK K hx9
              try simp only [Act.put,z0,z1,z2]
              repeat (first | (refine sq_skip (by rfl) (by rfl) ?_; simp only [Act.put,z0,z1,z2]) | (refine sq_op (v := ?_) (by rfl) (by rfl) (by rfl) ?_ ?_; rotate_left; (focus (intro w hSw; (try dsimp only at hSw); go_simp <;> with_reducible rfl)); simp only [Act.put,z0,z1,z2]))
              refine sq_end (fun _ => ?_)
              try go_wp2_with fail
              go_meet
              exact ⟨false,rfl,⟨fun _ => HOk.out.2 (by exact ⟨hpl.out,hnm,Or.inr hx0.out⟩),fun _ => rfl⟩,hHeld.1⟩
            have tx : (x != 0) = true := by simpa using hx0
            refine wp_region_held_drew (S := (fun X => XB W W.heap.size #[.int .i64 3,.int .u64 x,.string s,.slice ad len cap] X /\ X.cell? ⟨W.heap.size,0,none⟩ = some (.int .i64 3) /\ X.cell? ⟨W.heap.size,1,none⟩ = some (.int .u64 x) /\ X.cell? ⟨W.heap.size,2,none⟩ = some (.string s) /\ X.cell? ⟨W.heap.size,3,none⟩ = some (.slice ad len cap))) (by kernel_rfl) (XS.of HX.out.drew) (fun hHeld => ?_); refine sq_of [5,19] [0,1,2,3,4,5,6,7,8,9,10,11,12,13,14,15,16,17,18,19,20,21,22,23,24,25,26,27,28,29,30,31,32] (by kernel_rfl) hHeld ?_
            repeat (first | (refine sq_skip (by rfl) (by rfl) ?_; simp only [Act.put,z0,z1,z2]) | (refine sq_op (v := ?_) (by rfl) (by rfl) (by rfl) ?_ ?_; rotate_left; (focus (intro w hSw; (try dsimp only at hSw); go_simp <;> with_reducible rfl)); simp only [Act.put,z0,z1,z2]))
            refine sq_do (by rfl) (by rfl) (by rfl) (fun K hK => ?_)
            go_simp
            go_at_call 103; refine (HPa.out _).mono ?_; rintro e w9 ⟨rfl,hw⟩; obtain rfl := hw.symm
            refine hK.out _ _ hHeld (fun _ => ?_); clear hK K
            try simp only [Act.put,z0,z1,z2]
            repeat (first | (refine sq_skip (by rfl) (by rfl) ?_; simp only [Act.put,z0,z1,z2]) | (refine sq_op (v := ?_) (by rfl) (by rfl) (by rfl) ?_ ?_; rotate_left; (focus (intro w hSw; (try dsimp only at hSw); go_simp <;> with_reducible rfl)); simp only [Act.put,z0,z1,z2]))
            refine sq_do (by rfl) (by rfl) (by rfl) (fun K hK => ?_)
            go_simp
            go_at_call 6; refine (HNm.out _).mono ?_; rintro e w9 ⟨he,hb⟩
            rw [hnm] at he; subst he; have hx9 := XS.of (hHeld.1.next hb); clear hb hHeld; refine hK.out _ _ hx9 (fun hHeld => ?_); clear hK K hx9
            try simp only [Act.put,z0,z1,z2]
            repeat (first | (refine sq_skip (by rfl) (by rfl) ?_; simp only [Act.put,z0,z1,z2]) | (refine sq_op (v := ?_) (by rfl) (by rfl) (by rfl) ?_ ?_; rotate_left; (focus (intro w hSw; (try dsimp only at hSw); go_simp <;> with_reducible rfl)); simp only [Act.put,z0,z1,z2]))
            refine sq_end (fun _ => ?_)
            try go_wp2_with fail
            go_meet
            exact ⟨true,rfl,⟨fun h => (by cases h),fun h => absurd (HOk.out.1 h) (by intro hh; rcases hh.2.2 with h | h; exact absurd h (by decide); exact hx0 h)⟩,hHeld.1⟩
        have t6 : ((len : Int) != P) = true := by simpa using hpl
        refine wp_region_held_drew (S := (fun X => XB W W.heap.size #[.int .i64 3,.int .u64 x,.string s,.slice ad len cap] X /\ X.cell? ⟨W.heap.size,0,none⟩ = some (.int .i64 3) /\ X.cell? ⟨W.heap.size,1,none⟩ = some (.int .u64 x) /\ X.cell? ⟨W.heap.size,2,none⟩ = some (.string s) /\ X.cell? ⟨W.heap.size,3,none⟩ = some (.slice ad len cap))) (by kernel_rfl) (XS.of HX.out.drew) (fun hHeld => ?_); refine sq_of [5] [0,1,2,3,4,5,6,7,8,9,10,11,12,13,14,15,16,17,18,19,20,21,22,23,24,25,26,27,28,29,30,31,32] (by kernel_rfl) hHeld ?_
        repeat (first | (refine sq_skip (by rfl) (by rfl) ?_; simp only [Act.put,z0,z1,z2]) | (refine sq_op (v := ?_) (by rfl) (by rfl) (by rfl) ?_ ?_; rotate_left; (focus (intro w hSw; (try dsimp only at hSw); go_simp <;> with_reducible rfl)); simp only [Act.put,z0,z1,z2]))
        refine sq_do (by rfl) (by rfl) (by rfl) (fun K hK => ?_)
        go_simp
        go_at_call 103; refine (HPa.out _).mono ?_; rintro e w9 ⟨rfl,hw⟩; obtain rfl := hw.symm
        refine hK.out _ _ hHeld (fun _ => ?_); clear hK K
        try simp only [Act.put,z0,z1,z2]
        repeat (first | (refine sq_skip (by rfl) (by rfl) ?_; simp only [Act.put,z0,z1,z2]) | (refine sq_op (v := ?_) (by rfl) (by rfl) (by rfl) ?_ ?_; rotate_left; (focus (intro w hSw; (try dsimp only at hSw); go_simp <;> with_reducible rfl)); simp only [Act.put,z0,z1,z2]))
        refine sq_end (fun _ => ?_)
        try go_wp2_with fail
        go_meet
        exact ⟨true,rfl,⟨fun h => (by cases h),fun h => absurd (HOk.out.1 h) (by intro hh; exact hpl hh.1)⟩,hHeld.1⟩
      case rest =>
        obtain ⟨bd,rfl,hok,hxb⟩ := hcut; have HXc : Hid (XB W W.heap.size #[.int .i64 3,.int .u64 x,.string s,.slice ad len cap] wc) := hxb; have HOb : Hid (bd = false ↔ okX) := hok; clear hok hxb HX HOk HPa HNm; cases bd with
        | true =>
          have HB9 : Hid (Below W.heap.size W wc) := HXc.out.out.2
          go_wp2
          go_ret
          exact BP.f (fun h => absurd (HOb.out.2 (HFE.out.1 h).1) (by decide)) HB9.out
        | false =>
          have HO2 : Hid okX := HOb.out.1 rfl; have c3 : wc.cell? ⟨W.heap.size,3,none⟩ = some (.slice ad len cap) := lc HXc.out.out.1 3
          go_wp2_with fail
          go_loopg [4] len (fun gk v4 wr => ∃ j : Nat,v4 = .int .i64 (j : Int) /\ j + gk = len /\ Aside (XB W W.heap.size #[.int .i64 3,.int .u64 x,.string s,.slice ad len cap] wr /\ ∀ i,i < j -> KO w0 (FE w0 n) ad i))
          case atStart => exact ⟨0,rfl,by omega,⟨HXc.out,fun i hi => absurd hi (by omega)⟩⟩
          case round =>
            clear HXc c3; obtain ⟨j,rfl,hj,HR⟩ := hrel; have HR2 : Hid (XB W W.heap.size #[.int .i64 3,.int .u64 x,.string s,.slice ad len cap] wr /\ ∀ i,i < j -> KO w0 (FE w0 n) ad i) := HR.out; clear HR; have c3 : wr.cell? ⟨W.heap.size,3,none⟩ = some (.slice ad len cap) := lc HR2.out.1.out.1 3
            by_cases hlt : j < len
            · have q1 : (j : Int) < (len : Int) := by omega
              obtain ⟨b,o,rfl,hb,hel⟩ := HSX.out (by omega); obtain ⟨v0,v1,v2,v3,h0,h1,h2,h3,hex⟩ := hel j hlt; have HB0 : Hid (Below w0.heap.size w0 wr) := bnext HW.out HR2.out.1.out.2; have y0 := (HB0.out.cell (p := ⟨b,o + j * 4,none⟩) hb).trans h0; have y1 := (HB0.out.cell (p := ⟨b,o + j * 4 + 1,none⟩) hb).trans h1; have y2 := (HB0.out.cell (p := ⟨b,o + j * 4 + 2,none⟩) hb).trans h2; have y3 := (HB0.out.cell (p := ⟨b,o + j * 4 + 3,none⟩) hb).trans h3; have HKo : Hid (KO w0 (FE w0 n) (some ⟨b,o,none⟩) j ↔ FE w0 n [v0,v1,v2,v3]) := KO_at h0 h1 h2 h3; have HCl : Hid (Calls Tryz.prog 96 #[.agg #[v0,v1,v2,v3]] wr (BP (FE w0 n [v0,v1,v2,v3]) wr)) := IH.out [v0,v1,v2,v3] wr hex HB0.out; clear hel h0 h1 h2 h3 hex hb
              go_wp2_with fail
              refine HCl.out.mono ?_; rintro e w1 ⟨bb,rfl,hiff,hbl⟩; have HB1 : Hid (Below wr.heap.size wr w1 /\ (bb = true ↔ FE w0 n [v0,v1,v2,v3])) := ⟨hbl,hiff⟩; clear hbl hiff y0 y1 y2 y3 c3 HCl; cases bb with
              | false =>
                have HE : Hid (Below W.heap.size W w1 /\ ¬ SF w0 (FE w0 n) (.slice (some ⟨b,o,none⟩) len cap)) := ⟨bnext HR2.out.1.out.2 HB1.out.1,fun h => absurd (HB1.out.2.2 (HKo.out.1 (SF_iff.1 h j hlt))) (by decide)⟩
                go_wp2
                go_ret
                exact BP.f (fun h => absurd (HFE.out.1 h).2 HE.out.2) HE.out.1
              | true =>
                have HN : Aside (XB W W.heap.size #[.int .i64 3,.int .u64 x,.string s,.slice (some ⟨b,o,none⟩) len cap] w1 /\ ∀ i,i < j + 1 -> KO w0 (FE w0 n) (some ⟨b,o,none⟩) i) := ⟨HR2.out.1.next HB1.out.1,fun i hi => by
                  by_cases e : i = j
                  · subst e
                    exact HKo.out.2 (HB1.out.2.1 rfl)
                  exact HR2.out.2 i (by omega)⟩
                go_wp2_with fail
                go_roundg (gk - 1)
                case measure => omega
                case rel => exact ⟨j + 1,by simp,by omega,HN⟩
            obtain rfl : j = len := by omega
            have q1 : ¬ (j : Int) < (j : Int) := by omega
            have HE : Hid (Below W.heap.size W wr /\ SF w0 (FE w0 n) (.slice ad j cap)) := ⟨HR2.out.1.out.2,SF_iff.2 HR2.out.2⟩
            go_wp2
            go_ret
            exact BP.t (HFE.out.2 ⟨HO2.out,HE.out.2⟩) HE.out.1
    have t2 : (k == 2) = false := by simpa using hk2
    have t3 : (k == 3) = false := by simpa using hk3
    obtain ⟨okX,hokX⟩ : ∃ okX : Prop,okX ↔ ((len : Int) = P /\ s.size = 0 /\ (k = 1 ∨ x = 0)) := ⟨_,Iff.rfl⟩; have HOk : Hid (okX ↔ ((len : Int) = P /\ s.size = 0 /\ (k = 1 ∨ x = 0))) := hokX; rw [if_neg (by omega),<- hokX] at HFE; clear hokX
    go_enter Tryz.func96,Tryz.ntmps96
    go_wp2_with fail
    generalize W.alloc (.cells #[.int .i64 k,.int .u64 x,.string s,.slice ad len cap] 43) = W1 at *
    go_cut [45] (fun s45 wx => ∃ bd,s45 = .bool bd /\ Aside ((bd = false ↔ okX) /\ XB W W.heap.size #[.int .i64 k,.int .u64 x,.string s,.slice ad len cap] wx))
    case first =>
      by_cases hpl : (len : Int) = P
      · have t6 : ((len : Int) != P) = false := by simp [hpl]
        replace hpl : Hid ((len : Int) = P) := hpl
        by_cases hs0 : s.size = 0
        · have e0 := empty_yes s hs0
          by_cases hk1 : k = 1
          · have t1 : (k != 1) = false := by simp [hk1]
            replace hk1 : Hid (k = 1) := hk1; refine wp_region_held_drew (S := (fun X => XB W W.heap.size #[.int .i64 k,.int .u64 x,.string s,.slice ad len cap] X /\ X.cell? ⟨W.heap.size,0,none⟩ = some (.int .i64 k) /\ X.cell? ⟨W.heap.size,1,none⟩ = some (.int .u64 x) /\ X.cell? ⟨W.heap.size,2,none⟩ = some (.string s) /\ X.cell? ⟨W.heap.size,3,none⟩ = some (.slice ad len cap))) (by kernel_rfl) (XS.of HX.out.drew) (fun hHeld => ?_); refine sq_of [5] [0,1,2,3,4,5,6,7,8,9,10,11,12,13,14,15,16,17,18,19,20,21,22,23,24,25,26,27,28,29,30,31,32] (by kernel_rfl) hHeld ?_
            repeat (first | (refine sq_skip (by rfl) (by rfl) ?_; simp only [Act.put,z0,z1,z2]) | (refine sq_op (v := ?_) (by rfl) (by rfl) (by rfl) ?_ ?_; rotate_left; (focus (intro w hSw; (try dsimp only at hSw); go_simp <;> with_reducible rfl)); simp only [Act.put,z0,z1,z2]))
            refine sq_do (by rfl) (by rfl) (by rfl) (fun K hK => ?_)
            go_simp
            go_at_call 103; refine (HPa.out _).mono ?_; rintro e w9 ⟨rfl,hw⟩; obtain rfl := hw.symm
            refine hK.out _ _ hHeld (fun _ => ?_); clear hK K
            try simp only [Act.put,z0,z1,z2]
            repeat (first | (refine sq_skip (by rfl) (by rfl) ?_; simp only [Act.put,z0,z1,z2]) | (refine sq_op (v := ?_) (by rfl) (by rfl) (by rfl) ?_ ?_; rotate_left; (focus (intro w hSw; (try dsimp only at hSw); go_simp <;> with_reducible rfl)); simp only [Act.put,z0,z1,z2]))
            refine sq_end (fun _ => ?_)
            try go_wp2_with fail
            go_meet
            exact ⟨false,rfl,⟨fun _ => HOk.out.2 (by exact ⟨hpl.out,hs0,Or.inl hk1.out⟩),fun _ => rfl⟩,hHeld.1⟩
          have t1 : (k != 1) = true := by simpa using hk1
          by_cases hx0 : x = 0
          · have tx : (x != 0) = false := by simp [hx0]
            replace hx0 : Hid (x = 0) := hx0; refine wp_region_held_drew (S := (fun X => XB W W.heap.size #[.int .i64 k,.int .u64 x,.string s,.slice ad len cap] X /\ X.cell? ⟨W.heap.size,0,none⟩ = some (.int .i64 k) /\ X.cell? ⟨W.heap.size,1,none⟩ = some (.int .u64 x) /\ X.cell? ⟨W.heap.size,2,none⟩ = some (.string s) /\ X.cell? ⟨W.heap.size,3,none⟩ = some (.slice ad len cap))) (by kernel_rfl) (XS.of HX.out.drew) (fun hHeld => ?_); refine sq_of [5] [0,1,2,3,4,5,6,7,8,9,10,11,12,13,14,15,16,17,18,19,20,21,22,23,24,25,26,27,28,29,30,31,32] (by kernel_rfl) hHeld ?_
            repeat (first | (refine sq_skip (by rfl) (by rfl) ?_; simp only [Act.put,z0,z1,z2]) | (refine sq_op (v := ?_) (by rfl) (by rfl) (by rfl) ?_ ?_; rotate_left; (focus (intro w hSw; (try dsimp only at hSw); go_simp <;> with_reducible rfl)); simp only [Act.put,z0,z1,z2]))
            refine sq_do (by rfl) (by rfl) (by rfl) (fun K hK => ?_)
            go_simp
            go_at_call 103; refine (HPa.out _).mono ?_; rintro e w9 ⟨rfl,hw⟩; obtain rfl := hw.symm
            refine hK.out _ _ hHeld (fun _ => ?_); clear hK K
            try simp only [Act.put,z0,z1,z2]
            repeat (first | (refine sq_skip (by rfl) (by rfl) ?_; simp only [Act.put,z0,z1,z2]) | (refine sq_op (v := ?_) (by rfl) (by rfl) (by rfl) ?_ ?_; rotate_left; (focus (intro w hSw; (try dsimp only at hSw); go_simp <;> with_reducible rfl)); simp only [Act.put,z0,z1,z2]))
            refine sq_end (fun _ => ?_)
            try go_wp2_with fail
            go_meet
            exact ⟨false,rfl,⟨fun _ => HOk.out.2 (by exact ⟨hpl.out,hs0,Or.inr hx0.out⟩),fun _ => rfl⟩,hHeld.1⟩
          have tx : (x != 0) = true := by simpa using hx0
          refine wp_region_held_drew (S := (fun X => XB W W.heap.size #[.int .i64 k,.int .u64 x,.string s,.slice ad len cap] X /\ X.cell? ⟨W.heap.size,0,none⟩ = some (.int .i64 k) /\ X.cell? ⟨W.heap.size,1,none⟩ = some (.int .u64 x) /\ X.cell? ⟨W.heap.size,2,none⟩ = some (.string s) /\ X.cell? ⟨W.heap.size,3,none⟩ = some (.slice ad len cap))) (by kernel_rfl) (XS.of HX.out.drew) (fun hHeld => ?_); refine sq_of [5] [0,1,2,3,4,5,6,7,8,9,10,11,12,13,14,15,16,17,18,19,20,21,22,23,24,25,26,27,28,29,30,31,32] (by kernel_rfl) hHeld ?_
          repeat (first | (refine sq_skip (by rfl) (by rfl) ?_; simp only [Act.put,z0,z1,z2]) | (refine sq_op (v := ?_) (by rfl) (by rfl) (by rfl) ?_ ?_; rotate_left; (focus (intro w hSw; (try dsimp only at hSw); go_simp <;> with_reducible rfl)); simp only [Act.put,z0,z1,z2]))
          refine sq_do (by rfl) (by rfl) (by rfl) (fun K hK => ?_)
          go_simp
          go_at_call 103; refine (HPa.out _).mono ?_; rintro e w9 ⟨rfl,hw⟩; obtain rfl := hw.symm
          refine hK.out _ _ hHeld (fun _ => ?_); clear hK K
          try simp only [Act.put,z0,z1,z2]
          repeat (first | (refine sq_skip (by rfl) (by rfl) ?_; simp only [Act.put,z0,z1,z2]) | (refine sq_op (v := ?_) (by rfl) (by rfl) (by rfl) ?_ ?_; rotate_left; (focus (intro w hSw; (try dsimp only at hSw); go_simp <;> with_reducible rfl)); simp only [Act.put,z0,z1,z2]))
          refine sq_end (fun _ => ?_)
          try go_wp2_with fail
          go_meet
          exact ⟨true,rfl,⟨fun h => (by cases h),fun h => absurd (HOk.out.1 h) (by intro hh; rcases hh.2.2 with h | h; exact hk1 h; exact hx0 h)⟩,hHeld.1⟩
        have e0 := empty_no s hs0; refine wp_region_held_drew (S := (fun X => XB W W.heap.size #[.int .i64 k,.int .u64 x,.string s,.slice ad len cap] X /\ X.cell? ⟨W.heap.size,0,none⟩ = some (.int .i64 k) /\ X.cell? ⟨W.heap.size,1,none⟩ = some (.int .u64 x) /\ X.cell? ⟨W.heap.size,2,none⟩ = some (.string s) /\ X.cell? ⟨W.heap.size,3,none⟩ = some (.slice ad len cap))) (by kernel_rfl) (XS.of HX.out.drew) (fun hHeld => ?_); refine sq_of [5] [0,1,2,3,4,5,6,7,8,9,10,11,12,13,14,15,16,17,18,19,20,21,22,23,24,25,26,27,28,29,30,31,32] (by kernel_rfl) hHeld ?_
        repeat (first | (refine sq_skip (by rfl) (by rfl) ?_; simp only [Act.put,z0,z1,z2]) | (refine sq_op (v := ?_) (by rfl) (by rfl) (by rfl) ?_ ?_; rotate_left; (focus (intro w hSw; (try dsimp only at hSw); go_simp <;> with_reducible rfl)); simp only [Act.put,z0,z1,z2]))
        refine sq_do (by rfl) (by rfl) (by rfl) (fun K hK => ?_)
        go_simp
        go_at_call 103; refine (HPa.out _).mono ?_; rintro e w9 ⟨rfl,hw⟩; obtain rfl := hw.symm
        refine hK.out _ _ hHeld (fun _ => ?_); clear hK K
        try simp only [Act.put,z0,z1,z2]
        repeat (first | (refine sq_skip (by rfl) (by rfl) ?_; simp only [Act.put,z0,z1,z2]) | (refine sq_op (v := ?_) (by rfl) (by rfl) (by rfl) ?_ ?_; rotate_left; (focus (intro w hSw; (try dsimp only at hSw); go_simp <;> with_reducible rfl)); simp only [Act.put,z0,z1,z2]))
        refine sq_end (fun _ => ?_)
        try go_wp2_with fail
        go_meet
        exact ⟨true,rfl,⟨fun h => (by cases h),fun h => absurd (HOk.out.1 h) (by intro hh; exact hs0 hh.2.1)⟩,hHeld.1⟩
      have t6 : ((len : Int) != P) = true := by simpa using hpl
      refine wp_region_held_drew (S := (fun X => XB W W.heap.size #[.int .i64 k,.int .u64 x,.string s,.slice ad len cap] X /\ X.cell? ⟨W.heap.size,0,none⟩ = some (.int .i64 k) /\ X.cell? ⟨W.heap.size,1,none⟩ = some (.int .u64 x) /\ X.cell? ⟨W.heap.size,2,none⟩ = some (.string s) /\ X.cell? ⟨W.heap.size,3,none⟩ = some (.slice ad len cap))) (by kernel_rfl) (XS.of HX.out.drew) (fun hHeld => ?_); refine sq_of [5] [0,1,2,3,4,5,6,7,8,9,10,11,12,13,14,15,16,17,18,19,20,21,22,23,24,25,26,27,28,29,30,31,32] (by kernel_rfl) hHeld ?_
      repeat (first | (refine sq_skip (by rfl) (by rfl) ?_; simp only [Act.put,z0,z1,z2]) | (refine sq_op (v := ?_) (by rfl) (by rfl) (by rfl) ?_ ?_; rotate_left; (focus (intro w hSw; (try dsimp only at hSw); go_simp <;> with_reducible rfl)); simp only [Act.put,z0,z1,z2]))
      refine sq_do (by rfl) (by rfl) (by rfl) (fun K hK => ?_)
      go_simp
      go_at_call 103; refine (HPa.out _).mono ?_; rintro e w9 ⟨rfl,hw⟩; obtain rfl := hw.symm
      refine hK.out _ _ hHeld (fun _ => ?_); clear hK K
      try simp only [Act.put,z0,z1,z2]
      repeat (first | (refine sq_skip (by rfl) (by rfl) ?_; simp only [Act.put,z0,z1,z2]) | (refine sq_op (v := ?_) (by rfl) (by rfl) (by rfl) ?_ ?_; rotate_left; (focus (intro w hSw; (try dsimp only at hSw); go_simp <;> with_reducible rfl)); simp only [Act.put,z0,z1,z2]))
      refine sq_end (fun _ => ?_)
      try go_wp2_with fail
      go_meet
      exact ⟨true,rfl,⟨fun h => (by cases h),fun h => absurd (HOk.out.1 h) (by intro hh; exact hpl hh.1)⟩,hHeld.1⟩
    case rest =>
      obtain ⟨bd,rfl,hok,hxb⟩ := hcut; have HXc : Hid (XB W W.heap.size #[.int .i64 k,.int .u64 x,.string s,.slice ad len cap] wc) := hxb; have HOb : Hid (bd = false ↔ okX) := hok; clear hok hxb HX HOk HPa HNm; cases bd with
      | true =>
        have HB9 : Hid (Below W.heap.size W wc) := HXc.out.out.2
        go_wp2
        go_ret
        exact BP.f (fun h => absurd (HOb.out.2 (HFE.out.1 h).1) (by decide)) HB9.out
      | false =>
        have HO2 : Hid okX := HOb.out.1 rfl; have c3 : wc.cell? ⟨W.heap.size,3,none⟩ = some (.slice ad len cap) := lc HXc.out.out.1 3
        go_wp2_with fail
        go_loopg [4] len (fun gk v4 wr => ∃ j : Nat,v4 = .int .i64 (j : Int) /\ j + gk = len /\ Aside (XB W W.heap.size #[.int .i64 k,.int .u64 x,.string s,.slice ad len cap] wr /\ ∀ i,i < j -> KO w0 (FE w0 n) ad i))
        case atStart => exact ⟨0,rfl,by omega,⟨HXc.out,fun i hi => absurd hi (by omega)⟩⟩
        case round =>
          clear HXc c3; obtain ⟨j,rfl,hj,HR⟩ := hrel; have HR2 : Hid (XB W W.heap.size #[.int .i64 k,.int .u64 x,.string s,.slice ad len cap] wr /\ ∀ i,i < j -> KO w0 (FE w0 n) ad i) := HR.out; clear HR; have c3 : wr.cell? ⟨W.heap.size,3,none⟩ = some (.slice ad len cap) := lc HR2.out.1.out.1 3
          by_cases hlt : j < len
          · have q1 : (j : Int) < (len : Int) := by omega
            obtain ⟨b,o,rfl,hb,hel⟩ := HSX.out (by omega); obtain ⟨v0,v1,v2,v3,h0,h1,h2,h3,hex⟩ := hel j hlt; have HB0 : Hid (Below w0.heap.size w0 wr) := bnext HW.out HR2.out.1.out.2; have y0 := (HB0.out.cell (p := ⟨b,o + j * 4,none⟩) hb).trans h0; have y1 := (HB0.out.cell (p := ⟨b,o + j * 4 + 1,none⟩) hb).trans h1; have y2 := (HB0.out.cell (p := ⟨b,o + j * 4 + 2,none⟩) hb).trans h2; have y3 := (HB0.out.cell (p := ⟨b,o + j * 4 + 3,none⟩) hb).trans h3; have HKo : Hid (KO w0 (FE w0 n) (some ⟨b,o,none⟩) j ↔ FE w0 n [v0,v1,v2,v3]) := KO_at h0 h1 h2 h3; have HCl : Hid (Calls Tryz.prog 96 #[.agg #[v0,v1,v2,v3]] wr (BP (FE w0 n [v0,v1,v2,v3]) wr)) := IH.out [v0,v1,v2,v3] wr hex HB0.out; clear hel h0 h1 h2 h3 hex hb
            go_wp2_with fail
            refine HCl.out.mono ?_; rintro e w1 ⟨bb,rfl,hiff,hbl⟩; have HB1 : Hid (Below wr.heap.size wr w1 /\ (bb = true ↔ FE w0 n [v0,v1,v2,v3])) := ⟨hbl,hiff⟩; clear hbl hiff y0 y1 y2 y3 c3 HCl; cases bb with
            | false =>
              have HE : Hid (Below W.heap.size W w1 /\ ¬ SF w0 (FE w0 n) (.slice (some ⟨b,o,none⟩) len cap)) := ⟨bnext HR2.out.1.out.2 HB1.out.1,fun h => absurd (HB1.out.2.2 (HKo.out.1 (SF_iff.1 h j hlt))) (by decide)⟩
              go_wp2
              go_ret
              exact BP.f (fun h => absurd (HFE.out.1 h).2 HE.out.2) HE.out.1
            | true =>
              have HN : Aside (XB W W.heap.size #[.int .i64 k,.int .u64 x,.string s,.slice (some ⟨b,o,none⟩) len cap] w1 /\ ∀ i,i < j + 1 -> KO w0 (FE w0 n) (some ⟨b,o,none⟩) i) := ⟨HR2.out.1.next HB1.out.1,fun i hi => by
                by_cases e : i = j
                · subst e
                  exact HKo.out.2 (HB1.out.2.1 rfl)
                exact HR2.out.2 i (by omega)⟩
              go_wp2_with fail
              go_roundg (gk - 1)
              case measure => omega
              case rel => exact ⟨j + 1,by simp,by omega,HN⟩
          obtain rfl : j = len := by omega
          have q1 : ¬ (j : Int) < (j : Int) := by omega
          have HE : Hid (Below W.heap.size W wr /\ SF w0 (FE w0 n) (.slice ad j cap)) := ⟨HR2.out.1.out.2,SF_iff.2 HR2.out.2⟩
          go_wp2
          go_ret
          exact BP.t (HFE.out.2 ⟨HO2.out,HE.out.2⟩) HE.out.1
end Go.Proofs.YtfljcdccepnidaaGreatDoor.Lf
