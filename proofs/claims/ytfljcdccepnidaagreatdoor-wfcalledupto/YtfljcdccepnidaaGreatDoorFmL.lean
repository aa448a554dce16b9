import Derived.Test.YtfljcdccepnidaaGreatDoorFmQ
import Derived.Test.YtfljcdccepnidaaGreatDoorFmU
import Derived.Test.YtfljcdccepnidaaGreatDoorSqA
import Derived.Test.YtfljcdccepnidaaGreatDoorRows
import Derived.OrdersHeld
import Derived.OrdersIn
import Derived.Deep.RegionHeld
import Derived.RangeFuncNested
namespace Go.Proofs.YtfljcdccepnidaaGreatDoor.Lf
open Go.ChangeShapes Go.WideShapes Go.ChangeAt Go.RowKit Go.Bn

set_option maxRecDepth 100000 in
set_option maxHeartbeats 32000000 in
theorem formStmt_core (W : World) (b o : Nat) (s : ByteArray) (ka xa : Int) (sa : ByteArray) (aA : Option Addr) (nA cA : Nat) (ke xe : Int) (se : ByteArray) (aE : Option Addr) (nE cE : Nat) (lo hi : Int) (a1 : Option Addr) (n1 c1 : Nat) (a2 : Option Addr) (n2 c2 : Nat) (f0 f1 f2 f3 f4 f5 : Bool) (PN PA PE : Prop)
    (hc : W.cell? ⟨b,o + 1,none⟩ = some (.string s) /\ W.cell? ⟨b,o + 2,none⟩ = some (.int .i64 ka) /\ W.cell? ⟨b,o + 3,none⟩ = some (.int .u64 xa) /\ W.cell? ⟨b,o + 4,none⟩ = some (.string sa) /\ W.cell? ⟨b,o + 5,none⟩ = some (.slice aA nA cA) /\ W.cell? ⟨b,o + 6,none⟩ = some (.int .i64 ke) /\ W.cell? ⟨b,o + 7,none⟩ = some (.int .u64 xe) /\ W.cell? ⟨b,o + 8,none⟩ = some (.string se) /\ W.cell? ⟨b,o + 9,none⟩ = some (.slice aE nE cE) /\ W.cell? ⟨b,o + 10,none⟩ = some (.int .u64 lo) /\ W.cell? ⟨b,o + 11,none⟩ = some (.int .u64 hi) /\ W.cell? ⟨b,o + 12,none⟩ = some (.slice a1 n1 c1) /\ W.cell? ⟨b,o + 13,none⟩ = some (.slice a2 n2 c2)) (hb : b < W.heap.size)
    (hN : ∀ X,Below W.heap.size W X -> Calls Tryz.prog 101 #[.string s,.bool f0] X (BP PN X)) (hA : ∀ X,Below W.heap.size W X -> Calls Tryz.prog 102 #[.agg #[.int .i64 ka,.int .u64 xa,.string sa,.slice aA nA cA],.bool f1] X (BP PA X)) (hE : ∀ X,Below W.heap.size W X -> Calls Tryz.prog 102 #[.agg #[.int .i64 ke,.int .u64 xe,.string se,.slice aE nE cE],.bool f2] X (BP PE X)) :
    Calls Tryz.prog 94 #[.pointer (some ⟨b,o,none⟩),.agg #[.bool f0,.bool f1,.bool f2,.bool f3,.bool f4,.bool f5]] W (BP (PN /\ PA /\ PE /\ (f3 = true ∨ lo = 0 /\ hi = 0) /\ (f4 = true ∨ n1 = 0) /\ (f5 = true ∨ n2 = 0)) W) := by
  obtain ⟨W1,hW1⟩ : ∃ W1,W.alloc (.cells #[.bool f0,.bool f1,.bool f2,.bool f3,.bool f4,.bool f5] 138) = W1 := ⟨_,rfl⟩; have HY1 : Hid (YB W 138 #[.bool f0,.bool f1,.bool f2,.bool f3,.bool f4,.bool f5] W1) := by rw [<- hW1]; exact ⟨heap_alloc_new _ _,lbel _ _⟩
  have HW1e : Hid (W.alloc (.cells #[.bool f0,.bool f1,.bool f2,.bool f3,.bool f4,.bool f5] 138) = W1) := hW1; have HN : Hid (∀ X,Below W.heap.size W X -> Calls Tryz.prog 101 #[.string s,.bool f0] X (BP PN X)) := hN; have HA : Hid (∀ X,Below W.heap.size W X -> Calls Tryz.prog 102 #[.agg #[.int .i64 ka,.int .u64 xa,.string sa,.slice aA nA cA],.bool f1] X (BP PA X)) := hA; have HE : Hid (∀ X,Below W.heap.size W X -> Calls Tryz.prog 102 #[.agg #[.int .i64 ke,.int .u64 xe,.string se,.slice aE nE cE],.bool f2] X (BP PE X)) := hE; have HKp : Hid (∀ Wc,Below W1.heap.size W1 Wc -> Aside (Below W1.heap.size W1 Wc) /\ Wc.cell? ⟨b,o + 1,none⟩ = some (.string s) /\ Wc.cell? ⟨b,o + 2,none⟩ = some (.int .i64 ka) /\ Wc.cell? ⟨b,o + 3,none⟩ = some (.int .u64 xa) /\ Wc.cell? ⟨b,o + 4,none⟩ = some (.string sa) /\ Wc.cell? ⟨b,o + 5,none⟩ = some (.slice aA nA cA) /\ Wc.cell? ⟨b,o + 6,none⟩ = some (.int .i64 ke) /\ Wc.cell? ⟨b,o + 7,none⟩ = some (.int .u64 xe) /\ Wc.cell? ⟨b,o + 8,none⟩ = some (.string se) /\ Wc.cell? ⟨b,o + 9,none⟩ = some (.slice aE nE cE) /\ Wc.cell? ⟨b,o + 10,none⟩ = some (.int .u64 lo) /\ Wc.cell? ⟨b,o + 11,none⟩ = some (.int .u64 hi) /\ Wc.cell? ⟨b,o + 12,none⟩ = some (.slice a1 n1 c1) /\ Wc.cell? ⟨b,o + 13,none⟩ = some (.slice a2 n2 c2) /\ Wc.cell? ⟨W.heap.size,0,none⟩ = some (.bool f0) /\ Wc.cell? ⟨W.heap.size,1,none⟩ = some (.bool f1) /\ Wc.cell? ⟨W.heap.size,2,none⟩ = some (.bool f2) /\ Wc.cell? ⟨W.heap.size,3,none⟩ = some (.bool f3) /\ Wc.cell? ⟨W.heap.size,4,none⟩ = some (.bool f4) /\ Wc.cell? ⟨W.heap.size,5,none⟩ = some (.bool f5)) := fun Wc hc2 => by
    have h9 := bnext HY1.out.out.2 hc2; have h8 : Wc.heap[W.heap.size]? = some (.cells #[.bool f0,.bool f1,.bool f2,.bool f3,.bool f4,.bool f5] 138 (0,0)) := (hc2.block _ (Array.getElem?_eq_some_iff.1 HY1.out.out.1).1).trans HY1.out.out.1; obtain ⟨y0,y1,y2,y3,y4,y5,y6,y7,y8,y9,y10,y11,y12⟩ := hc; exact ⟨hc2,(h9.cell (p := ⟨b,o + 1,none⟩) hb).trans y0,(h9.cell (p := ⟨b,o + 2,none⟩) hb).trans y1,(h9.cell (p := ⟨b,o + 3,none⟩) hb).trans y2,(h9.cell (p := ⟨b,o + 4,none⟩) hb).trans y3,(h9.cell (p := ⟨b,o + 5,none⟩) hb).trans y4,(h9.cell (p := ⟨b,o + 6,none⟩) hb).trans y5,(h9.cell (p := ⟨b,o + 7,none⟩) hb).trans y6,(h9.cell (p := ⟨b,o + 8,none⟩) hb).trans y7,(h9.cell (p := ⟨b,o + 9,none⟩) hb).trans y8,(h9.cell (p := ⟨b,o + 10,none⟩) hb).trans y9,(h9.cell (p := ⟨b,o + 11,none⟩) hb).trans y10,(h9.cell (p := ⟨b,o + 12,none⟩) hb).trans y11,(h9.cell (p := ⟨b,o + 13,none⟩) hb).trans y12,lc h8 0,lc h8 1,lc h8 2,lc h8 3,lc h8 4,lc h8 5⟩
  obtain ⟨FF,hFF⟩ : ∃ FF,(PN /\ PA /\ PE /\ (f3 = true ∨ lo = 0 /\ hi = 0) /\ (f4 = true ∨ n1 = 0) /\ (f5 = true ∨ n2 = 0)) = FF := ⟨_,rfl⟩; have HFF : Hid (FF ↔ PN /\ PA /\ PE /\ (f3 = true ∨ lo = 0 /\ hi = 0) /\ (f4 = true ∨ n1 = 0) /\ (f5 = true ∨ n2 = 0)) := by rw [<- hFF]; exact Iff.rfl
  have HEnd : Hid (∀ (bb : Bool) Wc,Below W1.heap.size W1 Wc -> (bb = true ↔ FF) -> BP FF W (.returned (.bool bb)) Wc) := fun bb Wc h1 h2 => ⟨bb,rfl,h2,bnext HY1.out.out.2 h1⟩
  have HB1 : Hid (Below W.heap.size W W1) := HY1.out.out.2; have hk0 := HKp.out W1.drew ⟨rfl,rfl,rfl,Nat.le_refl _,fun _ _ => rfl⟩; rw [hFF]; clear hFF hc hb hN hA hE hW1 HY1
  go_enter Tryz.func94,Tryz.ntmps94
  go_wp2_with fail
  rw [HW1e.out]; clear HW1e; refine wp_region_held_drew (S := (fun Wc => Aside (Below W1.heap.size W1 Wc) /\ Wc.cell? ⟨b,o + 1,none⟩ = some (.string s) /\ Wc.cell? ⟨b,o + 2,none⟩ = some (.int .i64 ka) /\ Wc.cell? ⟨b,o + 3,none⟩ = some (.int .u64 xa) /\ Wc.cell? ⟨b,o + 4,none⟩ = some (.string sa) /\ Wc.cell? ⟨b,o + 5,none⟩ = some (.slice aA nA cA) /\ Wc.cell? ⟨b,o + 6,none⟩ = some (.int .i64 ke) /\ Wc.cell? ⟨b,o + 7,none⟩ = some (.int .u64 xe) /\ Wc.cell? ⟨b,o + 8,none⟩ = some (.string se) /\ Wc.cell? ⟨b,o + 9,none⟩ = some (.slice aE nE cE) /\ Wc.cell? ⟨b,o + 10,none⟩ = some (.int .u64 lo) /\ Wc.cell? ⟨b,o + 11,none⟩ = some (.int .u64 hi) /\ Wc.cell? ⟨b,o + 12,none⟩ = some (.slice a1 n1 c1) /\ Wc.cell? ⟨b,o + 13,none⟩ = some (.slice a2 n2 c2) /\ Wc.cell? ⟨W.heap.size,0,none⟩ = some (.bool f0) /\ Wc.cell? ⟨W.heap.size,1,none⟩ = some (.bool f1) /\ Wc.cell? ⟨W.heap.size,2,none⟩ = some (.bool f2) /\ Wc.cell? ⟨W.heap.size,3,none⟩ = some (.bool f3) /\ Wc.cell? ⟨W.heap.size,4,none⟩ = some (.bool f4) /\ Wc.cell? ⟨W.heap.size,5,none⟩ = some (.bool f5))) (by kernel_rfl) hk0 (fun hHeld => ?_); clear hk0; refine sq_of [6,14,23] [0,1,2,3,4,5,6,7,8,9,10,11,12,13,14,15,16,17,18,19,20,21,22,23,24,25,26,27,28,29,30,31,32,33,34,35,36,37,38,39,40,41,42,43,44,45,46,47,48,49,50,51,52,53,54,55,56,57,58,59,60,61,62,63,64,65,66,67] (by kernel_rfl) hHeld ?_
  repeat (first | (refine sq_skip (by rfl) (by rfl) ?_; simp only [Act.put,z0,z1,z2]) | (refine sq_op (v := ?_) (by rfl) (by rfl) (by rfl) ?_ ?_; rotate_left; (focus (intro w hSw; (try dsimp only at hSw); go_simp <;> with_reducible rfl)); simp only [Act.put,z0,z1,z2]))
  refine sq_do (by rfl) (by rfl) (by rfl) (fun K hK => ?_)
  go_simp
  go_at_call 101; refine (HN.out _ (bnext HB1.out hHeld.1.out)).mono ?_; rintro e w6 ⟨b6,rfl,hi6,hb6⟩
  have Hi6 : Hid (b6 = true ↔ PN) := hi6; have hx6 := HKp.out w6 (bnext hHeld.1.out hb6); clear hb6 hi6 hHeld; refine hK.out _ _ hx6 (fun hHeld => ?_); clear hK K hx6
  try simp only [Act.put,z0,z1,z2]
  cases b6 with
  | false =>
    as_aux_lemma =>
      repeat (first | (refine sq_skip (by rfl) (by rfl) ?_; simp only [Act.put,z0,z1,z2]) | (refine sq_op (v := ?_) (by rfl) (by rfl) (by rfl) ?_ ?_; rotate_left; (focus (intro w hSw; (try dsimp only at hSw); go_simp <;> with_reducible rfl)); simp only [Act.put,z0,z1,z2]))
      refine sq_end (fun _ => ?_); have HE9 := HEnd.out false _ hHeld.1.out (⟨fun h => absurd h (by decide),fun h => absurd (HFF.out.1 h) (fun h9 => absurd (Hi6.out.2 h9.1) (by decide))⟩); have HE8 : Hid (BP FF W (.returned (.bool false)) _) := HE9; clear HE9
      try go_wp2_with fail
      go_ret
      exact HE8.out
  | true =>
    repeat (first | (refine sq_skip (by rfl) (by rfl) ?_; simp only [Act.put,z0,z1,z2]) | (refine sq_op (v := ?_) (by rfl) (by rfl) (by rfl) ?_ ?_; rotate_left; (focus (intro w hSw; (try dsimp only at hSw); go_simp <;> with_reducible rfl)); simp only [Act.put,z0,z1,z2]))
    refine sq_do (by rfl) (by rfl) (by rfl) (fun K hK => ?_)
    go_simp
    go_at_call 102; refine (HA.out _ (bnext HB1.out hHeld.1.out)).mono ?_; rintro e w14 ⟨b14,rfl,hi14,hb14⟩
    have Hi14 : Hid (b14 = true ↔ PA) := hi14; have hx14 := HKp.out w14 (bnext hHeld.1.out hb14); clear hb14 hi14 hHeld; refine hK.out _ _ hx14 (fun hHeld => ?_); clear hK K hx14
    try simp only [Act.put,z0,z1,z2]
    cases b14 with
    | false =>
      as_aux_lemma =>
        repeat (first | (refine sq_skip (by rfl) (by rfl) ?_; simp only [Act.put,z0,z1,z2]) | (refine sq_op (v := ?_) (by rfl) (by rfl) (by rfl) ?_ ?_; rotate_left; (focus (intro w hSw; (try dsimp only at hSw); go_simp <;> with_reducible rfl)); simp only [Act.put,z0,z1,z2]))
        refine sq_end (fun _ => ?_); have HE9 := HEnd.out false _ hHeld.1.out (⟨fun h => absurd h (by decide),fun h => absurd (HFF.out.1 h) (fun h9 => absurd (Hi14.out.2 h9.2.1) (by decide))⟩); have HE8 : Hid (BP FF W (.returned (.bool false)) _) := HE9; clear HE9
        try go_wp2_with fail
        go_ret
        exact HE8.out
    | true =>
      repeat (first | (refine sq_skip (by rfl) (by rfl) ?_; simp only [Act.put,z0,z1,z2]) | (refine sq_op (v := ?_) (by rfl) (by rfl) (by rfl) ?_ ?_; rotate_left; (focus (intro w hSw; (try dsimp only at hSw); go_simp <;> with_reducible rfl)); simp only [Act.put,z0,z1,z2]))
      refine sq_do (by rfl) (by rfl) (by rfl) (fun K hK => ?_)
      go_simp
      go_at_call 102; refine (HE.out _ (bnext HB1.out hHeld.1.out)).mono ?_; rintro e w23 ⟨b23,rfl,hi23,hb23⟩
      have Hi23 : Hid (b23 = true ↔ PE) := hi23; have hx23 := HKp.out w23 (bnext hHeld.1.out hb23); clear hb23 hi23 hHeld; refine hK.out _ _ hx23 (fun hHeld => ?_); clear hK K hx23
      try simp only [Act.put,z0,z1,z2]
      cases b23 with
      | false =>
        as_aux_lemma =>
          repeat (first | (refine sq_skip (by rfl) (by rfl) ?_; simp only [Act.put,z0,z1,z2]) | (refine sq_op (v := ?_) (by rfl) (by rfl) (by rfl) ?_ ?_; rotate_left; (focus (intro w hSw; (try dsimp only at hSw); go_simp <;> with_reducible rfl)); simp only [Act.put,z0,z1,z2]))
          refine sq_end (fun _ => ?_); have HE9 := HEnd.out false _ hHeld.1.out (⟨fun h => absurd h (by decide),fun h => absurd (HFF.out.1 h) (fun h9 => absurd (Hi23.out.2 h9.2.2.1) (by decide))⟩); have HE8 : Hid (BP FF W (.returned (.bool false)) _) := HE9; clear HE9
          try go_wp2_with fail
          go_ret
          exact HE8.out
      | true =>
        repeat (first | (refine sq_skip (by rfl) (by rfl) ?_; simp only [Act.put,z0,z1,z2]) | (refine sq_op (v := ?_) (by rfl) (by rfl) (by rfl) ?_ ?_; rotate_left; (focus (intro w hSw; (try dsimp only at hSw); go_simp <;> with_reducible rfl)); simp only [Act.put,z0,z1,z2]))
        cases f3 with
        | true =>
          as_aux_lemma =>
            repeat (first | (refine sq_skip (by rfl) (by rfl) ?_; simp only [Act.put,z0,z1,z2]) | (refine sq_op (v := ?_) (by rfl) (by rfl) (by rfl) ?_ ?_; rotate_left; (focus (intro w hSw; (try dsimp only at hSw); go_simp <;> with_reducible rfl)); simp only [Act.put,z0,z1,z2]))
            cases f4 with
            | true =>
              as_aux_lemma =>
                repeat (first | (refine sq_skip (by rfl) (by rfl) ?_; simp only [Act.put,z0,z1,z2]) | (refine sq_op (v := ?_) (by rfl) (by rfl) (by rfl) ?_ ?_; rotate_left; (focus (intro w hSw; (try dsimp only at hSw); go_simp <;> with_reducible rfl)); simp only [Act.put,z0,z1,z2]))
                cases f5 with
                | true =>
                  as_aux_lemma =>
                    repeat (first | (refine sq_skip (by rfl) (by rfl) ?_; simp only [Act.put,z0,z1,z2]) | (refine sq_op (v := ?_) (by rfl) (by rfl) (by rfl) ?_ ?_; rotate_left; (focus (intro w hSw; (try dsimp only at hSw); go_simp <;> with_reducible rfl)); simp only [Act.put,z0,z1,z2]))
                    refine sq_end (fun _ => ?_); have HE9 := HEnd.out true _ hHeld.1.out (⟨fun _ => HFF.out.2 ⟨Hi6.out.1 rfl,Hi14.out.1 rfl,Hi23.out.1 rfl,Or.inl rfl,Or.inl rfl,Or.inl rfl⟩,fun _ => rfl⟩); have HE8 : Hid (BP FF W (.returned (.bool true)) _) := HE9; clear HE9
                    try go_wp2_with fail
                    go_ret
                    exact HE8.out
                | false =>
                  by_cases hn2 : n2 = 0
                  · subst hn2
                    as_aux_lemma =>
                      repeat (first | (refine sq_skip (by rfl) (by rfl) ?_; simp only [Act.put,z0,z1,z2]) | (refine sq_op (v := ?_) (by rfl) (by rfl) (by rfl) ?_ ?_; rotate_left; (focus (intro w hSw; (try dsimp only at hSw); go_simp <;> with_reducible rfl)); simp only [Act.put,z0,z1,z2]))
                      refine sq_end (fun _ => ?_); have HE9 := HEnd.out true _ hHeld.1.out (⟨fun _ => HFF.out.2 ⟨Hi6.out.1 rfl,Hi14.out.1 rfl,Hi23.out.1 rfl,Or.inl rfl,Or.inl rfl,Or.inr rfl⟩,fun _ => rfl⟩); have HE8 : Hid (BP FF W (.returned (.bool true)) _) := HE9; clear HE9
                      try go_wp2_with fail
                      go_ret
                      exact HE8.out
                  have tn2 : ((n2 : Int) == 0) = false := by simp; omega
                  replace hn2 : Hid (¬ n2 = 0) := hn2
                  as_aux_lemma =>
                    repeat (first | (refine sq_skip (by rfl) (by rfl) ?_; simp only [Act.put,z0,z1,z2]) | (refine sq_op (v := ?_) (by rfl) (by rfl) (by rfl) ?_ ?_; rotate_left; (focus (intro w hSw; (try dsimp only at hSw); go_simp <;> with_reducible rfl)); simp only [Act.put,z0,z1,z2]))
                    refine sq_end (fun _ => ?_); have HE9 := HEnd.out false _ hHeld.1.out (⟨fun h => absurd h (by decide),fun h => absurd (HFF.out.1 h) (fun h9 => (by rcases h9.2.2.2.2.2 with h | h; exact absurd h (by decide); exact hn2.out h))⟩); have HE8 : Hid (BP FF W (.returned (.bool false)) _) := HE9; clear HE9
                    try go_wp2_with fail
                    go_ret
                    exact HE8.out
            | false =>
              by_cases hn1 : n1 = 0
              · subst hn1
                as_aux_lemma =>
                  repeat (first | (refine sq_skip (by rfl) (by rfl) ?_; simp only [Act.put,z0,z1,z2]) | (refine sq_op (v := ?_) (by rfl) (by rfl) (by rfl) ?_ ?_; rotate_left; (focus (intro w hSw; (try dsimp only at hSw); go_simp <;> with_reducible rfl)); simp only [Act.put,z0,z1,z2]))
                  cases f5 with
                  | true =>
                    as_aux_lemma =>
                      repeat (first | (refine sq_skip (by rfl) (by rfl) ?_; simp only [Act.put,z0,z1,z2]) | (refine sq_op (v := ?_) (by rfl) (by rfl) (by rfl) ?_ ?_; rotate_left; (focus (intro w hSw; (try dsimp only at hSw); go_simp <;> with_reducible rfl)); simp only [Act.put,z0,z1,z2]))
                      refine sq_end (fun _ => ?_); have HE9 := HEnd.out true _ hHeld.1.out (⟨fun _ => HFF.out.2 ⟨Hi6.out.1 rfl,Hi14.out.1 rfl,Hi23.out.1 rfl,Or.inl rfl,Or.inr rfl,Or.inl rfl⟩,fun _ => rfl⟩); have HE8 : Hid (BP FF W (.returned (.bool true)) _) := HE9; clear HE9
                      try go_wp2_with fail
                      go_ret
                      exact HE8.out
                  | false =>
                    by_cases hn2 : n2 = 0
                    · subst hn2
                      as_aux_lemma =>
                        repeat (first | (refine sq_skip (by rfl) (by rfl) ?_; simp only [Act.put,z0,z1,z2]) | (refine sq_op (v := ?_) (by rfl) (by rfl) (by rfl) ?_ ?_; rotate_left; (focus (intro w hSw; (try dsimp only at hSw); go_simp <;> with_reducible rfl)); simp only [Act.put,z0,z1,z2]))
                        refine sq_end (fun _ => ?_); have HE9 := HEnd.out true _ hHeld.1.out (⟨fun _ => HFF.out.2 ⟨Hi6.out.1 rfl,Hi14.out.1 rfl,Hi23.out.1 rfl,Or.inl rfl,Or.inr rfl,Or.inr rfl⟩,fun _ => rfl⟩); have HE8 : Hid (BP FF W (.returned (.bool true)) _) := HE9; clear HE9
                        try go_wp2_with fail
                        go_ret
                        exact HE8.out
                    have tn2 : ((n2 : Int) == 0) = false := by simp; omega
                    replace hn2 : Hid (¬ n2 = 0) := hn2
                    as_aux_lemma =>
                      repeat (first | (refine sq_skip (by rfl) (by rfl) ?_; simp only [Act.put,z0,z1,z2]) | (refine sq_op (v := ?_) (by rfl) (by rfl) (by rfl) ?_ ?_; rotate_left; (focus (intro w hSw; (try dsimp only at hSw); go_simp <;> with_reducible rfl)); simp only [Act.put,z0,z1,z2]))
                      refine sq_end (fun _ => ?_); have HE9 := HEnd.out false _ hHeld.1.out (⟨fun h => absurd h (by decide),fun h => absurd (HFF.out.1 h) (fun h9 => (by rcases h9.2.2.2.2.2 with h | h; exact absurd h (by decide); exact hn2.out h))⟩); have HE8 : Hid (BP FF W (.returned (.bool false)) _) := HE9; clear HE9
                      try go_wp2_with fail
                      go_ret
                      exact HE8.out
              have tn1 : ((n1 : Int) == 0) = false := by simp; omega
              replace hn1 : Hid (¬ n1 = 0) := hn1
              as_aux_lemma =>
                repeat (first | (refine sq_skip (by rfl) (by rfl) ?_; simp only [Act.put,z0,z1,z2]) | (refine sq_op (v := ?_) (by rfl) (by rfl) (by rfl) ?_ ?_; rotate_left; (focus (intro w hSw; (try dsimp only at hSw); go_simp <;> with_reducible rfl)); simp only [Act.put,z0,z1,z2]))
                refine sq_end (fun _ => ?_); have HE9 := HEnd.out false _ hHeld.1.out (⟨fun h => absurd h (by decide),fun h => absurd (HFF.out.1 h) (fun h9 => (by rcases h9.2.2.2.2.1 with h | h; exact absurd h (by decide); exact hn1.out h))⟩); have HE8 : Hid (BP FF W (.returned (.bool false)) _) := HE9; clear HE9
                try go_wp2_with fail
                go_ret
                exact HE8.out
        | false =>
          repeat (first | (refine sq_skip (by rfl) (by rfl) ?_; simp only [Act.put,z0,z1,z2]) | (refine sq_op (v := ?_) (by rfl) (by rfl) (by rfl) ?_ ?_; rotate_left; (focus (intro w hSw; (try dsimp only at hSw); go_simp <;> with_reducible rfl)); simp only [Act.put,z0,z1,z2]))
          by_cases hlo : lo = 0
          · subst hlo
            by_cases hhi : hi = 0
            · subst hhi
              as_aux_lemma =>
                repeat (first | (refine sq_skip (by rfl) (by rfl) ?_; simp only [Act.put,z0,z1,z2]) | (refine sq_op (v := ?_) (by rfl) (by rfl) (by rfl) ?_ ?_; rotate_left; (focus (intro w hSw; (try dsimp only at hSw); go_simp <;> with_reducible rfl)); simp only [Act.put,z0,z1,z2]))
                cases f4 with
                | true =>
                  as_aux_lemma =>
                    repeat (first | (refine sq_skip (by rfl) (by rfl) ?_; simp only [Act.put,z0,z1,z2]) | (refine sq_op (v := ?_) (by rfl) (by rfl) (by rfl) ?_ ?_; rotate_left; (focus (intro w hSw; (try dsimp only at hSw); go_simp <;> with_reducible rfl)); simp only [Act.put,z0,z1,z2]))
                    cases f5 with
                    | true =>
                      as_aux_lemma =>
                        repeat (first | (refine sq_skip (by rfl) (by rfl) ?_; simp only [Act.put,z0,z1,z2]) | (refine sq_op (v := ?_) (by rfl) (by rfl) (by rfl) ?_ ?_; rotate_left; (focus (intro w hSw; (try dsimp only at hSw); go_simp <;> with_reducible rfl)); simp only [Act.put,z0,z1,z2]))
                        refine sq_end (fun _ => ?_); have HE9 := HEnd.out true _ hHeld.1.out (⟨fun _ => HFF.out.2 ⟨Hi6.out.1 rfl,Hi14.out.1 rfl,Hi23.out.1 rfl,Or.inr ⟨rfl,rfl⟩,Or.inl rfl,Or.inl rfl⟩,fun _ => rfl⟩); have HE8 : Hid (BP FF W (.returned (.bool true)) _) := HE9; clear HE9
                        try go_wp2_with fail
                        go_ret
                        exact HE8.out
                    | false =>
                      by_cases hn2 : n2 = 0
                      · subst hn2
                        as_aux_lemma =>
                          repeat (first | (refine sq_skip (by rfl) (by rfl) ?_; simp only [Act.put,z0,z1,z2]) | (refine sq_op (v := ?_) (by rfl) (by rfl) (by rfl) ?_ ?_; rotate_left; (focus (intro w hSw; (try dsimp only at hSw); go_simp <;> with_reducible rfl)); simp only [Act.put,z0,z1,z2]))
                          refine sq_end (fun _ => ?_); have HE9 := HEnd.out true _ hHeld.1.out (⟨fun _ => HFF.out.2 ⟨Hi6.out.1 rfl,Hi14.out.1 rfl,Hi23.out.1 rfl,Or.inr ⟨rfl,rfl⟩,Or.inl rfl,Or.inr rfl⟩,fun _ => rfl⟩); have HE8 : Hid (BP FF W (.returned (.bool true)) _) := HE9; clear HE9
                          try go_wp2_with fail
                          go_ret
                          exact HE8.out
                      have tn2 : ((n2 : Int) == 0) = false := by simp; omega
                      replace hn2 : Hid (¬ n2 = 0) := hn2
                      as_aux_lemma =>
                        repeat (first | (refine sq_skip (by rfl) (by rfl) ?_; simp only [Act.put,z0,z1,z2]) | (refine sq_op (v := ?_) (by rfl) (by rfl) (by rfl) ?_ ?_; rotate_left; (focus (intro w hSw; (try dsimp only at hSw); go_simp <;> with_reducible rfl)); simp only [Act.put,z0,z1,z2]))
                        refine sq_end (fun _ => ?_); have HE9 := HEnd.out false _ hHeld.1.out (⟨fun h => absurd h (by decide),fun h => absurd (HFF.out.1 h) (fun h9 => (by rcases h9.2.2.2.2.2 with h | h; exact absurd h (by decide); exact hn2.out h))⟩); have HE8 : Hid (BP FF W (.returned (.bool false)) _) := HE9; clear HE9
                        try go_wp2_with fail
                        go_ret
                        exact HE8.out
                | false =>
                  by_cases hn1 : n1 = 0
                  · subst hn1
                    as_aux_lemma =>
                      repeat (first | (refine sq_skip (by rfl) (by rfl) ?_; simp only [Act.put,z0,z1,z2]) | (refine sq_op (v := ?_) (by rfl) (by rfl) (by rfl) ?_ ?_; rotate_left; (focus (intro w hSw; (try dsimp only at hSw); go_simp <;> with_reducible rfl)); simp only [Act.put,z0,z1,z2]))
                      cases f5 with
                      | true =>
                        as_aux_lemma =>
                          repeat (first | (refine sq_skip (by rfl) (by rfl) ?_; simp only [Act.put,z0,z1,z2]) | (refine sq_op (v := ?_) (by rfl) (by rfl) (by rfl) ?_ ?_; rotate_left; (focus (intro w hSw; (try dsimp only at hSw); go_simp <;> with_reducible rfl)); simp only [Act.put,z0,z1,z2]))
                          refine sq_end (fun _ => ?_); have HE9 := HEnd.out true _ hHeld.1.out (⟨fun _ => HFF.out.2 ⟨Hi6.out.1 rfl,Hi14.out.1 rfl,Hi23.out.1 rfl,Or.inr ⟨rfl,rfl⟩,Or.inr rfl,Or.inl rfl⟩,fun _ => rfl⟩); have HE8 : Hid (BP FF W (.returned (.bool true)) _) := HE9; clear HE9
                          try go_wp2_with fail
                          go_ret
                          exact HE8.out
                      | false =>
                        by_cases hn2 : n2 = 0
                        · subst hn2
                          as_aux_lemma =>
                            repeat (first | (refine sq_skip (by rfl) (by rfl) ?_; simp only [Act.put,z0,z1,z2]) | (refine sq_op (v := ?_) (by rfl) (by rfl) (by rfl) ?_ ?_; rotate_left; (focus (intro w hSw; (try dsimp only at hSw); go_simp <;> with_reducible rfl)); simp only [Act.put,z0,z1,z2]))
                            refine sq_end (fun _ => ?_); have HE9 := HEnd.out true _ hHeld.1.out (⟨fun _ => HFF.out.2 ⟨Hi6.out.1 rfl,Hi14.out.1 rfl,Hi23.out.1 rfl,Or.inr ⟨rfl,rfl⟩,Or.inr rfl,Or.inr rfl⟩,fun _ => rfl⟩); have HE8 : Hid (BP FF W (.returned (.bool true)) _) := HE9; clear HE9
                            try go_wp2_with fail
                            go_ret
                            exact HE8.out
                        have tn2 : ((n2 : Int) == 0) = false := by simp; omega
                        replace hn2 : Hid (¬ n2 = 0) := hn2
                        as_aux_lemma =>
                          repeat (first | (refine sq_skip (by rfl) (by rfl) ?_; simp only [Act.put,z0,z1,z2]) | (refine sq_op (v := ?_) (by rfl) (by rfl) (by rfl) ?_ ?_; rotate_left; (focus (intro w hSw; (try dsimp only at hSw); go_simp <;> with_reducible rfl)); simp only [Act.put,z0,z1,z2]))
                          refine sq_end (fun _ => ?_); have HE9 := HEnd.out false _ hHeld.1.out (⟨fun h => absurd h (by decide),fun h => absurd (HFF.out.1 h) (fun h9 => (by rcases h9.2.2.2.2.2 with h | h; exact absurd h (by decide); exact hn2.out h))⟩); have HE8 : Hid (BP FF W (.returned (.bool false)) _) := HE9; clear HE9
                          try go_wp2_with fail
                          go_ret
                          exact HE8.out
                  have tn1 : ((n1 : Int) == 0) = false := by simp; omega
                  replace hn1 : Hid (¬ n1 = 0) := hn1
                  as_aux_lemma =>
                    repeat (first | (refine sq_skip (by rfl) (by rfl) ?_; simp only [Act.put,z0,z1,z2]) | (refine sq_op (v := ?_) (by rfl) (by rfl) (by rfl) ?_ ?_; rotate_left; (focus (intro w hSw; (try dsimp only at hSw); go_simp <;> with_reducible rfl)); simp only [Act.put,z0,z1,z2]))
                    refine sq_end (fun _ => ?_); have HE9 := HEnd.out false _ hHeld.1.out (⟨fun h => absurd h (by decide),fun h => absurd (HFF.out.1 h) (fun h9 => (by rcases h9.2.2.2.2.1 with h | h; exact absurd h (by decide); exact hn1.out h))⟩); have HE8 : Hid (BP FF W (.returned (.bool false)) _) := HE9; clear HE9
                    try go_wp2_with fail
                    go_ret
                    exact HE8.out
            have thi : (hi == 0) = false := by simpa using hhi
            replace hhi : Hid (¬ hi = 0) := hhi
            as_aux_lemma =>
              repeat (first | (refine sq_skip (by rfl) (by rfl) ?_; simp only [Act.put,z0,z1,z2]) | (refine sq_op (v := ?_) (by rfl) (by rfl) (by rfl) ?_ ?_; rotate_left; (focus (intro w hSw; (try dsimp only at hSw); go_simp <;> with_reducible rfl)); simp only [Act.put,z0,z1,z2]))
              refine sq_end (fun _ => ?_); have HE9 := HEnd.out false _ hHeld.1.out (⟨fun h => absurd h (by decide),fun h => absurd (HFF.out.1 h) (fun h9 => (by rcases h9.2.2.2.1 with h | h; exact absurd h (by decide); exact hhi.out h.2))⟩); have HE8 : Hid (BP FF W (.returned (.bool false)) _) := HE9; clear HE9
              try go_wp2_with fail
              go_ret
              exact HE8.out
          have tlo : (lo == 0) = false := by simpa using hlo
          replace hlo : Hid (¬ lo = 0) := hlo; simp only [tlo]
          as_aux_lemma =>
            repeat (first | (refine sq_skip (by rfl) (by rfl) ?_; simp only [Act.put,z0,z1,z2]) | (refine sq_op (v := ?_) (by rfl) (by rfl) (by rfl) ?_ ?_; rotate_left; (focus (intro w hSw; (try dsimp only at hSw); go_simp <;> with_reducible rfl)); simp only [Act.put,z0,z1,z2]))
            refine sq_end (fun _ => ?_); have HE9 := HEnd.out false _ hHeld.1.out (⟨fun h => absurd h (by decide),fun h => absurd (HFF.out.1 h) (fun h9 => (by rcases h9.2.2.2.1 with h | h; exact absurd h (by decide); exact hlo.out h.1))⟩); have HE8 : Hid (BP FF W (.returned (.bool false)) _) := HE9; clear HE9
            try go_wp2_with fail
            go_ret
            exact HE8.out
end Go.Proofs.YtfljcdccepnidaaGreatDoor.Lf
namespace Go.Proofs.YtfljcdccepnidaaGreatDoor.Lf

def noDefer (ops : Array Oper) : Bool := ops.all fun o => match o.op with
  | .defer _ => false
  | _ => true
theorem noDefer.at {ops : Array Oper} (h : noDefer ops = true) {i : Nat} {o : Oper} (ho : ops[i]? = some o) : ∀ c,o.op ≠ .defer c := fun c e => by
  have h1 := Array.all_eq_true.1 h i (Array.getElem?_eq_some_iff.1 ho).1; rw [(Array.getElem?_eq_some_iff.1 ho).2,e] at h1; cases h1
section
variable {P : Program} {ops : Array Oper} {Q : Exit -> Act -> World -> Prop}
theorem rows_round {row : String} {args : Array Value} {w : World} {R : Value -> World -> Prop} {n lp : Nat} (h : Rows P row args w R) : RowsIn (Fence.wide.inRound lp) n P row args w R := fun c cs _ => by
  obtain ⟨v,w',r,s⟩ := h c cs; exact ⟨v,w',r,stepsIn_wide.2 s⟩
theorem upon_round {o : Oper} {a : Act} {next next' : Act -> World -> Prop} {n lp : Nat} (hn : ∀ a w,next a w -> next' a w) {r : Result Next} (h : o.upon P a next Q r) : o.uponIn (Fence.wide.inRound lp) n P a next' Q r := by
  cases r with
  | ok x w' =>
    cases x with
    | value v => exact hn _ _ h
    | skip => exact hn _ _ h
    | defer d => exact hn _ _ h
    | enter f args =>
      refine ⟨fun h => (by cases h),?_⟩; have h2 : Calls P f args w' _ := h; refine CallsIn.inRound lp (callsIn_wide.2 (h2.mono ?_)); intro e w'' he; cases e with
      | returned v => exact hn _ _ he
      | panicked c => exact he
      | outgrown => exact he
    | row row args =>
      refine ⟨fun h => (by cases h),rows_round ?_⟩; have h2 : Rows P row args w' _ := h; exact h2.mono (fun v w'' he => hn _ _ he)
    | _ => exact (h : False).elim
  | halt x w' =>
    cases x with
    | panic v => exact h
    | _ => exact (h : False).elim
theorem ops_round {n lp : Nat} (hd : noDefer ops = true) (hQ : ¬ LetsOut Q) : ∀ (l : List Nat) (a : Act) (w : World),wpOps P ops Q l a w -> wpOpsIn (Fence.wide.inRound lp) n P ops Q l a w := by
  intro l
  induction l with
  | nil => exact fun a w h => h
  | cons i rest ih =>
    intro a w h; simp only [wpOps] at h; simp only [wpOpsIn]; cases ho : ops[i]? with
    | none =>
      rw [ho] at h; exact ih a w h
    | some o =>
      rw [ho] at h; simp only [] at h ⊢
      by_cases hw : Region.wanted o (yielded ops a.tmps) = true
      · rw [if_pos hw] at h ⊢
        rcases h with h | h
        · refine ⟨fun f _ => trivial,?_⟩
          rw [Fence.inRound_round,Oper.semAt_eq (some lp) a.eval o (noDefer.at hd ho)]; exact upon_round ih h
        exact absurd h.2 hQ
      rw [if_neg hw] at h ⊢; exact ⟨fun f _ => trivial,ih _ _ h⟩
theorem region_round {id n lp : Nat} {a : Act} {w : World} {S : World -> Prop} (hm : P.follows .mixedOrders = true) (hd : noDefer ops = true) (hQ : ¬ LetsOut Q) (hS : S w.drew)
    (h : S w.drew -> wpAnyH P .any ops Q S ops.size (Array.replicate ops.size false) a w.drew) : (Code.region id ops true).wpIn (Fence.wide.inRound lp) n P Q a w :=
  wpIn_region_draw fun t => by
    simp only [Region.schedule,hm,Bool.true_or,if_true]; exact ops_round hd hQ _ _ _ (wpAny_sound ops.size t _ a _ (wpAny_of_held _ _ _ _ (h hS)))
end
end Go.Proofs.YtfljcdccepnidaaGreatDoor.Lf
