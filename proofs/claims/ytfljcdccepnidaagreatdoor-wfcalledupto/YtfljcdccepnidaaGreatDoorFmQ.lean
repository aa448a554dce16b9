import Derived.Test.YtfljcdccepnidaaGreatDoorFmE
namespace Go.Proofs.YtfljcdccepnidaaGreatDoor.Lf
open Go.ChangeShapes Go.WideShapes Go.ChangeAt Go.RowKit Go.Bn

def NE (k x : Int) (s : ByteArray) (sl : Value) : Prop := k = 0 /\ x = 0 /\ s.size = 0 /\ slen sl = 0
set_option maxHeartbeats 4000000 in
theorem none_any (k x : Int) (s : ByteArray) (ad : Option Addr) (len cap : Nat) (W : World) : Calls Tryz.prog 97 #[.agg #[.int .i64 k,.int .u64 x,.string s,.slice ad len cap]] W (BP (NE k x s (.slice ad len cap)) W) := by
  have HB : Hid (Below W.heap.size W (W.alloc (.cells #[.int .i64 k,.int .u64 x,.string s,.slice ad len cap] 43))) := lbel _ _
  by_cases hk : k = 0
  · by_cases hx : x = 0
    · by_cases hs : s.size = 0
      · by_cases hl : len = 0
        · have HN : Hid (NE k x s (.slice ad len cap)) := ⟨hk,hx,hs,hl⟩
          have e0 := empty_yes s hs; subst hk hx hl
          go_enter Tryz.func97,Tryz.ntmps97
          go_wp2
          go_ret
          exact BP.t HN.out HB.out
        have HN : Hid (¬ NE k x s (.slice ad len cap)) := fun h => hl h.2.2.2
        have e0 := empty_yes s hs; have tl : ((len : Int) == 0) = false := by simp; omega
        subst hk hx
        go_enter Tryz.func97,Tryz.ntmps97
        go_wp2
        go_ret
        exact BP.f HN.out HB.out
      have HN : Hid (¬ NE k x s (.slice ad len cap)) := fun h => hs h.2.2.1
      have e0 := empty_no s hs; subst hk hx
      go_enter Tryz.func97,Tryz.ntmps97
      go_wp2
      go_ret
      exact BP.f HN.out HB.out
    have HN : Hid (¬ NE k x s (.slice ad len cap)) := fun h => hx h.2.1
    have tx : (x == 0) = false := by simpa using hx
    subst hk
    go_enter Tryz.func97,Tryz.ntmps97
    go_wp2
    go_ret
    exact BP.f HN.out HB.out
  have HN : Hid (¬ NE k x s (.slice ad len cap)) := fun h => hk h.1
  have tk : (k == 0) = false := by simpa using hk
  go_enter Tryz.func97,Tryz.ntmps97
  go_wp2
  go_ret
  exact BP.f HN.out HB.out
set_option maxHeartbeats 4000000 in
theorem formPart_no (k x : Int) (s : ByteArray) (ad : Option Addr) (len cap : Nat) (W : World) : Calls Tryz.prog 102 #[.agg #[.int .i64 k,.int .u64 x,.string s,.slice ad len cap],.bool false] W (BP (NE k x s (.slice ad len cap)) W) := by
  have HB : Hid (Below W.heap.size W (W.alloc (.cells #[.int .i64 k,.int .u64 x,.string s,.slice ad len cap] 43))) := lbel _ _
  by_cases hk : k = 0
  · by_cases hx : x = 0
    · by_cases hs : s.size = 0
      · by_cases hl : len = 0
        · have HN : Hid (NE k x s (.slice ad len cap)) := ⟨hk,hx,hs,hl⟩
          have e0 := empty_yes s hs; subst hk hx hl
          go_enter Tryz.func102,Tryz.ntmps102
          go_wp2
          go_ret
          exact BP.t HN.out HB.out
        have HN : Hid (¬ NE k x s (.slice ad len cap)) := fun h => hl h.2.2.2
        have e0 := empty_yes s hs; have tl : ((len : Int) == 0) = false := by simp; omega
        subst hk hx
        go_enter Tryz.func102,Tryz.ntmps102
        go_wp2
        go_ret
        exact BP.f HN.out HB.out
      have HN : Hid (¬ NE k x s (.slice ad len cap)) := fun h => hs h.2.2.1
      have e0 := empty_no s hs; subst hk hx
      go_enter Tryz.func102,Tryz.ntmps102
      go_wp2
      go_ret
      exact BP.f HN.out HB.out
    have HN : Hid (¬ NE k x s (.slice ad len cap)) := fun h => hx h.2.1
    have tx : (x == 0) = false := by simpa using hx
    subst hk
    go_enter Tryz.func102,Tryz.ntmps102
    go_wp2
    go_ret
    exact BP.f HN.out HB.out
  have HN : Hid (¬ NE k x s (.slice ad len cap)) := fun h => hk h.1
  have tk : (k == 0) = false := by simpa using hk
  go_enter Tryz.func102,Tryz.ntmps102
  go_wp2
  go_ret
  exact BP.f HN.out HB.out
theorem formPart_yes (F : Prop) (k x : Int) (s : ByteArray) (ad : Option Addr) (len cap : Nat) (W : World) (h : ∀ W',Below W.heap.size W W' -> Calls Tryz.prog 104 #[.agg #[.int .i64 k,.int .u64 x,.string s,.slice ad len cap]] W' (BP F W')) : Calls Tryz.prog 102 #[.agg #[.int .i64 k,.int .u64 x,.string s,.slice ad len cap],.bool true] W (BP F W) := by
  have HB : Hid (Below W.heap.size W (W.alloc (.cells #[.int .i64 k,.int .u64 x,.string s,.slice ad len cap] 43))) := lbel _ _; have HF : Hid (∀ W',Below W.heap.size W W' -> Calls Tryz.prog 104 #[.agg #[.int .i64 k,.int .u64 x,.string s,.slice ad len cap]] W' (BP F W')) := h; clear h
  go_enter Tryz.func102,Tryz.ntmps102
  go_wp2_with fail
  refine (HF.out _ HB.out).mono ?_; rintro e w' ⟨b,rfl,hi,hb⟩; have HE : Hid (BP F W (.returned (.bool b)) w') := ⟨b,rfl,hi,bnext HB.out hb⟩; clear hi hb
  go_wp2
  go_ret
  exact HE.out
end Go.Proofs.YtfljcdccepnidaaGreatDoor.Lf
