import Derived.Test.YtfljcdccepnidaaGreatDoorFmR
import Derived.Deep.Draws
import Derived.Deep.QuietTactic
import Derived.OrdersHeld
import Derived.Deep.RegionHeld
import Derived.Deep.LoopGhost
import Derived.Deep.RegionLaw
import Derived.Deep.RegionHeld3
import Derived.Test.YtfljcdccepnidaaGreatDoorRows
namespace Go.Proofs.YtfljcdccepnidaaGreatDoor.Lf
open Go.ChangeShapes Go.WideShapes Go.ChangeAt Go.RowKit
theorem res_yes2 {L : List UInt8} {x : List UInt8} (hx : x ∈ rws) (h : (x == L) = true) : resB L = true := by
  have e : x = L := by simpa using h
  subst e
  simpa [resB] using hx
def NB (L : List UInt8) (k : Nat) : Prop := ∀ x ∈ rws.take k,(L == x) = false
theorem nb_next {L : List UInt8} {k : Nat} {x : List UInt8} (h : NB L k) (hx : rws.take (k + 1) = rws.take k ++ [x]) (hf : (x == L) = false) : NB L (k + 1) := by
  intro y hy; rw [hx,List.mem_append] at hy
  rcases hy with hy | hy
  · exact h y hy
  have e : y = x := by simpa using hy
  subst e; have : ¬ y = L := by simpa using hf
  simpa using fun e : L = y => this e.symm
theorem nb_all {L : List UInt8} (h : NB L 17) : resB L = false := res_no (fun x hx => h x (by simpa [rws] using hx))
set_option maxHeartbeats 8000000 in
theorem rres_any (s : ByteArray) (w : World) : Calls Tryz.prog 17 #[.string s] w fun e w' => e = .returned (.bool (resB s.toList)) /\ Below w.heap.size w w' := by
  obtain ⟨L,hL⟩ : ∃ L,L = s.toList := ⟨_,rfl⟩; rw [<- hL]; have HG : Hid (Below w.heap.size w (w.alloc (.cells #[.string ⟨#[112,114,111,103,114,97,109]⟩,.string ⟨#[119,105,100,116,104]⟩,.string ⟨#[108,105,110,101]⟩,.string ⟨#[112,117,98,108,105,99]⟩,.string ⟨#[115,101,99,114,101,116]⟩,.string ⟨#[99,111,110,115,116]⟩,.string ⟨#[118,97,114]⟩,.string ⟨#[111,117,116]⟩,.string ⟨#[98,101,103,105,110]⟩,.string ⟨#[101,110,100]⟩,.string ⟨#[105,102]⟩,.string ⟨#[101,108,115,101]⟩,.string ⟨#[102,111,114]⟩,.string ⟨#[114,101,108,101,97,115,101]⟩,.string ⟨#[115,97,114]⟩,.string ⟨#[115,108,116]⟩,.string ⟨#[115,101,108]⟩] 9))) := (Below.refl _ _).alloc (Nat.le_refl _) _
  go_enter Tryz.func17,Tryz.ntmps17
  go_wp2_with fail
  go_loopg [4] 17 (fun gk v4 wr => ∃ k : Nat,v4 = .int .i64 (k : Int) /\ k + gk = 17 /\ wr = w.alloc (.cells #[.string ⟨#[112,114,111,103,114,97,109]⟩,.string ⟨#[119,105,100,116,104]⟩,.string ⟨#[108,105,110,101]⟩,.string ⟨#[112,117,98,108,105,99]⟩,.string ⟨#[115,101,99,114,101,116]⟩,.string ⟨#[99,111,110,115,116]⟩,.string ⟨#[118,97,114]⟩,.string ⟨#[111,117,116]⟩,.string ⟨#[98,101,103,105,110]⟩,.string ⟨#[101,110,100]⟩,.string ⟨#[105,102]⟩,.string ⟨#[101,108,115,101]⟩,.string ⟨#[102,111,114]⟩,.string ⟨#[114,101,108,101,97,115,101]⟩,.string ⟨#[115,97,114]⟩,.string ⟨#[115,108,116]⟩,.string ⟨#[115,101,108]⟩] 9) /\ Aside (NB L k))
  case atStart => exact ⟨0,rfl,by omega,rfl,fun x hx => by simp at hx⟩
  case round =>
    obtain ⟨k,rfl,hk,rfl,hn⟩ := hrel; have hn : Hid (NB L k) := hn.out
    by_cases hlt : k < 17
    · have hc : k = 0 ∨ k = 1 ∨ k = 2 ∨ k = 3 ∨ k = 4 ∨ k = 5 ∨ k = 6 ∨ k = 7 ∨ k = 8 ∨ k = 9 ∨ k = 10 ∨ k = 11 ∨ k = 12 ∨ k = 13 ∨ k = 14 ∨ k = 15 ∨ k = 16 := by omega
      rcases hc with rfl | rfl | rfl | rfl | rfl | rfl | rfl | rfl | rfl | rfl | rfl | rfl | rfl | rfl | rfl | rfl | rfl
      · by_cases t : ([112,114,111,103,114,97,109] == L) = true
        · have HR : Hid (resB L = true) := res_yes2 (by decide) t
          rw [hL] at t
          go_wp2
          go_ret
          exact ⟨by rw [HR.out] <;> rfl,HG.out⟩
        replace t : ([112,114,111,103,114,97,109] == L) = false := by simpa using t
        have HN : Aside (NB L (0 + 1)) := nb_next hn.out rfl t; clear hn; rw [hL] at t
        go_wp2_with fail
        go_roundg 16
        case measure => omega
        case rel => exact ⟨0 + 1,rfl,by omega,rfl,HN⟩
      · by_cases t : ([119,105,100,116,104] == L) = true
        · have HR : Hid (resB L = true) := res_yes2 (by decide) t
          rw [hL] at t
          go_wp2
          go_ret
          exact ⟨by rw [HR.out] <;> rfl,HG.out⟩
        replace t : ([119,105,100,116,104] == L) = false := by simpa using t
        have HN : Aside (NB L (1 + 1)) := nb_next hn.out rfl t; clear hn; rw [hL] at t
        go_wp2_with fail
        go_roundg 15
        case measure => omega
        case rel => exact ⟨1 + 1,rfl,by omega,rfl,HN⟩
      · by_cases t : ([108,105,110,101] == L) = true
        · have HR : Hid (resB L = true) := res_yes2 (by decide) t
          rw [hL] at t
          go_wp2
          go_ret
          exact ⟨by rw [HR.out] <;> rfl,HG.out⟩
        replace t : ([108,105,110,101] == L) = false := by simpa using t
        have HN : Aside (NB L (2 + 1)) := nb_next hn.out rfl t; clear hn; rw [hL] at t
        go_wp2_with fail
        go_roundg 14
        case measure => omega
        case rel => exact ⟨2 + 1,rfl,by omega,rfl,HN⟩
      · by_cases t : ([112,117,98,108,105,99] == L) = true
        · have HR : Hid (resB L = true) := res_yes2 (by decide) t
          rw [hL] at t
          go_wp2
          go_ret
          exact ⟨by rw [HR.out] <;> rfl,HG.out⟩
        replace t : ([112,117,98,108,105,99] == L) = false := by simpa using t
        have HN : Aside (NB L (3 + 1)) := nb_next hn.out rfl t; clear hn; rw [hL] at t
        go_wp2_with fail
        go_roundg 13
        case measure => omega
        case rel => exact ⟨3 + 1,rfl,by omega,rfl,HN⟩
      · by_cases t : ([115,101,99,114,101,116] == L) = true
        · have HR : Hid (resB L = true) := res_yes2 (by decide) t
          rw [hL] at t
          go_wp2
          go_ret
          exact ⟨by rw [HR.out] <;> rfl,HG.out⟩
        replace t : ([115,101,99,114,101,116] == L) = false := by simpa using t
        have HN : Aside (NB L (4 + 1)) := nb_next hn.out rfl t; clear hn; rw [hL] at t
        go_wp2_with fail
        go_roundg 12
        case measure => omega
        case rel => exact ⟨4 + 1,rfl,by omega,rfl,HN⟩
      · by_cases t : ([99,111,110,115,116] == L) = true
        · have HR : Hid (resB L = true) := res_yes2 (by decide) t
          rw [hL] at t
          go_wp2
          go_ret
          exact ⟨by rw [HR.out] <;> rfl,HG.out⟩
        replace t : ([99,111,110,115,116] == L) = false := by simpa using t
        have HN : Aside (NB L (5 + 1)) := nb_next hn.out rfl t; clear hn; rw [hL] at t
        go_wp2_with fail
        go_roundg 11
        case measure => omega
        case rel => exact ⟨5 + 1,rfl,by omega,rfl,HN⟩
      · by_cases t : ([118,97,114] == L) = true
        · have HR : Hid (resB L = true) := res_yes2 (by decide) t
          rw [hL] at t
          go_wp2
          go_ret
          exact ⟨by rw [HR.out] <;> rfl,HG.out⟩
        replace t : ([118,97,114] == L) = false := by simpa using t
        have HN : Aside (NB L (6 + 1)) := nb_next hn.out rfl t; clear hn; rw [hL] at t
        go_wp2_with fail
        go_roundg 10
        case measure => omega
        case rel => exact ⟨6 + 1,rfl,by omega,rfl,HN⟩
      · by_cases t : ([111,117,116] == L) = true
        · have HR : Hid (resB L = true) := res_yes2 (by decide) t
          rw [hL] at t
          go_wp2
          go_ret
          exact ⟨by rw [HR.out] <;> rfl,HG.out⟩
        replace t : ([111,117,116] == L) = false := by simpa using t
        have HN : Aside (NB L (7 + 1)) := nb_next hn.out rfl t; clear hn; rw [hL] at t
        go_wp2_with fail
        go_roundg 9
        case measure => omega
        case rel => exact ⟨7 + 1,rfl,by omega,rfl,HN⟩
      · by_cases t : ([98,101,103,105,110] == L) = true
        · have HR : Hid (resB L = true) := res_yes2 (by decide) t
          rw [hL] at t
          go_wp2
          go_ret
          exact ⟨by rw [HR.out] <;> rfl,HG.out⟩
        replace t : ([98,101,103,105,110] == L) = false := by simpa using t
        have HN : Aside (NB L (8 + 1)) := nb_next hn.out rfl t; clear hn; rw [hL] at t
        go_wp2_with fail
        go_roundg 8
        case measure => omega
        case rel => exact ⟨8 + 1,rfl,by omega,rfl,HN⟩
      · by_cases t : ([101,110,100] == L) = true
        · have HR : Hid (resB L = true) := res_yes2 (by decide) t
          rw [hL] at t
          go_wp2
          go_ret
          exact ⟨by rw [HR.out] <;> rfl,HG.out⟩
        replace t : ([101,110,100] == L) = false := by simpa using t
        have HN : Aside (NB L (9 + 1)) := nb_next hn.out rfl t; clear hn; rw [hL] at t
        go_wp2_with fail
        go_roundg 7
        case measure => omega
        case rel => exact ⟨9 + 1,rfl,by omega,rfl,HN⟩
      · by_cases t : ([105,102] == L) = true
        · have HR : Hid (resB L = true) := res_yes2 (by decide) t
          rw [hL] at t
          go_wp2
          go_ret
          exact ⟨by rw [HR.out] <;> rfl,HG.out⟩
        replace t : ([105,102] == L) = false := by simpa using t
        have HN : Aside (NB L (10 + 1)) := nb_next hn.out rfl t; clear hn; rw [hL] at t
        go_wp2_with fail
        go_roundg 6
        case measure => omega
        case rel => exact ⟨10 + 1,rfl,by omega,rfl,HN⟩
      · by_cases t : ([101,108,115,101] == L) = true
        · have HR : Hid (resB L = true) := res_yes2 (by decide) t
          rw [hL] at t
          go_wp2
          go_ret
          exact ⟨by rw [HR.out] <;> rfl,HG.out⟩
        replace t : ([101,108,115,101] == L) = false := by simpa using t
        have HN : Aside (NB L (11 + 1)) := nb_next hn.out rfl t; clear hn; rw [hL] at t
        go_wp2_with fail
        go_roundg 5
        case measure => omega
        case rel => exact ⟨11 + 1,rfl,by omega,rfl,HN⟩
      · by_cases t : ([102,111,114] == L) = true
        · have HR : Hid (resB L = true) := res_yes2 (by decide) t
          rw [hL] at t
          go_wp2
          go_ret
          exact ⟨by rw [HR.out] <;> rfl,HG.out⟩
        replace t : ([102,111,114] == L) = false := by simpa using t
        have HN : Aside (NB L (12 + 1)) := nb_next hn.out rfl t; clear hn; rw [hL] at t
        go_wp2_with fail
        go_roundg 4
        case measure => omega
        case rel => exact ⟨12 + 1,rfl,by omega,rfl,HN⟩
      · by_cases t : ([114,101,108,101,97,115,101] == L) = true
        · have HR : Hid (resB L = true) := res_yes2 (by decide) t
          rw [hL] at t
          go_wp2
          go_ret
          exact ⟨by rw [HR.out] <;> rfl,HG.out⟩
        replace t : ([114,101,108,101,97,115,101] == L) = false := by simpa using t
        have HN : Aside (NB L (13 + 1)) := nb_next hn.out rfl t; clear hn; rw [hL] at t
        go_wp2_with fail
        go_roundg 3
        case measure => omega
        case rel => exact ⟨13 + 1,rfl,by omega,rfl,HN⟩
      · by_cases t : ([115,97,114] == L) = true
        · have HR : Hid (resB L = true) := res_yes2 (by decide) t
          rw [hL] at t
          go_wp2
          go_ret
          exact ⟨by rw [HR.out] <;> rfl,HG.out⟩
        replace t : ([115,97,114] == L) = false := by simpa using t
        have HN : Aside (NB L (14 + 1)) := nb_next hn.out rfl t; clear hn; rw [hL] at t
        go_wp2_with fail
        go_roundg 2
        case measure => omega
        case rel => exact ⟨14 + 1,rfl,by omega,rfl,HN⟩
      · by_cases t : ([115,108,116] == L) = true
        · have HR : Hid (resB L = true) := res_yes2 (by decide) t
          rw [hL] at t
          go_wp2
          go_ret
          exact ⟨by rw [HR.out] <;> rfl,HG.out⟩
        replace t : ([115,108,116] == L) = false := by simpa using t
        have HN : Aside (NB L (15 + 1)) := nb_next hn.out rfl t; clear hn; rw [hL] at t
        go_wp2_with fail
        go_roundg 1
        case measure => omega
        case rel => exact ⟨15 + 1,rfl,by omega,rfl,HN⟩
      by_cases t : ([115,101,108] == L) = true
      · have HR : Hid (resB L = true) := res_yes2 (by decide) t
        rw [hL] at t
        go_wp2
        go_ret
        exact ⟨by rw [HR.out] <;> rfl,HG.out⟩
      replace t : ([115,101,108] == L) = false := by simpa using t
      have HN : Aside (NB L (16 + 1)) := nb_next hn.out rfl t; clear hn; rw [hL] at t
      go_wp2_with fail
      go_roundg 0
      case measure => omega
      case rel => exact ⟨16 + 1,rfl,by omega,rfl,HN⟩
    obtain rfl : k = 17 := by omega
    have HR : Hid (resB L = false) := nb_all hn.out; clear hn
    go_wp2
    go_ret
    exact ⟨by rw [HR.out] <;> rfl,HG.out⟩
end Go.Proofs.YtfljcdccepnidaaGreatDoor.Lf
namespace Go.Proofs.YtfljcdccepnidaaGreatDoor.Lf
open Go.ChangeShapes Go.WideShapes Go.ChangeAt Go.RowKit Go.Bn

def nameB (s : ByteArray) : Bool := nmB s && !(resB s.toList)
theorem bnext {w w1 w2 : World} (h : Below w.heap.size w w1) (h2 : Below w1.heap.size w1 w2) : Below w.heap.size w w2 := h.trans (h2.mono h.size)
set_option maxHeartbeats 4000000 in
theorem isName_any (s : ByteArray) (w : World) (hs : s.size <= maxLen) : Calls Tryz.prog 78 #[.string s] w fun e w' => e = .returned (.bool (nameB s)) /\ Below w.heap.size w w' := by
  have HN := name_any s w hs; have HN2 : Hid (Calls Tryz.prog 89 #[.string s] w fun e w' => e = .returned (.bool (nmB s)) /\ Below w.heap.size w w') := HN; have HR : Hid (∀ W,Calls Tryz.prog 90 #[.string s] W fun e w' => e = .returned (.bool (resB s.toList)) /\ w' = W) := fun W => lres_any s W
  clear HN; unfold nameB
  generalize nmB s = a at *
  generalize resB s.toList = b at *
  cases a <;> cases b
  all_goals (go_enter Tryz.func78,Tryz.ntmps78)
  all_goals go_wp2_with fail
  all_goals refine HN2.out.mono ?_
  all_goals rintro e w1 ⟨rfl,hb⟩
  all_goals have HB : Hid (Below w.heap.size w w1) := hb
  all_goals clear hb
  all_goals go_wp2_with (refine (HR.out _).mono ?_; rintro e w' ⟨rfl,hw⟩; obtain rfl := hw.symm)
  all_goals try go_ret
  all_goals exact ⟨rfl,HB.out⟩
set_option maxHeartbeats 4000000 in
theorem rName_any (s : ByteArray) (w : World) (hs : s.size <= maxLen) : Calls Tryz.prog 6 #[.string s] w fun e w' => e = .returned (.bool (nameB s)) /\ Below w.heap.size w w' := by
  have HN2 : Hid (Calls Tryz.prog 16 #[.string s] w fun e w' => e = .returned (.bool (nmB s)) /\ w' = w) := rname_any s w hs; have HR : Hid (Calls Tryz.prog 17 #[.string s] w fun e w' => e = .returned (.bool (resB s.toList)) /\ Below w.heap.size w w') := rres_any s w; unfold nameB
  generalize nmB s = a at *
  generalize resB s.toList = b at *
  cases a <;> cases b
  all_goals (go_enter Tryz.func6,Tryz.ntmps6)
  all_goals go_wp2_with fail
  all_goals refine HN2.out.mono ?_
  all_goals rintro e w1 ⟨rfl,rfl⟩
  all_goals go_wp2_with fail
  all_goals try (refine HR.out.mono ?_; rintro e w2 ⟨rfl,hb⟩; have HB : Hid (Below w1.heap.size w1 w2) := hb; clear hb; go_wp2)
  all_goals try go_ret
  all_goals first | exact ⟨rfl,HB.out⟩ | exact ⟨rfl,Below.refl _ _⟩
end Go.Proofs.YtfljcdccepnidaaGreatDoor.Lf
namespace Go.Proofs.YtfljcdccepnidaaGreatDoor.Lf
open Go.ChangeShapes Go.WideShapes Go.ChangeAt Go.RowKit Go.Bn

def BP (F : Prop) (W : World) (e : Ending) (w' : World) : Prop := ∃ b,e = .returned (.bool b) /\ (b = true ↔ F) /\ Below W.heap.size W w'
theorem BP.t {F : Prop} {W w' : World} (h : F) (hb : Below W.heap.size W w') : BP F W (.returned (.bool true)) w' := ⟨true,rfl,⟨fun _ => h,fun _ => rfl⟩,hb⟩
theorem BP.f {F : Prop} {W w' : World} (h : ¬ F) (hb : Below W.heap.size W w') : BP F W (.returned (.bool false)) w' := ⟨false,rfl,⟨fun e => (by cases e),fun e => absurd e h⟩,hb⟩
def slen : Value -> Nat
  | .slice _ len _ => len
  | _ => 0
def SX (w : World) (E : List Value -> Prop) (sl : Value) : Prop := ∃ ad len cap,sl = .slice ad len cap /\ len <= 1048576 /\ (0 < len -> ∃ b o,ad = some ⟨b,o,none⟩ /\ b < w.heap.size /\ ∀ j,j < len -> ∃ v0 v1 v2 v3,w.cell? ⟨b,o + j * 4,none⟩ = some v0 /\ w.cell? ⟨b,o + j * 4 + 1,none⟩ = some v1 /\ w.cell? ⟨b,o + j * 4 + 2,none⟩ = some v2 /\ w.cell? ⟨b,o + j * 4 + 3,none⟩ = some v3 /\ E [v0,v1,v2,v3])
def SF (w : World) (E : List Value -> Prop) (sl : Value) : Prop := ∀ b o len cap,sl = .slice (some ⟨b,o,none⟩) len cap -> ∀ j,j < len -> ∀ v0 v1 v2 v3,w.cell? ⟨b,o + j * 4,none⟩ = some v0 -> w.cell? ⟨b,o + j * 4 + 1,none⟩ = some v1 -> w.cell? ⟨b,o + j * 4 + 2,none⟩ = some v2 -> w.cell? ⟨b,o + j * 4 + 3,none⟩ = some v3 -> E [v0,v1,v2,v3]
def EX (w : World) : Nat -> List Value -> Prop
  | 0,_ => False
  | n + 1,cs => ∃ (k x : Int) (s : ByteArray) (sl : Value),cs = [.int .i64 k,.int .u64 x,.string s,sl] /\ s.size <= maxLen /\ SX w (EX w n) sl
def prt (k : Int) : Int := if k < 1 ∨ 26 < k then -1 else if k <= 2 then 0 else if k <= 5 then 1 else if k = 26 then 3 else 2
def okE (k x : Int) (s : ByteArray) (sl : Value) : Prop := ((slen sl : Nat) : Int) = prt k /\ (if k = 2 ∨ k = 3 then nameB s = true else s.size = 0) /\ (k = 1 ∨ x = 0)
def FE (w : World) : Nat -> List Value -> Prop
  | 0,_ => False
  | n + 1,cs => ∃ (k x : Int) (s : ByteArray) (sl : Value),cs = [.int .i64 k,.int .u64 x,.string s,sl] /\ okE k x s sl /\ SF w (FE w n) sl
theorem FE_succ {w : World} {n : Nat} {k x : Int} {s : ByteArray} {sl : Value} : FE w (n + 1) [.int .i64 k,.int .u64 x,.string s,sl] ↔ okE k x s sl /\ SF w (FE w n) sl := by
  constructor
  · rintro ⟨k',x',s',sl',e,h1,h2⟩
    cases e; exact ⟨h1,h2⟩
  rintro ⟨h1,h2⟩; exact ⟨k,x,s,sl,rfl,h1,h2⟩
theorem nameB_pos {s : ByteArray} (h : nameB s = true) : s.size ≠ 0 := fun e => by
  unfold nameB at h; rw [nm_size s (by omega)] at h; cases h
def KO (w : World) (E : List Value -> Prop) (ad : Option Addr) (j : Nat) : Prop := ∀ b o,ad = some ⟨b,o,none⟩ -> ∀ v0 v1 v2 v3,w.cell? ⟨b,o + j * 4,none⟩ = some v0 -> w.cell? ⟨b,o + j * 4 + 1,none⟩ = some v1 -> w.cell? ⟨b,o + j * 4 + 2,none⟩ = some v2 -> w.cell? ⟨b,o + j * 4 + 3,none⟩ = some v3 -> E [v0,v1,v2,v3]
theorem SF_iff {w : World} {E : List Value -> Prop} {ad : Option Addr} {len cap : Nat} : SF w E (.slice ad len cap) ↔ ∀ j,j < len -> KO w E ad j := by
  constructor
  · intro h j hj b o e v0 v1 v2 v3 h0 h1 h2 h3
    subst e; exact h b o len cap rfl j hj v0 v1 v2 v3 h0 h1 h2 h3
  intro h b o len' cap' e j hj v0 v1 v2 v3 h0 h1 h2 h3; cases e; exact h j hj b o rfl v0 v1 v2 v3 h0 h1 h2 h3
theorem KO_at {w : World} {E : List Value -> Prop} {b o j : Nat} {v0 v1 v2 v3 : Value} (h0 : w.cell? ⟨b,o + j * 4,none⟩ = some v0) (h1 : w.cell? ⟨b,o + j * 4 + 1,none⟩ = some v1) (h2 : w.cell? ⟨b,o + j * 4 + 2,none⟩ = some v2) (h3 : w.cell? ⟨b,o + j * 4 + 3,none⟩ = some v3) : KO w E (some ⟨b,o,none⟩) j ↔ E [v0,v1,v2,v3] := by
  constructor
  · exact fun h => h b o rfl v0 v1 v2 v3 h0 h1 h2 h3
  intro h b' o' e u0 u1 u2 u3 k0 k1 k2 k3; cases e; rw [h0] at k0; rw [h1] at k1; rw [h2] at k2; rw [h3] at k3; cases k0; cases k1; cases k2; cases k3; exact h
set_option maxHeartbeats 2000000 in
theorem parts_any (k : Int) (w : World) : Calls Tryz.prog 103 #[.int .i64 k] w fun e w' => e = .returned (.int .i64 (prt k)) /\ w' = w := by
  have h : k < 1 ∨ 26 < k ∨ (1 <= k /\ k <= 2) ∨ (3 <= k /\ k <= 5) ∨ k = 26 ∨ (6 <= k /\ k <= 25) := by omega
  unfold prt
  rcases h with h | h | h | h | h | h
  · have t1 : k < 1 := h
    rw [if_pos (by omega)]
    go_enter Tryz.func103,Tryz.ntmps103
    go_wp2
    go_ret
    exact ⟨rfl,rfl⟩
  · have t1 : ¬ k < 1 := by omega
    have t2 : 26 < k := h; rw [if_pos (by omega)]
    go_enter Tryz.func103,Tryz.ntmps103
    go_wp2
    go_ret
    exact ⟨rfl,rfl⟩
  · have t1 : ¬ k < 1 := by omega
    have t2 : ¬ 26 < k := by omega
    have t3 : k <= 2 := by omega
    rw [if_neg (by omega),if_pos t3]
    go_enter Tryz.func103,Tryz.ntmps103
    go_wp2
    go_ret
    exact ⟨rfl,rfl⟩
  · have t1 : ¬ k < 1 := by omega
    have t2 : ¬ 26 < k := by omega
    have t3 : ¬ k <= 2 := by omega
    have t4 : k <= 5 := by omega
    rw [if_neg (by omega),if_neg t3,if_pos t4]
    go_enter Tryz.func103,Tryz.ntmps103
    go_wp2
    go_ret
    exact ⟨rfl,rfl⟩
  · subst h
    rw [if_neg (by omega),if_neg (by omega),if_neg (by omega),if_pos rfl]
    go_enter Tryz.func103,Tryz.ntmps103
    go_wp2
    go_ret
    exact ⟨rfl,rfl⟩
  have t1 : ¬ k < 1 := by omega
  have t2 : ¬ 26 < k := by omega
  have t3 : ¬ k <= 2 := by omega
  have t4 : ¬ k <= 5 := by omega
  have t5 : (k == 26) = false := by simp; omega
  rw [if_neg (by omega),if_neg t3,if_neg t4,if_neg (by omega)]
  go_enter Tryz.func103,Tryz.ntmps103
  go_wp2
  go_ret
  exact ⟨rfl,rfl⟩
end Go.Proofs.YtfljcdccepnidaaGreatDoor.Lf
namespace Go.Proofs.YtfljcdccepnidaaGreatDoor
theorem z0 {α : Type} (l : List α) (i : Nat) (a : α) : l.toArray.setIfInBounds i a = (l.set i a).toArray := List.setIfInBounds_toArray ..
theorem z1 {α : Type} (x a : α) (l : List α) : (x :: l).set 0 a = a :: l := List.set_cons_zero ..
theorem z2 {α : Type} (x a : α) (l : List α) (n : Nat) : (x :: l).set (n + 1) a = x :: l.set n a := List.set_cons_succ ..

def nthO : List Oper -> Nat -> Option Oper
  | [],_ => none
  | o :: _,0 => some o
  | _ :: r,n + 1 => nthO r n
theorem nthO_get : ∀ (L : List Oper) (i : Nat),L[i]? = nthO L i
  | [],_ => rfl
  | _ :: _,0 => rfl
  | _ :: r,n + 1 => by rw [List.getElem?_cons_succ,nthO_get r n]; rfl
theorem nthO_at {L : List Oper} {i : Nat} {o : Oper} (h : nthO L i = some o) : L.toArray[i]? = some o := by
  rw [List.getElem?_toArray,nthO_get,h]
def nthV : List Value -> Nat -> Option Value
  | [],_ => none
  | o :: _,0 => some o
  | _ :: r,n + 1 => nthV r n
theorem nthV_get : ∀ (L : List Value) (i : Nat),L[i]? = nthV L i
  | [],_ => rfl
  | _ :: _,0 => rfl
  | _ :: r,n + 1 => by rw [List.getElem?_cons_succ,nthV_get r n]; rfl
def gst (L : List Oper) (t : List Value) (o : Oper) : Bool := match o.guard with
  | none => true
  | some (g,b) => match nthO L g with
    | some og => match og.dst with
      | some d => match nthV t d with
        | some (.bool c) => c == b
        | _ => false
      | none => false
    | none => false
theorem gst_eq (L : List Oper) (t : Array Value) (o : Oper) : Region.wanted o (yielded L.toArray t) = gst L t.toList o := by
  unfold Region.wanted gst; cases o.guard with
  | none => rfl
  | some gb =>
    obtain ⟨g,b⟩ := gb
    dsimp only
    unfold yielded; rw [List.getElem?_toArray,nthO_get]; cases nthO L g with
    | none => rfl
    | some og =>
      dsimp only [Option.bind_some]
      cases og.dst with
      | none => rfl
      | some d =>
        dsimp only [Option.bind_some]
        rw [<- Array.getElem?_toList,nthV_get]; cases nthV t.toList d with
        | none => rfl
        | some v => cases v <;> simp
def chq (ops : Array Oper) (cs : List Nat) : Array Bool -> List Nat -> Bool
  | listed,[] => (Region.ready .any ops listed).isEmpty
  | listed,i :: r => (if cs.contains i then Region.ready .any ops listed == [i] else Region.free .any ops listed i && (Region.ready .any ops listed).contains i) && chq ops cs (listed.setIfInBounds i true) r
def SQ (P : Program) (L : List Oper) (Q : Exit -> Act -> World -> Prop) (S : World -> Prop) (cs l : List Nat) (a : Act) (w : World) : Prop := ∀ listed,Region.noSelect L.toArray = true -> chq L.toArray cs listed l = true -> S w -> wpAnyH P .any L.toArray Q S l.length listed a w
section
variable {P : Program} {L : List Oper} {Q : Exit -> Act -> World -> Prop} {S : World -> Prop} {cs l : List Nat} {a : Act} {w : World}
theorem sq_of (cs l : List Nat) (hc : (Region.noSelect L.toArray && (l.length == L.toArray.size && chq L.toArray cs (Array.replicate L.toArray.size false) l)) = true) (hS : S w) (h : SQ P L Q S cs l a w) : wpAnyH P .any L.toArray Q S L.toArray.size (Array.replicate L.toArray.size false) a w := by
  simp only [Bool.and_eq_true,beq_iff_eq] at hc; have h5 := h _ hc.1 hc.2.2 hS; rw [hc.2.1] at h5; exact h5
theorem sq_skip {i : Nat} {r : List Nat} {o : Oper} (hi : nthO L i = some o) (hw : gst L a.tmps.toList o = false) (h : SQ P L Q S cs r (a.put o.dst undef) w) (hQ : ∀ c a w,Q (.panic c) (a.put o.dst undef) w -> Q (.panic c) a w := by exact fun _ _ _ h => h) : SQ P L Q S cs (i :: r) a w := by
  intro listed hn hc hS; rw [<- gst_eq] at hw; simp only [chq,Bool.and_eq_true] at hc; obtain ⟨h1,h2⟩ := hc
  by_cases hm : cs.contains i = true
  · rw [if_pos hm,beq_iff_eq] at h1
    refine wpAnyH_ready h1 (by simp) (AllReadyH.cons (nthO_at hi) (fun K hK => ?_) AllReadyH.nil); rw [hw]; exact hK _ _ hS (fun hS => h _ hn h2 hS)
  rw [if_neg hm,Bool.and_eq_true] at h1; exact wpAnyH_take (nthO_at hi) hn h1.1 h1.2 hQ (Or.inr ⟨hw,rfl⟩) hS (h _ hn h2 hS)
theorem sq_op {i : Nat} {r : List Nat} {o : Oper} {v : Value} (hi : nthO L i = some o) (hm : cs.contains i = false) (hw : gst L a.tmps.toList o = true) (hy : ∀ w,S w -> (execOp a.eval o).run P w = .ok (.value v) w) (h : SQ P L Q S cs r (a.put o.dst v) w) (hQ : ∀ c a w,Q (.panic c) (a.put o.dst v) w -> Q (.panic c) a w := by exact fun _ _ _ h => h) : SQ P L Q S cs (i :: r) a w := by
  intro listed hn hc hS; rw [<- gst_eq] at hw; simp only [chq,Bool.and_eq_true] at hc; obtain ⟨h1,h2⟩ := hc; rw [if_neg (by rw [hm]; simp),Bool.and_eq_true] at h1; exact wpAnyH_take (nthO_at hi) hn h1.1 h1.2 hQ (Or.inl ⟨hw,hy⟩) hS (h _ hn h2 hS)
theorem sq_do {i : Nat} {r : List Nat} {o : Oper} (hi : nthO L i = some o) (hm : cs.contains i = true) (hw : gst L a.tmps.toList o = true) (h : ∀ K' : Act -> World -> Prop,Shut (∀ a w,S w -> (S w -> SQ P L Q S cs r a w) -> K' a w) -> Oper.wp P o a w K' Q) : SQ P L Q S cs (i :: r) a w := by
  intro listed hn hc hS; rw [<- gst_eq] at hw; simp only [chq,Bool.and_eq_true] at hc; obtain ⟨h1,h2⟩ := hc; rw [if_pos hm,beq_iff_eq] at h1; refine wpAnyH_ready h1 (by simp) (AllReadyH.cons (nthO_at hi) (fun K hK => ?_) AllReadyH.nil); rw [if_pos hw]; exact h K (fun a w hS hq => hK _ _ hS (fun hS => hq hS _ hn h2 hS))
theorem sq_end (h : S w -> Q .normal a w) : SQ P L Q S cs [] a w := by
  intro listed hn hc hS; simp only [chq,List.isEmpty_iff] at hc; exact wpAnyH_done hc (h hS) _
end
end Go.Proofs.YtfljcdccepnidaaGreatDoor
