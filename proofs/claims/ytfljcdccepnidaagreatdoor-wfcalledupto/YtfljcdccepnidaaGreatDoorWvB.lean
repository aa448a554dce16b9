import Derived.Test.YtfljcdccepnidaaGreatDoorWuU
namespace Go.Proofs.YtfljcdccepnidaaGreatDoor
open Go.ChangeShapes Go.WideShapes Go.ChangeAt Go.RowKit Go.Lib

def pows : List Int := [1,2,4,8,16,32,64,128,256]
def powB (n : Int) : Bool := pows.any (fun c => n == c)
set_option maxHeartbeats 8000000 in
set_option maxRecDepth 100000 in
theorem power_any (x : Int) (w : World) : Calls Tryz.prog 52 #[.int .u64 x] w fun e w' => e = .returned (.bool (powB x)) /\ w' = w := by
  go_enter Tryz.func52,Tryz.ntmps52
  go_wp2_with fail
  go_loopg [3] 9 (fun gk v3 wr => wr = w /\ ∃ i : Nat,i + gk = 9 /\ v3 = .int .u64 (2 ^ i) /\ Aside (powB x = (pows.drop i).any (fun c => x == c)))
  case atStart => exact ⟨rfl,0,rfl,by simp,rfl⟩
  case round =>
    obtain ⟨rfl,i,hi,rfl,HR⟩ := hrel; have hc : i = 0 ∨ i = 1 ∨ i = 2 ∨ i = 3 ∨ i = 4 ∨ i = 5 ∨ i = 6 ∨ i = 7 ∨ i = 8 ∨ i = 9 := by omega
    rcases hc with rfl | rfl | rfl | rfl | rfl | rfl | rfl | rfl | rfl | rfl
    · have e0 : ((2 : Int) ^ 0) = 1 := by decide
      rw [e0]
      by_cases hn : x = 1
      · have HE : Hid (true = powB x) := by show _ = _; rw [HR.out,hn]; decide
        have q1 : (x == 1) = true := by simp [hn]
        clear HR e0 hn
        go_wp2_with fail
        go_ret
        exact ⟨by rw [<- HE.out]; rfl,rfl⟩
      have q1 : (x == 1) = false := by simp [hn]
      have HE : Hid (powB x = (pows.drop 1).any (fun c => x == c)) := by
        show _ = _
        rw [HR.out]; have e1 : pows.drop 0 = 1 :: pows.drop 1 := rfl; rw [e1,List.any_cons,q1,Bool.false_or]
      clear HR e0 hn
      go_wp2_with fail
      go_roundg (8)
      case measure => omega
      case rel => exact ⟨rfl,1,rfl,by simp,HE.out⟩
    · have e0 : ((2 : Int) ^ 1) = 2 := by decide
      rw [e0]
      by_cases hn : x = 2
      · have HE : Hid (true = powB x) := by show _ = _; rw [HR.out,hn]; decide
        have q1 : (x == 2) = true := by simp [hn]
        clear HR e0 hn
        go_wp2_with fail
        go_ret
        exact ⟨by rw [<- HE.out]; rfl,rfl⟩
      have q1 : (x == 2) = false := by simp [hn]
      have HE : Hid (powB x = (pows.drop 2).any (fun c => x == c)) := by
        show _ = _
        rw [HR.out]; have e1 : pows.drop 1 = 2 :: pows.drop 2 := rfl; rw [e1,List.any_cons,q1,Bool.false_or]
      clear HR e0 hn
      go_wp2_with fail
      go_roundg (7)
      case measure => omega
      case rel => exact ⟨rfl,2,rfl,by simp,HE.out⟩
    · have e0 : ((2 : Int) ^ 2) = 4 := by decide
      rw [e0]
      by_cases hn : x = 4
      · have HE : Hid (true = powB x) := by show _ = _; rw [HR.out,hn]; decide
        have q1 : (x == 4) = true := by simp [hn]
        clear HR e0 hn
        go_wp2_with fail
        go_ret
        exact ⟨by rw [<- HE.out]; rfl,rfl⟩
      have q1 : (x == 4) = false := by simp [hn]
      have HE : Hid (powB x = (pows.drop 3).any (fun c => x == c)) := by
        show _ = _
        rw [HR.out]; have e1 : pows.drop 2 = 4 :: pows.drop 3 := rfl; rw [e1,List.any_cons,q1,Bool.false_or]
      clear HR e0 hn
      go_wp2_with fail
      go_roundg (6)
      case measure => omega
      case rel => exact ⟨rfl,3,rfl,by simp,HE.out⟩
    · have e0 : ((2 : Int) ^ 3) = 8 := by decide
      rw [e0]
      by_cases hn : x = 8
      · have HE : Hid (true = powB x) := by show _ = _; rw [HR.out,hn]; decide
        have q1 : (x == 8) = true := by simp [hn]
        clear HR e0 hn
        go_wp2_with fail
        go_ret
        exact ⟨by rw [<- HE.out]; rfl,rfl⟩
      have q1 : (x == 8) = false := by simp [hn]
      have HE : Hid (powB x = (pows.drop 4).any (fun c => x == c)) := by
        show _ = _
        rw [HR.out]; have e1 : pows.drop 3 = 8 :: pows.drop 4 := rfl; rw [e1,List.any_cons,q1,Bool.false_or]
      clear HR e0 hn
      go_wp2_with fail
      go_roundg (5)
      case measure => omega
      case rel => exact ⟨rfl,4,rfl,by simp,HE.out⟩
    · have e0 : ((2 : Int) ^ 4) = 16 := by decide
      rw [e0]
      by_cases hn : x = 16
      · have HE : Hid (true = powB x) := by show _ = _; rw [HR.out,hn]; decide
        have q1 : (x == 16) = true := by simp [hn]
        clear HR e0 hn
        go_wp2_with fail
        go_ret
        exact ⟨by rw [<- HE.out]; rfl,rfl⟩
      have q1 : (x == 16) = false := by simp [hn]
      have HE : Hid (powB x = (pows.drop 5).any (fun c => x == c)) := by
        show _ = _
        rw [HR.out]; have e1 : pows.drop 4 = 16 :: pows.drop 5 := rfl; rw [e1,List.any_cons,q1,Bool.false_or]
      clear HR e0 hn
      go_wp2_with fail
      go_roundg (4)
      case measure => omega
      case rel => exact ⟨rfl,5,rfl,by simp,HE.out⟩
    · have e0 : ((2 : Int) ^ 5) = 32 := by decide
      rw [e0]
      by_cases hn : x = 32
      · have HE : Hid (true = powB x) := by show _ = _; rw [HR.out,hn]; decide
        have q1 : (x == 32) = true := by simp [hn]
        clear HR e0 hn
        go_wp2_with fail
        go_ret
        exact ⟨by rw [<- HE.out]; rfl,rfl⟩
      have q1 : (x == 32) = false := by simp [hn]
      have HE : Hid (powB x = (pows.drop 6).any (fun c => x == c)) := by
        show _ = _
        rw [HR.out]; have e1 : pows.drop 5 = 32 :: pows.drop 6 := rfl; rw [e1,List.any_cons,q1,Bool.false_or]
      clear HR e0 hn
      go_wp2_with fail
      go_roundg (3)
      case measure => omega
      case rel => exact ⟨rfl,6,rfl,by simp,HE.out⟩
    · have e0 : ((2 : Int) ^ 6) = 64 := by decide
      rw [e0]
      by_cases hn : x = 64
      · have HE : Hid (true = powB x) := by show _ = _; rw [HR.out,hn]; decide
        have q1 : (x == 64) = true := by simp [hn]
        clear HR e0 hn
        go_wp2_with fail
        go_ret
        exact ⟨by rw [<- HE.out]; rfl,rfl⟩
      have q1 : (x == 64) = false := by simp [hn]
      have HE : Hid (powB x = (pows.drop 7).any (fun c => x == c)) := by
        show _ = _
        rw [HR.out]; have e1 : pows.drop 6 = 64 :: pows.drop 7 := rfl; rw [e1,List.any_cons,q1,Bool.false_or]
      clear HR e0 hn
      go_wp2_with fail
      go_roundg (2)
      case measure => omega
      case rel => exact ⟨rfl,7,rfl,by simp,HE.out⟩
    · have e0 : ((2 : Int) ^ 7) = 128 := by decide
      rw [e0]
      by_cases hn : x = 128
      · have HE : Hid (true = powB x) := by show _ = _; rw [HR.out,hn]; decide
        have q1 : (x == 128) = true := by simp [hn]
        clear HR e0 hn
        go_wp2_with fail
        go_ret
        exact ⟨by rw [<- HE.out]; rfl,rfl⟩
      have q1 : (x == 128) = false := by simp [hn]
      have HE : Hid (powB x = (pows.drop 8).any (fun c => x == c)) := by
        show _ = _
        rw [HR.out]; have e1 : pows.drop 7 = 128 :: pows.drop 8 := rfl; rw [e1,List.any_cons,q1,Bool.false_or]
      clear HR e0 hn
      go_wp2_with fail
      go_roundg (1)
      case measure => omega
      case rel => exact ⟨rfl,8,rfl,by simp,HE.out⟩
    · have e0 : ((2 : Int) ^ 8) = 256 := by decide
      rw [e0]
      by_cases hn : x = 256
      · have HE : Hid (true = powB x) := by show _ = _; rw [HR.out,hn]; decide
        have q1 : (x == 256) = true := by simp [hn]
        clear HR e0 hn
        go_wp2_with fail
        go_ret
        exact ⟨by rw [<- HE.out]; rfl,rfl⟩
      have q1 : (x == 256) = false := by simp [hn]
      have HE : Hid (powB x = (pows.drop 9).any (fun c => x == c)) := by
        show _ = _
        rw [HR.out]; have e1 : pows.drop 8 = 256 :: pows.drop 9 := rfl; rw [e1,List.any_cons,q1,Bool.false_or]
      clear HR e0 hn
      go_wp2_with fail
      go_roundg (0)
      case measure => omega
      case rel => exact ⟨rfl,9,rfl,by simp,HE.out⟩
    have e0 : ((2 : Int) ^ 9) = 512 := by decide
    rw [e0]; have HE : Hid (false = powB x) := by show _ = _; rw [HR.out]; rfl
    clear HR e0
    go_wp2_with fail
    go_ret
    exact ⟨by rw [<- HE.out]; rfl,rfl⟩
set_option maxHeartbeats 4000000 in
theorem rfits_any (a x : Int) (w : World) (h0 : 0 <= a) : Calls Tryz.prog 53 #[.int .i64 a,.int .u64 x] w fun e w' => e = .returned (.bool (decide (64 <= a) || decide (x < 2 ^ a.toNat))) /\ w' = w := by
  by_cases h2 : 64 <= a
  · have q1 : decide (64 <= a) = true := by simp [h2]
    rw [q1]
    go_enter Tryz.func53,Tryz.ntmps53
    go_wp2
    go_ret
    exact ⟨rfl,rfl⟩
  have q1 : decide (64 <= a) = false := by simp [h2]
  rw [q1]; have hw := Go.Bw.wrap_pow a.toNat (by omega); have hcv : IntKind.u64.wrap a = a := by rw [IntKind.wrap_u64]; omega
  go_enter Tryz.func53,Tryz.ntmps53
  go_wp2
  go_ret
  exact ⟨by simp,rfl⟩
set_option maxHeartbeats 4000000 in
theorem words_any (k z : Int) (s : ByteArray) (vv : Value) (w : World) : Calls Tryz.prog 54 #[.agg #[.int .i64 k,.string s,.int .i64 z,vv]] w fun e w' => e = .returned (.int .i64 (if z = 0 then 1 else z)) /\ Below w.heap.size w w' := by
  obtain ⟨W1,hW1⟩ : ∃ W1,w.alloc (.cells #[.int .i64 k,.string s,.int .i64 z,vv] 34) = W1 := ⟨_,rfl⟩; have HB1 : Hid (Below w.heap.size w W1) := by rw [<- hW1]; exact bel1 _ _
  obtain ⟨Eb,hEb⟩ : ∃ Eb,w.heap.size = Eb := ⟨_,rfl⟩; have c2 : W1.cell? ⟨Eb,2,none⟩ = some (.int .i64 z) := by rw [<- hW1,<- hEb]; exact cell_of (heap_alloc_new _ _) 2
  have HW1 : Hid (w.alloc (.cells #[.int .i64 k,.string s,.int .i64 z,vv] 34) = W1 /\ w.heap.size = Eb) := ⟨hW1,hEb⟩; clear hW1 hEb
  by_cases hz : z = 0
  · subst hz
    rw [if_pos rfl]
    go_enter Tryz.func54,Tryz.ntmps54
    go_upto_region 1 with fail
    rw [HW1.out.1,HW1.out.2]
    go_wp2_with fail
    go_ret
    exact ⟨rfl,HB1.out⟩
  have q1 : (z == 0) = false := by simp [hz]
  rw [if_neg hz]
  go_enter Tryz.func54,Tryz.ntmps54
  go_upto_region 1 with fail
  rw [HW1.out.1,HW1.out.2]
  go_wp2_with fail
  go_ret
  exact ⟨rfl,HB1.out⟩
def LR (w : World) (P : Nat -> Prop) (ls : List ByteArray) (v : Value) : Prop := ∃ ad cap,v = .slice ad ls.length cap /\ (0 < ls.length -> ∃ b o,ad = some ⟨b,o,none⟩ /\ P b /\ ∀ j,j < ls.length -> w.cell? ⟨b,o + j,none⟩ = some (.string (ls.getD j ByteArray.empty)))
theorem LR.keep {w w' : World} {P : Nat -> Prop} (hb : ∀ j,P j -> w'.heap[j]? = w.heap[j]?) {ls : List ByteArray} {v : Value} (h : LR w P ls v) : LR w' P ls v := by
  obtain ⟨ad,cap,e,h3⟩ := h; refine ⟨ad,cap,e,fun h0 => ?_⟩; obtain ⟨b,o,e2,hP,hc⟩ := h3 h0; exact ⟨b,o,e2,hP,fun j hj => (World.cell?_of_block (a := ⟨b,_,none⟩) (hb b hP)).trans (hc j hj)⟩
set_option maxHeartbeats 4000000 in
theorem in_any {w : World} {P : Nat -> Prop} {ls : List ByteArray} {v : Value} (h : LR w P ls v) (hn : ls.length <= 1048576) (s : ByteArray) : Calls Tryz.prog 57 #[v,.string s] w fun e w' => e = .returned (.bool (hasB ls s)) /\ w' = w := by
  obtain ⟨ad,cap,rfl,h3⟩ := h; obtain ⟨m,hm⟩ : ∃ m,ls.length = m := ⟨_,rfl⟩; have HM : Hid (ls.length = m) := hm; have HC : Hid (0 < m -> ∃ b o,ad = some ⟨b,o,none⟩ /\ ∀ j,j < m -> w.cell? ⟨b,o + j,none⟩ = some (.string (ls.getD j ByteArray.empty))) := fun h0 => by
    obtain ⟨b,o,e,_,hc⟩ := h3 (by omega); exact ⟨b,o,e,fun j hj => hc j (by omega)⟩
  rw [hm] at hn; rw [hm]; clear h3 hm
  go_enter Tryz.func57,Tryz.ntmps57
  go_wp2_with fail
  go_loopg [5] m (fun gk v5 wr => wr = w /\ ∃ j : Nat,v5 = .int .i64 (j : Int) /\ j + gk = m /\ Aside (hasB ls s = hasB (ls.drop j) s))
  case atStart => exact ⟨rfl,0,rfl,by omega,rfl⟩
  case round =>
    obtain ⟨rfl,j,rfl,hjg,HR⟩ := hrel
    by_cases hlt : j < m
    · have r1 : (j : Int) < (m : Int) := by omega
      obtain ⟨b,o,rfl,hc⟩ := HC.out (by omega); have c0 := hc j hlt; have hlt2 : j < ls.length := by rw [HM.out]; exact hlt
      have HD : Hid (hasB ls s = ((ls.getD j ByteArray.empty).toList == s.toList || hasB (ls.drop (j + 1)) s)) := by
        show _ = _
        rw [HR.out,List.drop_eq_getElem_cons hlt2,List.getD_eq_getElem?_getD,List.getElem?_eq_getElem hlt2]
        rfl
      clear hc HR hlt2
      generalize ls.getD j ByteArray.empty = x at *
      cases hx : (x.toList == s.toList) with
      | true =>
        have HE : Hid (hasB ls s = true) := by show _ = _; rw [HD.out,hx]; rfl
        clear HD
        go_wp2_with fail
        go_ret
        exact ⟨by rw [HE.out]; rfl,rfl⟩
      | false =>
        have HE : Hid (hasB ls s = hasB (ls.drop (j + 1)) s) := by show _ = _; rw [HD.out,hx]; rfl
        clear HD
        go_wp2_with fail
        go_roundg (m - (j + 1))
        case measure => omega
        case rel => exact ⟨rfl,j + 1,by simp,by omega,HE.out⟩
    have r1 : ¬ (j : Int) < (m : Int) := by omega
    have HE : Hid (hasB ls s = false) := by show _ = _; rw [HR.out,List.drop_of_length_le (by rw [HM.out]; omega)]; rfl
    clear HR
    go_wp2_with fail
    go_ret
    exact ⟨by rw [HE.out]; rfl,rfl⟩
theorem dix_drop (Ds : List Dd) (s : ByteArray) {j : Nat} (hj : j < Ds.length) (h : dix Ds s = (dix (Ds.drop j) s).map (· + j)) : dix Ds s = if ((Ds.getD j dd0).s.toList == s.toList) = true then some j else (dix (Ds.drop (j + 1)) s).map (· + (j + 1)) := by
  rw [h,List.drop_eq_getElem_cons hj,List.getD_eq_getElem?_getD,List.getElem?_eq_getElem hj]; unfold dix; rw [List.findIdx?_cons]; simp only [Option.getD_some]
  split
  · simp
  rw [Option.map_map]
  congr 1
  funext a
  simp
  omega
set_option maxHeartbeats 4000000 in
set_option maxRecDepth 100000 in
theorem decl_any {w : World} {P : Nat -> Prop} {p : Pg} {vD vB : Value} (hP : ∀ j,P j -> j < w.heap.size) (h : RDs w P p.Ds vD) (hn : p.Ds.length <= 1048576) (s : ByteArray) : Calls Tryz.prog 7 #[.agg #[.string p.s,.int .i64 p.wd,.int .i64 p.ln,vD,vB],.string s] w fun e w' => e = .returned (.int .i64 (match dix p.Ds s with | none => -1 | some j => (j : Int))) /\ Below w.heap.size w w' := by
  obtain ⟨ad,cap,rfl,h3⟩ := h; obtain ⟨W1,hW1⟩ : ∃ W1,w.alloc (.cells #[.string p.s,.int .i64 p.wd,.int .i64 p.ln,.slice ad p.Ds.length cap,vB] 25) = W1 := ⟨_,rfl⟩; have hb1 : Below w.heap.size w W1 := by rw [<- hW1]; exact bel1 _ _
  have HB1 : Hid (Below w.heap.size w W1) := hb1; obtain ⟨Eb,hEb⟩ : ∃ Eb,w.heap.size = Eb := ⟨_,rfl⟩; have c3 : W1.cell? ⟨Eb,3,none⟩ = some (.slice ad p.Ds.length cap) := by rw [<- hW1,<- hEb]; exact cell_of (heap_alloc_new _ _) 3
  have HW1 : Hid (w.alloc (.cells #[.string p.s,.int .i64 p.wd,.int .i64 p.ln,.slice ad p.Ds.length cap,vB] 25) = W1 /\ w.heap.size = Eb) := ⟨hW1,hEb⟩; obtain ⟨m,hm⟩ : ∃ m,p.Ds.length = m := ⟨_,rfl⟩; have HM : Hid (p.Ds.length = m) := hm; have HC : Hid (0 < m -> ∃ b o,ad = some ⟨b,o,none⟩ /\ ∀ j,j < m -> W1.cell? ⟨b,o + j * 4 + 1,none⟩ = some (.string (p.Ds.getD j dd0).s)) := fun h0 => by
    obtain ⟨b,o,e,hPb,hc⟩ := h3 (by omega); refine ⟨b,o,e,fun j hj => ?_⟩; obtain ⟨v0,v1,v2,v3,d0,d1,d2,d3,aV,cV,e5,_⟩ := hc j (by omega); cases e5; exact (hb1.cell (p := ⟨b,o + j * 4 + 1,none⟩) (hP b hPb)).trans d1
  rw [hm] at hn c3 HW1; rw [hm]
  generalize hV : (match dix p.Ds s with | none => -1 | some j => (j : Int)) = V
  have HV : Hid ((match dix p.Ds s with | none => -1 | some j => (j : Int)) = V) := hV; clear h3 hm hV hW1 hEb hb1 hP
  go_enter Tryz.func7,Tryz.ntmps7
  go_upto_region 1 with fail
  rw [HW1.out.1,HW1.out.2]
  go_wp2_with fail
  go_loopg [5] m (fun gk v5 wr => wr = W1 /\ ∃ j : Nat,v5 = .int .i64 (j : Int) /\ j + gk = m /\ Aside (dix p.Ds s = (dix (p.Ds.drop j) s).map (· + j)))
  case atStart => exact ⟨rfl,0,rfl,by omega,(show dix p.Ds s = (dix (p.Ds.drop 0) s).map (· + 0) by simp)⟩
  case round =>
    obtain ⟨rfl,j,rfl,hjg,HR⟩ := hrel
    by_cases hlt : j < m
    · have r1 : (j : Int) < (m : Int) := by omega
      obtain ⟨b,o,rfl,hc⟩ := HC.out (by omega); have c0 := hc j hlt; have HD : Hid (dix p.Ds s = if ((p.Ds.getD j dd0).s.toList == s.toList) = true then some j else (dix (p.Ds.drop (j + 1)) s).map (· + (j + 1))) := dix_drop p.Ds s (by rw [HM.out]; exact hlt) HR.out; clear hc HR
      generalize (p.Ds.getD j dd0).s = x at *
      cases hx : (x.toList == s.toList) with
      | true =>
        have HE : Hid ((j : Int) = V) := by
          show _ = _
          have h5 := HD.out; rw [hx,if_pos rfl] at h5; rw [<- HV.out,h5]
        clear HD
        go_wp2_with fail
        go_ret
        exact ⟨by rw [<- HE.out]; rfl,HB1.out⟩
      | false =>
        have HE : Hid (dix p.Ds s = (dix (p.Ds.drop (j + 1)) s).map (· + (j + 1))) := by
          show _ = _
          have h5 := HD.out; rw [hx,if_neg (by simp)] at h5; exact h5
        clear HD
        go_wp2_with fail
        go_roundg (m - (j + 1))
        case measure => omega
        case rel => exact ⟨rfl,j + 1,by simp,by omega,HE.out⟩
    have r1 : ¬ (j : Int) < (m : Int) := by omega
    have HE : Hid ((-1 : Int) = V) := by
      show _ = _
      have h5 := HR.out; rw [List.drop_of_length_le (by rw [HM.out]; omega)] at h5; rw [<- HV.out,h5]
      rfl
    clear HR
    go_wp2_with fail
    go_ret
    exact ⟨by rw [<- HE.out]; rfl,HB1.out⟩
end Go.Proofs.YtfljcdccepnidaaGreatDoor
namespace Go.Proofs.YtfljcdccepnidaaGreatDoor
open Go.ChangeShapes Go.WideShapes Go.ChangeAt Go.RowKit Go.Lib

def hsT (is sk ek : Int) : Bool := decide (is = 2 /\ (ek = 2 ∨ ek = 3)) || decide (is = 1 /\ (sk = 1 ∨ sk = 2 ∨ sk = 5))
def nmT (is sk ek : Int) (ss es : ByteArray) : ByteArray := if is = 2 /\ (ek = 2 ∨ ek = 3) then es else if is = 1 /\ (sk = 1 ∨ sk = 2 ∨ sk = 5) then ss else ⟨#[]⟩
set_option maxHeartbeats 8000000 in
set_option maxRecDepth 100000 in
theorem names_any (is dD sk : Int) (ss : ByteArray) (a0 a1 a2 a3 e0 e1 e2 e3 : Value) (lo hi : Int) (t1 t2 : Value) (ek ex : Int) (es : ByteArray) (kv : Value) (dp : Int) (lv : Value) (w : World) : Calls Tryz.prog 56 #[.agg #[.int .i64 is,.int .i64 dD,.int .i64 sk,.string ss,a0,a1,a2,a3,e0,e1,e2,e3,.int .u64 lo,.int .u64 hi,t1,t2,.int .i64 ek,.int .u64 ex,.string es,kv,.int .i64 dp,lv]] w fun e w' => e = .returned (.tuple #[.string (nmT is sk ek ss es),.bool (hsT is sk ek)]) /\ Below w.heap.size w w' := by
  obtain ⟨W1,hW1⟩ : ∃ W1,w.alloc (.cells #[.int .i64 is,.int .i64 dD,.int .i64 sk,.string ss,a0,a1,a2,a3,e0,e1,e2,e3,.int .u64 lo,.int .u64 hi,t1,t2,.int .i64 ek,.int .u64 ex,.string es,kv,.int .i64 dp,lv] 80) = W1 := ⟨_,rfl⟩; obtain ⟨Eb,hEb⟩ : ∃ Eb,w.heap.size = Eb := ⟨_,rfl⟩; have HB1 : Hid (Below w.heap.size w W1) := by rw [<- hW1]; exact bel1 _ _
  have hbx : W1.heap[Eb]? = some (.cells #[.int .i64 is,.int .i64 dD,.int .i64 sk,.string ss,a0,a1,a2,a3,e0,e1,e2,e3,.int .u64 lo,.int .u64 hi,t1,t2,.int .i64 ek,.int .u64 ex,.string es,kv,.int .i64 dp,lv] 80 (0,0)) := by rw [<- hW1,<- hEb]; exact heap_alloc_new _ _
  have c0 : W1.cell? ⟨Eb,0,none⟩ = some (.int .i64 is) := cell_of hbx 0; have c2 : W1.cell? ⟨Eb,2,none⟩ = some (.int .i64 sk) := cell_of hbx 2; have c3 : W1.cell? ⟨Eb,3,none⟩ = some (.string ss) := cell_of hbx 3; have c16 : W1.cell? ⟨Eb,16,none⟩ = some (.int .i64 ek) := cell_of hbx 16; have c18 : W1.cell? ⟨Eb,18,none⟩ = some (.string es) := cell_of hbx 18; have HW1 : Hid (w.alloc (.cells #[.int .i64 is,.int .i64 dD,.int .i64 sk,.string ss,a0,a1,a2,a3,e0,e1,e2,e3,.int .u64 lo,.int .u64 hi,t1,t2,.int .i64 ek,.int .u64 ex,.string es,kv,.int .i64 dp,lv] 80) = W1 /\ w.heap.size = Eb) := ⟨hW1,hEb⟩; clear hW1 hEb hbx; obtain ⟨nm,hnm⟩ : ∃ nm,nmT is sk ek ss es = nm := ⟨_,rfl⟩; obtain ⟨hs,hhs⟩ : ∃ hs,hsT is sk ek = hs := ⟨_,rfl⟩; rw [hnm,hhs]; unfold nmT at hnm; unfold hsT at hhs
  by_cases h2 : is = 2
  · subst h2
    by_cases k2 : ek = 2
    · subst k2
      rw [if_pos (by omega)] at hnm; replace hhs : true = hs := by rw [<- hhs]; simp
      subst nm hs
      go_enter Tryz.func56,Tryz.ntmps56
      go_upto_region 1 with fail
      rw [HW1.out.1,HW1.out.2]
      go_wp2_with fail
      exact ⟨rfl,_,by simp [results,Tryz.results56,go_sem],rfl,HB1.out⟩
    have q2 : (ek == 2) = false := by simp [k2]
    by_cases k3 : ek = 3
    · subst k3
      rw [if_pos (by omega)] at hnm; replace hhs : true = hs := by rw [<- hhs]; simp
      subst nm hs
      go_enter Tryz.func56,Tryz.ntmps56
      go_upto_region 1 with fail
      rw [HW1.out.1,HW1.out.2]
      go_wp2_with fail
      exact ⟨rfl,_,by simp [results,Tryz.results56,go_sem],rfl,HB1.out⟩
    have q3 : (ek == 3) = false := by simp [k3]
    rw [if_neg (by omega),if_neg (by omega)] at hnm; replace hhs : false = hs := by rw [<- hhs]; simp [k2,k3]
    subst nm hs
    go_enter Tryz.func56,Tryz.ntmps56
    go_upto_region 1 with fail
    rw [HW1.out.1,HW1.out.2]
    go_wp2_with fail
    exact ⟨rfl,_,by simp [results,Tryz.results56,go_sem],rfl,HB1.out⟩
  have q0 : (is == 2) = false := by simp [h2]
  by_cases h1 : is = 1
  · subst h1
    by_cases k1 : sk = 1
    · subst k1
      rw [if_neg (by omega),if_pos (by omega)] at hnm; replace hhs : true = hs := by rw [<- hhs]; simp
      subst nm hs
      go_enter Tryz.func56,Tryz.ntmps56
      go_upto_region 1 with fail
      rw [HW1.out.1,HW1.out.2]
      go_wp2_with fail
      exact ⟨rfl,_,by simp [results,Tryz.results56,go_sem],rfl,HB1.out⟩
    have q1 : (sk == 1) = false := by simp [k1]
    by_cases k2 : sk = 2
    · subst k2
      rw [if_neg (by omega),if_pos (by omega)] at hnm; replace hhs : true = hs := by rw [<- hhs]; simp
      subst nm hs
      go_enter Tryz.func56,Tryz.ntmps56
      go_upto_region 1 with fail
      rw [HW1.out.1,HW1.out.2]
      go_wp2_with fail
      exact ⟨rfl,_,by simp [results,Tryz.results56,go_sem],rfl,HB1.out⟩
    have q2 : (sk == 2) = false := by simp [k2]
    by_cases k5 : sk = 5
    · subst k5
      rw [if_neg (by omega),if_pos (by omega)] at hnm; replace hhs : true = hs := by rw [<- hhs]; simp
      subst nm hs
      go_enter Tryz.func56,Tryz.ntmps56
      go_upto_region 1 with fail
      rw [HW1.out.1,HW1.out.2]
      go_wp2_with fail
      exact ⟨rfl,_,by simp [results,Tryz.results56,go_sem],rfl,HB1.out⟩
    have q5 : (sk == 5) = false := by simp [k5]
    rw [if_neg (by omega),if_neg (by omega)] at hnm; replace hhs : false = hs := by rw [<- hhs]; simp [k1,k2,k5]
    subst nm hs
    go_enter Tryz.func56,Tryz.ntmps56
    go_upto_region 1 with fail
    rw [HW1.out.1,HW1.out.2]
    go_wp2_with fail
    exact ⟨rfl,_,by simp [results,Tryz.results56,go_sem],rfl,HB1.out⟩
  have q1 : (is == 1) = false := by simp [h1]
  rw [if_neg (by omega),if_neg (by omega)] at hnm; replace hhs : false = hs := by rw [<- hhs]; simp [h1,h2]
  subst nm hs
  go_enter Tryz.func56,Tryz.ntmps56
  go_upto_region 1 with fail
  rw [HW1.out.1,HW1.out.2]
  go_wp2_with fail
  exact ⟨rfl,_,by simp [results,Tryz.results56,go_sem],rfl,HB1.out⟩
end Go.Proofs.YtfljcdccepnidaaGreatDoor
