import Derived.Test.YtldpkkbdhohcmaaGreatDoorTlM
import Derived.Laws.Tables
import Derived.Test.YtldpkkbdhohcmaaGreatDoorTmS
import Derived.Test.YtldpkkbdhohcmaaGreatDoorNmR
namespace Go.Proofs.YtldpkkbdhohcmaaGreatDoor
open Go.ChangeShapes Go.WideShapes Go.ChangeAt Go.RowKit Go.Lib Go.Tm Go.Bw Go.Bn Go.Bd

def strV (u : List UInt8) : Value := .string ⟨u.toArray⟩
theorem ext_str (s : ByteArray) (f k : Nat) : (.string (s.extract f k) : Value) = strV ((s.data.toList.take k).drop f) := by
  unfold strV; rw [bytes_of (show (s.extract f k).data.toList = (s.data.toList.take k).drop f by rw [<- Lib.toList_data,Lib.extract_toList,List.drop_take])]
theorem at_ofP {D : ByteArray} {k : Nat} (h : k < D.size) : D.data.toList.drop k = D[k] :: D.data.toList.drop (k + 1) := by
  have hl : D.data.toList.length = D.size := (Lib.size_eq D).symm; exact List.drop_eq_getElem_cons (by omega)
theorem cur_more {l : List UInt8} {f k : Nat} {c : UInt8} {r : List UInt8} (h : l.drop k = c :: r) (hf : f <= k) : (l.take (k + 1)).drop f = (l.take k).drop f ++ [c] := by
  have hk : k < l.length := by
    have := congrArg List.length h; rw [List.length_drop,List.length_cons] at this
    omega
  have hc : l[k]? = some c := by
    have h2 : (l.drop k)[0]? = some c := by rw [h]; rfl
    rw [List.getElem?_drop] at h2; exact h2
  rw [List.take_add_one,hc]; rw [List.drop_append_of_le_length (by rw [List.length_take]; omega)]
  rfl
theorem take_drop_self (l : List UInt8) (k : Nat) : (l.take k).drop k = [] := List.drop_eq_nil_of_le (by rw [List.length_take]; omega)
theorem below_append {B e n : Nat} {w wr w1 : World} {o : Obj} {v : Value} {L : List Value} (hB : Below B w wr) (hs : B <= wr.heap.size) (ho : wr.ownsRow B e 1 v n L) (hg : (wr.alloc o).grownBy w1 v.ownBlock) : Below B w w1 :=
  (hB.alloc hs _).grown hg (by simp; omega) (fun k hk => (ho.lt k hk).1)
/-- what a word on its way has -/
def curW (l : List UInt8) (fo : Int) (k : Nat) : List UInt8 := if fo < 0 then [] else (l.take k).drop fo.toNat
/-- the words so far -/
structure WS7 (w wr : World) (l : List UInt8) (k : Nat) (fo : Int) (v : Value) (ws : List (List UInt8)) : Prop where
  row : wr.ownsRow w.heap.size 9 1 v ws.length (ws.map strV)
  bel : Below w.heap.size w wr
  num : ws.length <= k
  fob : -1 <= fo /\ fo < k
  rel : k <= l.length -> wds l = ws ++ wgo (curW l fo k) (l.drop k)
  fin : l.length < k -> wds l = ws
theorem wgo_blank (r : List UInt8) : wgo [] (32 :: r) = wgo [] r := by rw [wgo,if_pos rfl,if_pos rfl]
theorem wgo_cut {cur : List UInt8} (r : List UInt8) (hc : cur ≠ []) : wgo cur (32 :: r) = cur :: wgo [] r := by rw [wgo,if_pos rfl,if_neg hc]
theorem wgo_sign {cur : List UInt8} {c : UInt8} (r : List UInt8) (h : c ≠ 32) : wgo cur (c :: r) = wgo (cur ++ [c]) r := by rw [wgo,if_neg h]
theorem cur_ne {l : List UInt8} {f k : Nat} (h : f < k) (hk : k <= l.length) : (l.take k).drop f ≠ [] := fun e => by
  have := congrArg List.length e; rw [List.length_drop,List.length_take] at this
  simp at this
  omega
set_option maxHeartbeats 8000000 in
set_option maxRecDepth 100000 in
theorem words7_any (s : ByteArray) (w : World) (hs : s.size <= 1048576) :
    Calls Tryz.prog 32 #[.string s] w fun e w' => ∃ v,e = .returned v /\ w'.ownsRow w.heap.size 9 1 v (wds s.data.toList).length ((wds s.data.toList).map strV) /\ Below w.heap.size w w' := by
  generalize hPP : (fun (e : Ending) (w' : World) => ∃ v,e = .returned v /\ w'.ownsRow w.heap.size 9 1 v (wds s.data.toList).length ((wds s.data.toList).map strV) /\ Below w.heap.size w w') = PP
  have HPP : Hid (∀ v w',w'.ownsRow w.heap.size 9 1 v (wds s.data.toList).length ((wds s.data.toList).map strV) -> Below w.heap.size w w' -> PP (.returned v) w') := fun v w' h1 h2 => by rw [<- hPP]; exact ⟨v,rfl,h1,h2⟩
  clear hPP; have HL : Hid (s.data.toList.length = s.size) := (Lib.size_eq s).symm; have HW0 : Hid (WS7 w w s.data.toList 0 (-1) (.slice none 0 0) []) := ⟨World.ownsRow_nil _ _ _ _,Below.refl _ _,Nat.le_refl _,by omega,fun _ => rfl,fun h => by omega⟩; obtain ⟨i0,hi,hz0,hz1,hz2⟩ := info_parts (P := Tryz.prog) (e := 9) (z := .string ⟨#[]⟩) (size := 1) (bytes := 16) (by kernel_rfl)
  go_enter Tryz.func32,Tryz.ntmps32
  go_wp2_with fail
  go_loopg [3,4,5] (s.size + 1) (fun gk v vf vi wr => ∃ (k : Nat) (fo : Int),vf = .int .i64 fo /\ vi = .int .i64 k /\ k + gk = s.size + 1 /\ Aside (∃ ws,WS7 w wr s.data.toList k fo v ws))
  case atStart => exact ⟨0,-1,rfl,rfl,by omega,[],HW0.out⟩
  case round =>
    obtain ⟨k,fo,rfl,rfl,hk,HU⟩ := hrel; clear HW0; obtain ⟨ws,hW⟩ := HU.out; have HWS : Hid (WS7 w wr s.data.toList k fo u3 ws) := hW; have hsz : w.heap.size <= wr.heap.size := hW.bel.size; have hwl := hW.num; have hfo := hW.fob; clear HU hW
    by_cases hlt : k < s.size
    · have hat := at_ofP hlt
      obtain ⟨c,hc⟩ : ∃ c,s[k] = c := ⟨_,rfl⟩; rw [hc] at hat; have HAT : Hid (s.data.toList.drop k = c :: s.data.toList.drop (k + 1)) := hat; have hkn : (k : Int) < (s.size : Int) := by omega
      have hkn2 : (k : Int) <= (s.size : Int) := by omega
      clear hat
      by_cases h32 : c.toNat = 32
      · have q1 : ((c.toNat : Int) != 32) = false := by rw [h32]; rfl
        have HC : Hid (c = 32) := UInt8.toNat_inj.1 (by rw [h32]; rfl)
        by_cases hf : fo < 0
        · have HN : Aside (∃ ws,WS7 w wr s.data.toList (k + 1) (-1) u3 ws) := ⟨ws,HWS.out.row,HWS.out.bel,by omega,by omega,fun _ => by
            rw [HWS.out.rel (by rw [HL.out]; omega),HAT.out,HC.out,show curW s.data.toList fo k = [] from if_pos hf,wgo_blank]; rfl,fun h => by rw [HL.out] at h; omega⟩
          have hfg : ¬ (0 : Int) <= fo := by omega
          clear HWS HAT HC
          go_wp2
          go_roundg (gk - 1)
          case measure => omega
          case rel => exact ⟨k + 1,-1,rfl,by simp,by omega,HN⟩
        obtain ⟨f,rfl⟩ : ∃ f : Nat,fo = (f : Int) := ⟨fo.toNat,by omega⟩; have hfg : (0 : Int) <= (f : Int) := by omega
        have hgl : (f : Int) <= (k : Int) := by omega
        have HFI : Hid (∀ v' w',w'.ownsRow w.heap.size 9 1 v' (ws.length + 1) (ws.map strV ++ [.string (s.extract f k)]) -> Below w.heap.size w w' -> ∃ ws,WS7 w w' s.data.toList (k + 1) (-1) v' ws) := fun v' w' h1 h2 => by
          refine ⟨ws ++ [(s.data.toList.take k).drop f],?_,h2,by simp; omega,by omega,fun _ => ?_,fun h => by rw [HL.out] at h; omega⟩
          · rw [List.length_append,List.map_append]
            rw [ext_str] at h1; exact h1
          rw [HWS.out.rel (by rw [HL.out]; omega),HAT.out,HC.out,show curW s.data.toList (f : Int) k = (s.data.toList.take k).drop f from if_neg (by omega),wgo_cut _ (cur_ne (by omega) (by rw [HL.out]; omega))]; rw [List.append_assoc]
          rfl
        clear HAT HC hf
        go_wp2_with (at_builtin; refine wpList_append_own _ rfl _ _ 94 rfl w.heap.size 9 i0 (.string ⟨#[]⟩) 1 16 Tryz.underlying94 hi hz0 hz1 hz2 rfl (by decide) _ _ _ rfl (HWS.out.row.alloc _) ⟨wr.heap.size,0,none⟩ 1 1 [.string (s.extract f k)] rfl rfl (cell_one_new _ _ _) (by intro u hu; simp at hu; subst hu; rfl) (by unfold maxLen; omega) (by omega) (by simp; omega) ?_; intro v2 w2 hown2 hgrow2 hnil2; have HN : Aside (∃ ws,WS7 w w2 s.data.toList (k + 1) (-1) v2 ws) := HFI.out v2 w2 hown2 (below_append HWS.out.bel hsz HWS.out.row hgrow2); clear hown2 hgrow2 hnil2)
        go_roundg (gk - 1)
        case measure => omega
        case rel => exact ⟨k + 1,-1,by simp,by simp,by omega,HN⟩
      have q1 : ((c.toNat : Int) != 32) = true := by simp; omega
      have HC : Hid (c ≠ 32) := fun e => h32 (by rw [e]; rfl)
      by_cases hf : fo < 0
      · have HN : Aside (∃ ws,WS7 w wr s.data.toList (k + 1) (k : Int) u3 ws) := ⟨ws,HWS.out.row,HWS.out.bel,by omega,by omega,fun _ => by
          rw [HWS.out.rel (by rw [HL.out]; omega),HAT.out,show curW s.data.toList fo k = [] from if_pos hf,wgo_sign _ HC.out,show curW s.data.toList (k : Int) (k + 1) = (s.data.toList.take (k + 1)).drop k from if_neg (by omega),cur_more HAT.out (Nat.le_refl _),take_drop_self],fun h => by rw [HL.out] at h; omega⟩
        clear HWS HAT HC
        go_wp2
        go_roundg (gk - 1)
        case measure => omega
        case rel => exact ⟨k + 1,k,rfl,by simp,by omega,HN⟩
      have HN : Aside (∃ ws,WS7 w wr s.data.toList (k + 1) fo u3 ws) := ⟨ws,HWS.out.row,HWS.out.bel,by omega,by omega,fun _ => by
        rw [HWS.out.rel (by rw [HL.out]; omega),HAT.out,show curW s.data.toList fo k = (s.data.toList.take k).drop fo.toNat from if_neg hf,wgo_sign _ HC.out,show curW s.data.toList fo (k + 1) = (s.data.toList.take (k + 1)).drop fo.toNat from if_neg hf,cur_more HAT.out (by omega)],fun h => by rw [HL.out] at h; omega⟩
      clear HWS HAT HC
      go_wp2
      go_roundg (gk - 1)
      case measure => omega
      case rel => exact ⟨k + 1,fo,rfl,by simp,by omega,HN⟩
    by_cases hks : k = s.size
    · subst hks
      have hkn : ¬ (s.size : Int) < (s.size : Int) := by omega
      have HEN : Hid (s.data.toList.drop s.size = []) := List.drop_eq_nil_of_le (by rw [HL.out]; exact Nat.le_refl _)
      by_cases hf : fo < 0
      · have HN : Aside (∃ ws,WS7 w wr s.data.toList (s.size + 1) (-1) u3 ws) := ⟨ws,HWS.out.row,HWS.out.bel,by omega,by omega,fun h => by rw [HL.out] at h; omega,fun _ => by
          rw [HWS.out.rel (by rw [HL.out]; omega),HEN.out,show curW s.data.toList fo s.size = [] from if_pos hf,wgo,if_pos rfl,List.append_nil]⟩
        have hfg : ¬ (0 : Int) <= fo := by omega
        clear HWS HEN
        go_wp2
        go_roundg (gk - 1)
        case measure => omega
        case rel => exact ⟨s.size + 1,-1,rfl,by simp,by omega,HN⟩
      obtain ⟨f,rfl⟩ : ∃ f : Nat,fo = (f : Int) := ⟨fo.toNat,by omega⟩; have hfg : (0 : Int) <= (f : Int) := by omega
      have hgl : (f : Int) <= (s.size : Int) := by omega
      have HFI : Hid (∀ v' w',w'.ownsRow w.heap.size 9 1 v' (ws.length + 1) (ws.map strV ++ [.string (s.extract f s.size)]) -> Below w.heap.size w w' -> ∃ ws,WS7 w w' s.data.toList (s.size + 1) (-1) v' ws) := fun v' w' h1 h2 => by
        refine ⟨ws ++ [(s.data.toList.take s.size).drop f],?_,h2,by simp; omega,by omega,fun h => by rw [HL.out] at h; omega,fun _ => ?_⟩
        · rw [List.length_append,List.map_append]
          rw [ext_str] at h1; exact h1
        rw [HWS.out.rel (by rw [HL.out]; omega),HEN.out,show curW s.data.toList (f : Int) s.size = (s.data.toList.take s.size).drop f from if_neg (by omega),wgo,if_neg (cur_ne (by omega) (by rw [HL.out]; omega))]
      clear HEN hf
      go_wp2_with (at_builtin; refine wpList_append_own _ rfl _ _ 94 rfl w.heap.size 9 i0 (.string ⟨#[]⟩) 1 16 Tryz.underlying94 hi hz0 hz1 hz2 rfl (by decide) _ _ _ rfl (HWS.out.row.alloc _) ⟨wr.heap.size,0,none⟩ 1 1 [.string (s.extract f s.size)] rfl rfl (cell_one_new _ _ _) (by intro u hu; simp at hu; subst hu; rfl) (by unfold maxLen; omega) (by omega) (by simp; omega) ?_; intro v2 w2 hown2 hgrow2 hnil2; have HN : Aside (∃ ws,WS7 w w2 s.data.toList (s.size + 1) (-1) v2 ws) := HFI.out v2 w2 hown2 (below_append HWS.out.bel hsz HWS.out.row hgrow2); clear hown2 hgrow2 hnil2)
      go_roundg (gk - 1)
      case measure => omega
      case rel => exact ⟨s.size + 1,-1,by simp,by simp,by omega,HN⟩
    obtain rfl : k = s.size + 1 := by omega
    have HN : Hid (PP (.returned u3) wr) := by
      have e := HWS.out.fin (by rw [HL.out]; omega); exact HPP.out _ _ (by rw [e]; exact HWS.out.row) HWS.out.bel
    have hgk : ¬ (s.size : Int) + 1 <= (s.size : Int) := by omega
    clear HWS
    go_wp2
    first | exact HN.out | (go_ret; exact HN.out)
/-- a number below 2 to the 31st; -1: it is none -/
def sV (o : Option Nat) : Int := match o with | some v => v | none => -1
set_option maxHeartbeats 8000000 in
set_option maxRecDepth 100000 in
theorem small_any (s : ByteArray) (w : World) (hs : s.size <= 1048576) :
    Calls Tryz.prog 53 #[.string s] w fun e w' => e = .returned (.int .i64 (sV (smN s.data.toList))) /\ w' = w := by
  have HR : Hid (Calls Tryz.prog 56 #[.string s] w fun e w' => e = .returned (.tuple #[.int .u64 (nV (numO s.data.toList)),.int .i64 (nE (numO s.data.toList))]) /\ w' = w) := rnumber_any s w (by omega); unfold smN; cases hn : numO s.data.toList with
  | none =>
    rw [hn] at HR; simp only [nV,nE] at HR
    go_enter Tryz.func53,Tryz.ntmps53
    go_wp2_with (go_at_call 56; refine HR.out.mono ?_; rintro e w' ⟨rfl,rfl⟩)
    go_ret
    exact ⟨rfl,rfl⟩
  | some v =>
    rw [hn] at HR; simp only [nV,nE] at HR; obtain ⟨x,hx⟩ : ∃ x : Int,(v : Int) = x := ⟨_,rfl⟩; rw [hx] at HR
    by_cases h : v < 2147483648
    · have hv : ¬ (2147483648 : Int) <= x := by omega
      have hv2 : I64 x := by unfold I64; omega
      have hq : IntKind.i64.wrap x = x := by rw [IntKind.wrap_i64]; omega
      simp only [if_pos h,sV]; rw [hx]; clear hx h hn
      go_enter Tryz.func53,Tryz.ntmps53
      go_wp2_with (go_at_call 56; refine HR.out.mono ?_; rintro e w' ⟨rfl,rfl⟩)
      go_ret
      exact ⟨rfl,rfl⟩
    have hv : (2147483648 : Int) <= x := by omega
    simp only [if_neg h,sV]; clear hx h hn
    go_enter Tryz.func53,Tryz.ntmps53
    go_wp2_with (go_at_call 56; refine HR.out.mono ?_; rintro e w' ⟨rfl,rfl⟩)
    go_ret
    exact ⟨rfl,rfl⟩
end Go.Proofs.YtldpkkbdhohcmaaGreatDoor
