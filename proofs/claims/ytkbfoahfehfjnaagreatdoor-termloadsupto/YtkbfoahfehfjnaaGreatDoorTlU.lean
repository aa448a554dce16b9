import Derived.Test.YtkbfoahfehfjnaaGreatDoorTlM
import Derived.Laws.Tables
import Derived.Test.YtkbfoahfehfjnaaGreatDoorTmR
import Derived.Test.YtkbfoahfehfjnaaGreatDoorNmR
import Derived.Test.YtkbfoahfehfjnaaGreatDoorTlS
import Derived.Test.YtkbfoahfehfjnaaGreatDoorTlG
import Derived.Laws.StructEq
import Derived.Laws.ResultCell
import Derived.Laws.Rows
namespace Go.Proofs.YtkbfoahfehfjnaaGreatDoor
open Go.ChangeShapes Go.WideShapes Go.ChangeAt Go.RowKit Go.Lib Go.Tm Go.Bw Go.Bn Go.Bd

def strV (u : List UInt8) : Value := .string ⟨u.toArray⟩
theorem ext_str (s : ByteArray) (f k : Nat) : (.string (s.extract f k) : Value) = strV ((s.data.toList.take k).drop f) := by
  unfold strV
  rw [bytes_of (show (s.extract f k).data.toList = (s.data.toList.take k).drop f by rw [← Lib.toList_data, Lib.extract_toList, List.drop_take])]
theorem at_of {D : ByteArray} {k : Nat} (h : k < D.size) : D.data.toList.drop k = D[k] :: D.data.toList.drop (k + 1) := by
  have hl : D.data.toList.length = D.size := (Lib.size_eq D).symm
  exact List.drop_eq_getElem_cons (by omega)
theorem cur_more {l : List UInt8} {f k : Nat} {c : UInt8} {r : List UInt8} (h : l.drop k = c :: r) (hf : f ≤ k) : (l.take (k + 1)).drop f = (l.take k).drop f ++ [c] := by
  have hk : k < l.length := by
    have := congrArg List.length h
    rw [List.length_drop, List.length_cons] at this
    omega
  have hc : l[k]? = some c := by
    have h2 : (l.drop k)[0]? = some c := by rw [h]; rfl
    rw [List.getElem?_drop] at h2
    exact h2
  rw [List.take_add_one, hc]
  rw [List.drop_append_of_le_length (by rw [List.length_take]; omega)]
  rfl
theorem take_drop_self (l : List UInt8) (k : Nat) : (l.take k).drop k = [] := List.drop_eq_nil_of_le (by rw [List.length_take]; omega)
theorem below_append {B e n : Nat} {w wr w1 : World} {o : Obj} {v : Value} {L : List Value} (hB : Below B w wr) (hs : B ≤ wr.heap.size) (ho : wr.ownsRow B e 1 v n L) (hg : (wr.alloc o).grownBy w1 v.ownBlock) : Below B w w1 :=
  (hB.alloc hs _).grown hg (by simp; omega) (fun k hk => (ho.lt k hk).1)
/-- what a word on its way has -/
def curW (l : List UInt8) (fo : Int) (k : Nat) : List UInt8 := if fo < 0 then [] else (l.take k).drop fo.toNat
/-- the words so far -/
structure WS7 (w wr : World) (l : List UInt8) (k : Nat) (fo : Int) (v : Value) (ws : List (List UInt8)) : Prop where
  row : wr.ownsRow w.heap.size 9 1 v ws.length (ws.map strV)
  bel : Below w.heap.size w wr
  num : ws.length ≤ k
  fob : -1 ≤ fo ∧ fo < k
  rel : k ≤ l.length → wds l = ws ++ wgo (curW l fo k) (l.drop k)
  fin : l.length < k → wds l = ws
theorem wgo_blank (r : List UInt8) : wgo [] (32 :: r) = wgo [] r := by rw [wgo, if_pos rfl, if_pos rfl]
theorem wgo_cut {cur : List UInt8} (r : List UInt8) (hc : cur ≠ []) : wgo cur (32 :: r) = cur :: wgo [] r := by rw [wgo, if_pos rfl, if_neg hc]
theorem wgo_sign {cur : List UInt8} {c : UInt8} (r : List UInt8) (h : c ≠ 32) : wgo cur (c :: r) = wgo (cur ++ [c]) r := by rw [wgo, if_neg h]
theorem cur_ne {l : List UInt8} {f k : Nat} (h : f < k) (hk : k ≤ l.length) : (l.take k).drop f ≠ [] := fun e => by
  have := congrArg List.length e
  rw [List.length_drop, List.length_take] at this
  simp at this
  omega
set_option maxHeartbeats 8000000 in
set_option maxRecDepth 100000 in
theorem words7_any (s : ByteArray) (w : World) (hs : s.size ≤ 1048576) :
    Calls Tryz.prog 13 #[.string s] w fun e w' => ∃ v, e = .returned v ∧ w'.ownsRow w.heap.size 9 1 v (wds s.data.toList).length ((wds s.data.toList).map strV) ∧ Below w.heap.size w w' := by
  generalize hPP : (fun (e : Ending) (w' : World) => ∃ v, e = .returned v ∧ w'.ownsRow w.heap.size 9 1 v (wds s.data.toList).length ((wds s.data.toList).map strV) ∧ Below w.heap.size w w') = PP
  have HPP : Hid (∀ v w', w'.ownsRow w.heap.size 9 1 v (wds s.data.toList).length ((wds s.data.toList).map strV) → Below w.heap.size w w' → PP (.returned v) w') := fun v w' h1 h2 => by rw [← hPP]; exact ⟨v, rfl, h1, h2⟩
  clear hPP
  have HL : Hid (s.data.toList.length = s.size) := (Lib.size_eq s).symm
  have HW0 : Hid (WS7 w w s.data.toList 0 (-1) (.slice none 0 0) []) := ⟨World.ownsRow_nil _ _ _ _, Below.refl _ _, Nat.le_refl _, by omega, fun _ => rfl, fun h => by omega⟩
  obtain ⟨i0, hi, hz0, hz1, hz2⟩ := info_parts (P := Tryz.prog) (e := 9) (z := .string ⟨#[]⟩) (size := 1) (bytes := 16) (by kernel_rfl)
  go_enter Tryz.func13, Tryz.ntmps13
  go_wp2_with fail
  go_loopg [3, 4, 5] (s.size + 1) (fun gk v vf vi wr => ∃ (k : Nat) (fo : Int), vf = .int .i64 fo ∧ vi = .int .i64 k ∧ k + gk = s.size + 1 ∧ Aside (∃ ws, WS7 w wr s.data.toList k fo v ws))
  case atStart => exact ⟨0, -1, rfl, rfl, by omega, [], HW0.out⟩
  case round =>
    obtain ⟨k, fo, rfl, rfl, hk, HU⟩ := hrel
    clear HW0
    obtain ⟨ws, hW⟩ := HU.out
    have HWS : Hid (WS7 w wr s.data.toList k fo u3 ws) := hW
    have hsz : w.heap.size ≤ wr.heap.size := hW.bel.size
    have hwl := hW.num
    have hfo := hW.fob
    clear HU hW
    by_cases hlt : k < s.size
    · have hat := at_of hlt
      obtain ⟨c, hc⟩ : ∃ c, s[k] = c := ⟨_, rfl⟩
      rw [hc] at hat
      have HAT : Hid (s.data.toList.drop k = c :: s.data.toList.drop (k + 1)) := hat
      have hkn : (k : Int) < (s.size : Int) := by omega
      have hkn2 : (k : Int) ≤ (s.size : Int) := by omega
      clear hat
      by_cases h32 : c.toNat = 32
      · have q1 : ((c.toNat : Int) != 32) = false := by rw [h32]; rfl
        have HC : Hid (c = 32) := UInt8.toNat_inj.1 (by rw [h32]; rfl)
        by_cases hf : fo < 0
        · have HN : Aside (∃ ws, WS7 w wr s.data.toList (k + 1) (-1) u3 ws) := ⟨ws, HWS.out.row, HWS.out.bel, by omega, by omega, fun _ => by
            rw [HWS.out.rel (by rw [HL.out]; omega), HAT.out, HC.out, show curW s.data.toList fo k = [] from if_pos hf, wgo_blank]; rfl, fun h => by rw [HL.out] at h; omega⟩
          have hfg : ¬ (0 : Int) ≤ fo := by omega
          clear HWS HAT HC
          go_wp2
          go_roundg (gk - 1)
          case measure => omega
          case rel => exact ⟨k + 1, -1, rfl, by simp, by omega, HN⟩
        · obtain ⟨f, rfl⟩ : ∃ f : Nat, fo = (f : Int) := ⟨fo.toNat, by omega⟩
          have hfg : (0 : Int) ≤ (f : Int) := by omega
          have hgl : (f : Int) ≤ (k : Int) := by omega
          have HFI : Hid (∀ v' w', w'.ownsRow w.heap.size 9 1 v' (ws.length + 1) (ws.map strV ++ [.string (s.extract f k)]) → Below w.heap.size w w' → ∃ ws, WS7 w w' s.data.toList (k + 1) (-1) v' ws) := fun v' w' h1 h2 => by
            refine ⟨ws ++ [(s.data.toList.take k).drop f], ?_, h2, by simp; omega, by omega, fun _ => ?_, fun h => by rw [HL.out] at h; omega⟩
            · rw [List.length_append, List.map_append]
              rw [ext_str] at h1
              exact h1
            · rw [HWS.out.rel (by rw [HL.out]; omega), HAT.out, HC.out, show curW s.data.toList (f : Int) k = (s.data.toList.take k).drop f from if_neg (by omega), wgo_cut _ (cur_ne (by omega) (by rw [HL.out]; omega))]
              rw [List.append_assoc]
              rfl
          clear HAT HC hf
          go_wp2_with (at_builtin; refine wpList_append_own _ rfl _ _ 52 rfl w.heap.size 9 i0 (.string ⟨#[]⟩) 1 16 Tryz.underlying52 hi hz0 hz1 hz2 rfl (by decide) _ _ _ rfl (HWS.out.row.alloc _) ⟨wr.heap.size, 0, none⟩ 1 1 [.string (s.extract f k)] rfl rfl (cell_one_new _ _ _) (by intro u hu; simp at hu; subst hu; rfl) (by unfold maxLen; omega) (by omega) (by simp; omega) ?_; intro v2 w2 hown2 hgrow2 hnil2; have HN : Aside (∃ ws, WS7 w w2 s.data.toList (k + 1) (-1) v2 ws) := HFI.out v2 w2 hown2 (below_append HWS.out.bel hsz HWS.out.row hgrow2); clear hown2 hgrow2 hnil2)
          go_roundg (gk - 1)
          case measure => omega
          case rel => exact ⟨k + 1, -1, by simp, by simp, by omega, HN⟩
      · have q1 : ((c.toNat : Int) != 32) = true := by simp; omega
        have HC : Hid (c ≠ 32) := fun e => h32 (by rw [e]; rfl)
        by_cases hf : fo < 0
        · have HN : Aside (∃ ws, WS7 w wr s.data.toList (k + 1) (k : Int) u3 ws) := ⟨ws, HWS.out.row, HWS.out.bel, by omega, by omega, fun _ => by
            rw [HWS.out.rel (by rw [HL.out]; omega), HAT.out, show curW s.data.toList fo k = [] from if_pos hf, wgo_sign _ HC.out, show curW s.data.toList (k : Int) (k + 1) = (s.data.toList.take (k + 1)).drop k from if_neg (by omega), cur_more HAT.out (Nat.le_refl _), take_drop_self], fun h => by rw [HL.out] at h; omega⟩
          clear HWS HAT HC
          go_wp2
          go_roundg (gk - 1)
          case measure => omega
          case rel => exact ⟨k + 1, k, rfl, by simp, by omega, HN⟩
        · have HN : Aside (∃ ws, WS7 w wr s.data.toList (k + 1) fo u3 ws) := ⟨ws, HWS.out.row, HWS.out.bel, by omega, by omega, fun _ => by
            rw [HWS.out.rel (by rw [HL.out]; omega), HAT.out, show curW s.data.toList fo k = (s.data.toList.take k).drop fo.toNat from if_neg hf, wgo_sign _ HC.out, show curW s.data.toList fo (k + 1) = (s.data.toList.take (k + 1)).drop fo.toNat from if_neg hf, cur_more HAT.out (by omega)], fun h => by rw [HL.out] at h; omega⟩
          clear HWS HAT HC
          go_wp2
          go_roundg (gk - 1)
          case measure => omega
          case rel => exact ⟨k + 1, fo, rfl, by simp, by omega, HN⟩
    · by_cases hks : k = s.size
      · subst hks
        have hkn : ¬ (s.size : Int) < (s.size : Int) := by omega
        have HEN : Hid (s.data.toList.drop s.size = []) := List.drop_eq_nil_of_le (by rw [HL.out]; exact Nat.le_refl _)
        by_cases hf : fo < 0
        · have HN : Aside (∃ ws, WS7 w wr s.data.toList (s.size + 1) (-1) u3 ws) := ⟨ws, HWS.out.row, HWS.out.bel, by omega, by omega, fun h => by rw [HL.out] at h; omega, fun _ => by
            rw [HWS.out.rel (by rw [HL.out]; omega), HEN.out, show curW s.data.toList fo s.size = [] from if_pos hf, wgo, if_pos rfl, List.append_nil]⟩
          have hfg : ¬ (0 : Int) ≤ fo := by omega
          clear HWS HEN
          go_wp2
          go_roundg (gk - 1)
          case measure => omega
          case rel => exact ⟨s.size + 1, -1, rfl, by simp, by omega, HN⟩
        · obtain ⟨f, rfl⟩ : ∃ f : Nat, fo = (f : Int) := ⟨fo.toNat, by omega⟩
          have hfg : (0 : Int) ≤ (f : Int) := by omega
          have hgl : (f : Int) ≤ (s.size : Int) := by omega
          have HFI : Hid (∀ v' w', w'.ownsRow w.heap.size 9 1 v' (ws.length + 1) (ws.map strV ++ [.string (s.extract f s.size)]) → Below w.heap.size w w' → ∃ ws, WS7 w w' s.data.toList (s.size + 1) (-1) v' ws) := fun v' w' h1 h2 => by
            refine ⟨ws ++ [(s.data.toList.take s.size).drop f], ?_, h2, by simp; omega, by omega, fun h => by rw [HL.out] at h; omega, fun _ => ?_⟩
            · rw [List.length_append, List.map_append]
              rw [ext_str] at h1
              exact h1
            · rw [HWS.out.rel (by rw [HL.out]; omega), HEN.out, show curW s.data.toList (f : Int) s.size = (s.data.toList.take s.size).drop f from if_neg (by omega), wgo, if_neg (cur_ne (by omega) (by rw [HL.out]; omega))]
          clear HEN hf
          go_wp2_with (at_builtin; refine wpList_append_own _ rfl _ _ 52 rfl w.heap.size 9 i0 (.string ⟨#[]⟩) 1 16 Tryz.underlying52 hi hz0 hz1 hz2 rfl (by decide) _ _ _ rfl (HWS.out.row.alloc _) ⟨wr.heap.size, 0, none⟩ 1 1 [.string (s.extract f s.size)] rfl rfl (cell_one_new _ _ _) (by intro u hu; simp at hu; subst hu; rfl) (by unfold maxLen; omega) (by omega) (by simp; omega) ?_; intro v2 w2 hown2 hgrow2 hnil2; have HN : Aside (∃ ws, WS7 w w2 s.data.toList (s.size + 1) (-1) v2 ws) := HFI.out v2 w2 hown2 (below_append HWS.out.bel hsz HWS.out.row hgrow2); clear hown2 hgrow2 hnil2)
          go_roundg (gk - 1)
          case measure => omega
          case rel => exact ⟨s.size + 1, -1, by simp, by simp, by omega, HN⟩
      · obtain rfl : k = s.size + 1 := by omega
        have HN : Hid (PP (.returned u3) wr) := by
          have e := HWS.out.fin (by rw [HL.out]; omega)
          exact HPP.out _ _ (by rw [e]; exact HWS.out.row) HWS.out.bel
        have hgk : ¬ (s.size : Int) + 1 ≤ (s.size : Int) := by omega
        clear HWS
        go_wp2
        first | exact HN.out | (go_ret; exact HN.out)
/-- a number below 2 to the 31st; -1: it is none -/
def sV (o : Option Nat) : Int := match o with | some v => v | none => -1
set_option maxHeartbeats 8000000 in
set_option maxRecDepth 100000 in
theorem small_any (s : ByteArray) (w : World) (hs : s.size ≤ 1048576) :
    Calls Tryz.prog 24 #[.string s] w fun e w' => e = .returned (.int .i64 (sV (smN s.data.toList))) ∧ w' = w := by
  have HR : Hid (Calls Tryz.prog 27 #[.string s] w fun e w' => e = .returned (.tuple #[.int .u64 (nV (numO s.data.toList)), .int .i64 (nE (numO s.data.toList))]) ∧ w' = w) := rnumber_any s w (by omega)
  unfold smN
  cases hn : numO s.data.toList with
  | none =>
    rw [hn] at HR
    simp only [nV, nE] at HR
    go_enter Tryz.func24, Tryz.ntmps24
    go_wp2_with (go_at_call 27; refine HR.out.mono ?_; rintro e w' ⟨rfl, rfl⟩)
    go_ret
    exact ⟨rfl, rfl⟩
  | some v =>
    rw [hn] at HR
    simp only [nV, nE] at HR
    obtain ⟨x, hx⟩ : ∃ x : Int, (v : Int) = x := ⟨_, rfl⟩
    rw [hx] at HR
    by_cases h : v < 2147483648
    · have hv : ¬ (2147483648 : Int) ≤ x := by omega
      have hv2 : I64 x := by unfold I64; omega
      have hq : IntKind.i64.wrap x = x := by rw [IntKind.wrap_i64]; omega
      simp only [if_pos h, sV]
      rw [hx]
      clear hx h hn
      go_enter Tryz.func24, Tryz.ntmps24
      go_wp2_with (go_at_call 27; refine HR.out.mono ?_; rintro e w' ⟨rfl, rfl⟩)
      go_ret
      exact ⟨rfl, rfl⟩
    · have hv : (2147483648 : Int) ≤ x := by omega
      simp only [if_neg h, sV]
      clear hx h hn
      go_enter Tryz.func24, Tryz.ntmps24
      go_wp2_with (go_at_call 27; refine HR.out.mono ?_; rintro e w' ⟨rfl, rfl⟩)
      go_ret
      exact ⟨rfl, rfl⟩
end Go.Proofs.YtkbfoahfehfjnaaGreatDoor
namespace Go.Proofs.YtkbfoahfehfjnaaGreatDoor
open Go.ChangeShapes Go.WideShapes Go.ChangeAt Go.RowKit Go.Lib Go.Tm Go.Bw Go.Bn Go.WideMaps Go.Maps Go.ChangeMaps

def wdsA : Array Value := #[.string ⟨#[]⟩, .string ⟨#[116, 114, 117, 101]⟩, .string ⟨#[102, 97, 108, 115, 101]⟩, .string ⟨#[99, 111, 110, 115, 116]⟩, .string ⟨#[118, 97, 114]⟩, .string ⟨#[110, 111, 116]⟩, .string ⟨#[97, 110, 100]⟩, .string ⟨#[111, 114]⟩, .string ⟨#[120, 111, 114]⟩, .string ⟨#[101, 113]⟩, .string ⟨#[117, 108, 116]⟩, .string ⟨#[117, 108, 101]⟩, .string ⟨#[115, 108, 116]⟩, .string ⟨#[115, 108, 101]⟩, .string ⟨#[105, 116, 101]⟩, .string ⟨#[99, 111, 109]⟩, .string ⟨#[110, 101, 103]⟩, .string ⟨#[98, 97, 110, 100]⟩, .string ⟨#[98, 111, 114]⟩, .string ⟨#[98, 120, 111, 114]⟩, .string ⟨#[97, 100, 100]⟩, .string ⟨#[115, 117, 98]⟩, .string ⟨#[109, 117, 108]⟩, .string ⟨#[100, 105, 118]⟩, .string ⟨#[114, 101, 109]⟩, .string ⟨#[115, 104, 108]⟩, .string ⟨#[115, 104, 114]⟩, .string ⟨#[115, 97, 114]⟩, .string ⟨#[114, 111, 108]⟩, .string ⟨#[114, 111, 114]⟩, .string ⟨#[99, 97, 116]⟩, .string ⟨#[115, 108, 105, 99, 101]⟩, .string ⟨#[122, 101, 120, 116]⟩, .string ⟨#[115, 101, 120, 116]⟩]
def zersA : Array Value := #[.string ⟨#[]⟩, .string ⟨#[]⟩, .string ⟨#[]⟩, .string ⟨#[]⟩, .string ⟨#[]⟩, .string ⟨#[]⟩, .string ⟨#[]⟩, .string ⟨#[]⟩, .string ⟨#[]⟩, .string ⟨#[]⟩, .string ⟨#[]⟩, .string ⟨#[]⟩, .string ⟨#[]⟩, .string ⟨#[]⟩, .string ⟨#[]⟩, .string ⟨#[]⟩, .string ⟨#[]⟩, .string ⟨#[]⟩, .string ⟨#[]⟩, .string ⟨#[]⟩, .string ⟨#[]⟩, .string ⟨#[]⟩, .string ⟨#[]⟩, .string ⟨#[]⟩, .string ⟨#[]⟩, .string ⟨#[]⟩, .string ⟨#[]⟩, .string ⟨#[]⟩, .string ⟨#[]⟩, .string ⟨#[]⟩, .string ⟨#[]⟩, .string ⟨#[]⟩, .string ⟨#[]⟩, .string ⟨#[]⟩]
theorem wdsA_at : ∀ k : Fin 34, wdsA[k.val]? = some (.string ⟨(wordB k.val).toArray⟩) := by
  intro ⟨k, hk⟩
  have : k = 0 ∨ k = 1 ∨ k = 2 ∨ k = 3 ∨ k = 4 ∨ k = 5 ∨ k = 6 ∨ k = 7 ∨ k = 8 ∨ k = 9 ∨ k = 10 ∨ k = 11 ∨ k = 12 ∨ k = 13 ∨ k = 14 ∨ k = 15 ∨ k = 16 ∨ k = 17 ∨ k = 18 ∨ k = 19 ∨ k = 20 ∨ k = 21 ∨ k = 22 ∨ k = 23 ∨ k = 24 ∨ k = 25 ∨ k = 26 ∨ k = 27 ∨ k = 28 ∨ k = 29 ∨ k = 30 ∨ k = 31 ∨ k = 32 ∨ k = 33 := by omega
  rcases this with rfl | rfl | rfl | rfl | rfl | rfl | rfl | rfl | rfl | rfl | rfl | rfl | rfl | rfl | rfl | rfl | rfl | rfl | rfl | rfl | rfl | rfl | rfl | rfl | rfl | rfl | rfl | rfl | rfl | rfl | rfl | rfl | rfl | rfl <;> rfl
theorem zero34 (w : World) : (Instr.alloc 84 true (.tuple #[])).run Tryz.prog w = .ok (.pointer (some ⟨w.heap.size, 0, none⟩)) (w.alloc (.cells zersA 84)) := by
  obtain ⟨it, hit, hz⟩ : ∃ it, Tryz.prog.info? 84 = some it ∧ it.zero = some (.agg zersA) := by
    have : (Tryz.prog.info? 84).map (fun i => i.zero) = some (some (.agg zersA)) := by kernel_rfl
    cases h : Tryz.prog.info? 84 with
    | none => rw [h] at this; cases this
    | some it => rw [h] at this; exact ⟨it, rfl, by simpa using this⟩
  simp [Instr.alloc, zeroValue, typeInfo, hit, hz, newVar, Value.cells, newRow]
theorem built34 (a : Act) : Tryz.prog.built 84 (((#[(0, .const (.string ⟨#[]⟩)), (1, .const (.string ⟨#[116, 114, 117, 101]⟩)), (2, .const (.string ⟨#[102, 97, 108, 115, 101]⟩)), (3, .const (.string ⟨#[99, 111, 110, 115, 116]⟩)), (4, .const (.string ⟨#[118, 97, 114]⟩)), (5, .const (.string ⟨#[110, 111, 116]⟩)), (6, .const (.string ⟨#[97, 110, 100]⟩)), (7, .const (.string ⟨#[111, 114]⟩)), (8, .const (.string ⟨#[120, 111, 114]⟩)), (9, .const (.string ⟨#[101, 113]⟩)), (10, .const (.string ⟨#[117, 108, 116]⟩)), (11, .const (.string ⟨#[117, 108, 101]⟩)), (12, .const (.string ⟨#[115, 108, 116]⟩)), (13, .const (.string ⟨#[115, 108, 101]⟩)), (14, .const (.string ⟨#[105, 116, 101]⟩)), (15, .const (.string ⟨#[99, 111, 109]⟩)), (16, .const (.string ⟨#[110, 101, 103]⟩)), (17, .const (.string ⟨#[98, 97, 110, 100]⟩)), (18, .const (.string ⟨#[98, 111, 114]⟩)), (19, .const (.string ⟨#[98, 120, 111, 114]⟩)), (20, .const (.string ⟨#[97, 100, 100]⟩)), (21, .const (.string ⟨#[115, 117, 98]⟩)), (22, .const (.string ⟨#[109, 117, 108]⟩)), (23, .const (.string ⟨#[100, 105, 118]⟩)), (24, .const (.string ⟨#[114, 101, 109]⟩)), (25, .const (.string ⟨#[115, 104, 108]⟩)), (26, .const (.string ⟨#[115, 104, 114]⟩)), (27, .const (.string ⟨#[115, 97, 114]⟩)), (28, .const (.string ⟨#[114, 111, 108]⟩)), (29, .const (.string ⟨#[114, 111, 114]⟩)), (30, .const (.string ⟨#[99, 97, 116]⟩)), (31, .const (.string ⟨#[115, 108, 105, 99, 101]⟩)), (32, .const (.string ⟨#[122, 101, 120, 116]⟩)), (33, .const (.string ⟨#[115, 101, 120, 116]⟩))] : Array (Nat × Operand)).map fun (i, x) => (i, a.eval x)).toList) = some wdsA := by kernel_rfl
set_option maxRecDepth 100000 in
theorem wpList_w34 {ops : Array Oper} {rest : List Oper} {o1 o2 o3 : Oper} {a : Act} {w : World} {Q : Exit → Act → World → Prop} (g1 : o1.guard = none) (g2 : o2.guard = none) (g3 : o3.guard = none)
    (h1 : o1.op = .build 84 #[(0, .const (.string ⟨#[]⟩)), (1, .const (.string ⟨#[116, 114, 117, 101]⟩)), (2, .const (.string ⟨#[102, 97, 108, 115, 101]⟩)), (3, .const (.string ⟨#[99, 111, 110, 115, 116]⟩)), (4, .const (.string ⟨#[118, 97, 114]⟩)), (5, .const (.string ⟨#[110, 111, 116]⟩)), (6, .const (.string ⟨#[97, 110, 100]⟩)), (7, .const (.string ⟨#[111, 114]⟩)), (8, .const (.string ⟨#[120, 111, 114]⟩)), (9, .const (.string ⟨#[101, 113]⟩)), (10, .const (.string ⟨#[117, 108, 116]⟩)), (11, .const (.string ⟨#[117, 108, 101]⟩)), (12, .const (.string ⟨#[115, 108, 116]⟩)), (13, .const (.string ⟨#[115, 108, 101]⟩)), (14, .const (.string ⟨#[105, 116, 101]⟩)), (15, .const (.string ⟨#[99, 111, 109]⟩)), (16, .const (.string ⟨#[110, 101, 103]⟩)), (17, .const (.string ⟨#[98, 97, 110, 100]⟩)), (18, .const (.string ⟨#[98, 111, 114]⟩)), (19, .const (.string ⟨#[98, 120, 111, 114]⟩)), (20, .const (.string ⟨#[97, 100, 100]⟩)), (21, .const (.string ⟨#[115, 117, 98]⟩)), (22, .const (.string ⟨#[109, 117, 108]⟩)), (23, .const (.string ⟨#[100, 105, 118]⟩)), (24, .const (.string ⟨#[114, 101, 109]⟩)), (25, .const (.string ⟨#[115, 104, 108]⟩)), (26, .const (.string ⟨#[115, 104, 114]⟩)), (27, .const (.string ⟨#[115, 97, 114]⟩)), (28, .const (.string ⟨#[114, 111, 108]⟩)), (29, .const (.string ⟨#[114, 111, 114]⟩)), (30, .const (.string ⟨#[99, 97, 116]⟩)), (31, .const (.string ⟨#[115, 108, 105, 99, 101]⟩)), (32, .const (.string ⟨#[122, 101, 120, 116]⟩)), (33, .const (.string ⟨#[115, 101, 120, 116]⟩))]) (d1 : o1.dst = some 4) (h2 : o2.op = .alloc 84) (d2 : o2.dst = some 3) (h3 : o3.op = .store 84 (.tmp 3) (.tmp 4)) (d3 : o3.dst = none) (h8 : a.tmps.size = 8)
    (h : wpList Tryz.prog ops Q rest ((a.put (some 4) (.agg wdsA)).put (some 3) (.pointer (some ⟨w.heap.size, 0, none⟩))) ((w.alloc (.cells zersA 84)).setRow w.heap.size wdsA)) : wpList Tryz.prog ops Q (o1 :: o2 :: o3 :: rest) a w := by
  refine wpList_build g1 _ _ h1 (by rw [built34]; rfl) ?_
  rw [built34, d1]
  refine wpList_plain g2 fun _ hK => ?_
  unfold Oper.wp execOp
  simp only [h2, Sem.run_bind, zero34, Result.andThen_ok]
  refine hK _ _ ?_
  rw [d2]
  refine wpList_store_row g3 _ _ _ h3 w.heap.size wdsA ?_ ?_ 84 zersA (heap_alloc_new _ _) (by kernel_rfl) rfl (by kernel_rfl) ?_
  · simp [Act.eval, Act.put, h8]
  · simp [Act.eval, Act.put, h8]
  · rw [d3]
    exact h
theorem wdsA_cell (w : World) (op : Nat) (h : op < 34) : ((w.alloc (.cells zersA 84)).setRow w.heap.size wdsA).cell? ⟨w.heap.size, op, none⟩ = some (.string ⟨(wordB op).toArray⟩) :=
  (cell_setRow_same _ _ _ _ _ _ _ (heap_alloc_new _ _)).trans (wdsA_at ⟨op, h⟩)
theorem wdsA_bel (w : World) : Below w.heap.size w ((w.alloc (.cells zersA 84)).setRow w.heap.size wdsA) := by
  refine ⟨rfl, rfl, rfl, ?_, fun k hk => ?_⟩
  · simp [World.setRow]
  · rw [setRow_other _ _ _ _ (by omega)]
    exact Below.heap_alloc _ _ _ hk
set_option maxHeartbeats 8000000 in
set_option maxRecDepth 100000 in
theorem rword_any (op : Nat) (h2 : op ≤ 33) (w : World) :
    Calls Tryz.prog 25 #[.int .i64 (op : Int)] w fun e w' => e = .returned (.string ⟨(wordB op).toArray⟩) ∧ Below w.heap.size w w' := by
  have hc := wdsA_cell w op (by omega)
  have hb := wdsA_bel w
  have HPP : Hid (Below w.heap.size w ((w.alloc (.cells zersA 84)).setRow w.heap.size wdsA)) := hb
  clear hb
  go_enter Tryz.func25, Tryz.ntmps25
  go_wp2_with (refine wpList_w34 rfl rfl rfl rfl rfl rfl rfl rfl rfl rfl ?_; generalize (w.alloc (.cells zersA 84)).setRow w.heap.size wdsA = W at *; generalize hz : w.heap.size = z at *)
  go_ret
  refine ⟨rfl, ?_⟩
  rw [hz]
  exact HPP.out
set_option maxHeartbeats 8000000 in
set_option maxRecDepth 100000 in
theorem rfields_any (op : Int) (h1 : 1 ≤ op) (h2 : op ≤ 33) (w : World) :
    Calls Tryz.prog 26 #[.int .i64 op] w fun e w' => e = .returned (.string ⟨(flB op).toArray⟩) ∧ w' = w := by
  have HPt : Hid (∀ W, Calls Tryz.prog 29 #[.int .i64 op] W fun e w' => e = .returned (.int .i64 (pt op)) ∧ w' = W) := fun W => by
    have h1 := rparts_any op W
    have e : rpt op = pt op := by unfold rpt; rw [if_neg (by omega)]
    rw [e] at h1
    exact h1
  by_cases q2 : op ≤ 2
  · have e : flB op = [] := by unfold flB; rw [if_pos q2]
    rw [e]
    go_enter Tryz.func26, Tryz.ntmps26
    go_wp2_with fail
    go_ret
    exact ⟨rfl, rfl⟩
  by_cases q3 : op = 3
  · subst q3
    have e : flB 3 = [119, 110] := rfl
    rw [e]
    go_enter Tryz.func26, Tryz.ntmps26
    go_wp2_with fail
    go_ret
    exact ⟨rfl, rfl⟩
  by_cases q4 : op = 4
  · subst q4
    have e : flB 4 = [115, 119] := rfl
    rw [e]
    go_enter Tryz.func26, Tryz.ntmps26
    go_wp2_with fail
    go_ret
    exact ⟨rfl, rfl⟩
  by_cases q31 : op = 31
  · subst q31
    have e : flB 31 = [112, 110, 119] := rfl
    rw [e]
    go_enter Tryz.func26, Tryz.ntmps26
    go_wp2_with fail
    go_ret
    exact ⟨rfl, rfl⟩
  have p3 : (op == 3) = false := beq_eq_false_iff_ne.2 q3
  have p4 : (op == 4) = false := beq_eq_false_iff_ne.2 q4
  have p31 : (op == 31) = false := beq_eq_false_iff_ne.2 q31
  have p2 : decide (op ≤ 2) = false := decide_eq_false q2
  by_cases q32 : 32 ≤ op
  · have e : flB op = [112, 119] := by unfold flB; rw [if_neg q2, if_neg q3, if_neg q4, if_neg q31, if_pos q32]
    have p32 : decide (32 ≤ op) = true := decide_eq_true q32
    rw [e]
    go_enter Tryz.func26, Tryz.ntmps26
    go_wp2_with fail
    go_ret
    exact ⟨rfl, rfl⟩
  have p32 : decide (32 ≤ op) = false := decide_eq_false q32
  have e : flB op = List.replicate (pt op).toNat 112 := by unfold flB; rw [if_neg q2, if_neg q3, if_neg q4, if_neg q31, if_neg q32]
  rw [e]
  have hp : pt op = 1 ∨ pt op = 2 ∨ pt op = 3 := by
    unfold pt
    rw [if_neg (by omega)]
    split
    · simp
    · split <;> simp
  rcases hp with hp | hp | hp
  all_goals
    rw [hp] at HPt ⊢
    go_enter Tryz.func26, Tryz.ntmps26
    go_wp2_with (go_at_call 29; refine (HPt.out _).mono ?_; rintro e w' ⟨rfl, rfl⟩)
    go_ret
    exact ⟨by kernel_rfl, rfl⟩
end Go.Proofs.YtkbfoahfehfjnaaGreatDoor
namespace Go.Proofs.YtkbfoahfehfjnaaGreatDoor
open Go.ChangeShapes Go.WideShapes Go.ChangeAt Go.RowKit Go.Lib Go.Tm Go.Bw Go.Bn Go.Bd

/-- a row of words, seen from somewhere on -/
def SV (W : World) (us : List (List UInt8)) (v : Value) : Prop := ∃ a c, v = .slice a us.length c ∧ (0 < us.length → ∃ g o, a = some ⟨g, o, none⟩ ∧ ∀ j, j < us.length → W.cell? ⟨g, o + j, none⟩ = some (strV (us.getD j [])))
/-- a row of numbers -/
def IV (W : World) (ts : List Int) (v : Value) : Prop := ∃ a c, v = .slice a ts.length c ∧ (0 < ts.length → ∃ g, a = some ⟨g, 0, none⟩ ∧ ∀ j, j < ts.length → W.cell? ⟨g, j, none⟩ = some (.int .i64 (ts.getD j 0)))
theorem cell_bel {w w' : World} {a : Addr} {v : Value} (h : Below w.heap.size w w') (hc : w.cell? a = some v) : w'.cell? a = some v := (World.cell?_of_block (h.block _ (cell_blt hc))).trans hc
theorem SV.bel {w w' : World} {us : List (List UInt8)} {v : Value} (h : SV w us v) (hb : Below w.heap.size w w') : SV w' us v := by
  obtain ⟨a, c, e, h1⟩ := h
  refine ⟨a, c, e, fun h0 => ?_⟩
  obtain ⟨g, o, e1, h2⟩ := h1 h0
  exact ⟨g, o, e1, fun j hj => cell_bel hb (h2 j hj)⟩
theorem IV.bel {w w' : World} {ts : List Int} {v : Value} (h : IV w ts v) (hb : Below w.heap.size w w') : IV w' ts v := by
  obtain ⟨a, c, e, h1⟩ := h
  refine ⟨a, c, e, fun h0 => ?_⟩
  obtain ⟨g, e1, h2⟩ := h1 h0
  exact ⟨g, e1, fun j hj => cell_bel hb (h2 j hj)⟩
theorem IV.of {w : World} {b : Nat} {ts : List Int} {v : Value} (h : w.ownsRow b 3 1 v ts.length (ts.map (Value.int .i64))) : IV w ts v := by
  obtain ⟨a, c, rfl⟩ := row_form h
  refine ⟨a, c, rfl, fun h0 => ints_at h rfl h0⟩
theorem SV.of {w : World} {b : Nat} {us : List (List UInt8)} {v : Value} (h : w.ownsRow b 9 1 v us.length (us.map strV)) : SV w us v := by
  obtain ⟨a, c, rfl⟩ := row_form h
  refine ⟨a, c, rfl, fun h0 => ?_⟩
  rcases h.2 with ⟨_, e⟩ | ⟨g, cap, cur, e, _⟩
  · omega
  · cases e
    refine ⟨g, 0, rfl, fun j hj => ?_⟩
    rw [Nat.zero_add, h.cellAt j (by omega), List.getElem?_map, List.getD_eq_getElem?_getD, List.getElem?_eq_getElem (by omega)]
    rfl
theorem drop_getD {u : List (List UInt8)} {k : Nat} (h : k < u.length) : u.drop k = u.getD k [] :: u.drop (k + 1) := by
  rw [List.getD_eq_getElem?_getD, List.getElem?_eq_getElem h]
  exact List.drop_eq_getElem_cons h
theorem getD_len {us : List (List UInt8)} {k : Nat} (h : k < us.length) : us.getD k [] ∈ us := by
  rw [List.getD_eq_getElem?_getD, List.getElem?_eq_getElem h]
  exact List.getElem_mem _
/-- the roots so far -/
structure RT7 (w W : World) (us : List (List UInt8)) (ts : List Int) (k : Nat) (v : Value) (acc : List Int) : Prop where
  row : W.ownsRow w.heap.size 3 1 v acc.length (acc.map (Value.int .i64))
  bel : Below w.heap.size w W
  num : acc.length = k
  rel : rtO ts us = (rtO ts (us.drop k)).map (acc ++ ·)
set_option maxHeartbeats 8000000 in
set_option maxRecDepth 100000 in
theorem rroots_any (us : List (List UInt8)) (ts : List Int) (vu vt : Value) (w : World) (hu : SV w us vu) (ht : IV w ts vt) (hul : us.length ≤ 1048577) (htl : ts.length ≤ 1048576) (hle : ∀ u ∈ us, u.length ≤ 1048576) :
    Calls Tryz.prog 14 #[vu, vt] w fun e w' => Below w.heap.size w w' ∧ ((rtO ts us = none ∧ e = .returned (.tuple #[.slice none 0 0, .bool false])) ∨ ∃ rs v, rtO ts us = some rs ∧ e = .returned (.tuple #[v, .bool true]) ∧ w'.ownsRow w.heap.size 3 1 v rs.length (rs.map (Value.int .i64))) := by
  generalize hPP : (fun (e : Ending) (w' : World) => Below w.heap.size w w' ∧ ((rtO ts us = none ∧ e = .returned (.tuple #[.slice none 0 0, .bool false])) ∨ ∃ rs v, rtO ts us = some rs ∧ e = .returned (.tuple #[v, .bool true]) ∧ w'.ownsRow w.heap.size 3 1 v rs.length (rs.map (Value.int .i64)))) = PP
  have HNo : Hid (∀ w', Below w.heap.size w w' → rtO ts us = none → PP (.returned (.tuple #[.slice none 0 0, .bool false])) w') := fun w' h1 h2 => by rw [← hPP]; exact ⟨h1, Or.inl ⟨h2, rfl⟩⟩
  have HYe : Hid (∀ w' rs v, Below w.heap.size w w' → rtO ts us = some rs → w'.ownsRow w.heap.size 3 1 v rs.length (rs.map (Value.int .i64)) → PP (.returned (.tuple #[v, .bool true])) w') := fun w' rs v h1 h2 h3 => by rw [← hPP]; exact ⟨h1, Or.inr ⟨rs, v, h2, rfl, h3⟩⟩
  clear hPP
  have HU : Hid (SV w us vu ∧ IV w ts vt ∧ ∀ u ∈ us, u.length ≤ 1048576) := ⟨hu, ht, hle⟩
  obtain ⟨au, cu, rfl, -⟩ := hu
  obtain ⟨at', ct, rfl, -⟩ := ht
  obtain ⟨nu, hnu⟩ : ∃ nu, us.length = nu := ⟨_, rfl⟩
  obtain ⟨nt, hnt⟩ : ∃ nt, ts.length = nt := ⟨_, rfl⟩
  have HNu : Hid (us.length = nu ∧ ts.length = nt) := ⟨hnu, hnt⟩
  rw [hnu] at hul ⊢
  rw [hnt] at htl ⊢
  have H0 : Hid (RT7 w w us ts 0 (.slice none 0 0) []) := ⟨World.ownsRow_nil _ _ _ _, Below.refl _ _, rfl, by rw [List.drop_zero]; cases rtO ts us <;> rfl⟩
  obtain ⟨i0, hi, hz0, hz1, hz2⟩ := info_parts (P := Tryz.prog) (e := 3) (z := .int .i64 0) (size := 1) (bytes := 8) (by kernel_rfl)
  clear hle hnu hnt
  go_enter Tryz.func14, Tryz.ntmps14
  go_wp2_with fail
  go_loopg [6, 7] nu (fun gk v vi wr => ∃ k : Nat, vi = .int .i64 k ∧ k + gk = nu ∧ Aside (∃ acc, RT7 w wr us ts k v acc))
  case atStart => exact ⟨0, rfl, by omega, [], H0.out⟩
  case round =>
    obtain ⟨k, rfl, hk, HA⟩ := hrel
    clear H0
    obtain ⟨acc, hA⟩ := HA.out
    have HS : Hid (RT7 w wr us ts k u6 acc) := hA
    have hsz : w.heap.size ≤ wr.heap.size := hA.bel.size
    have hna := hA.num
    clear HA hA
    by_cases hlt : k < nu
    · have hkn : (k : Int) < (nu : Int) := by omega
      obtain ⟨u, hu⟩ : ∃ u, us.getD k [] = u := ⟨_, rfl⟩
      have HD : Hid (rtO ts us = (match ptO ts u with
        | none => none
        | some t => rtO ts (us.drop (k + 1)) |>.map ((acc ++ [t]) ++ ·))) := by
        show _ = _
        rw [HS.out.rel, drop_getD (by rw [HNu.out.1]; exact hlt), hu, rtO_cons]
        cases ptO ts u with
        | none => rfl
        | some t =>
          show ((rtO ts (us.drop (k + 1))).map (t :: ·)).map (acc ++ ·) = _
          cases rtO ts (us.drop (k + 1)) <;> simp
      have HSm : Hid (∀ W, Calls Tryz.prog 24 #[.string ⟨u.toArray⟩] W fun e w' => e = .returned (.int .i64 (sV (smN u))) ∧ w' = W) := fun W => small_any ⟨u.toArray⟩ W (by rw [size_ba, ← hu]; exact HU.out.2.2 _ (getD_len (by rw [HNu.out.1]; exact hlt)))
      obtain ⟨a, c, ec, hcell⟩ := HU.out.1.bel HS.out.bel
      obtain ⟨g, o, ea, hg⟩ := hcell (by rw [HNu.out.1]; omega)
      cases ec
      subst ea
      have c1 : wr.cell? ⟨g, o + k, none⟩ = some (.string ⟨u.toArray⟩) := by rw [hg k (by rw [HNu.out.1]; omega), hu]; rfl
      obtain ⟨us8, hus8⟩ : ∃ us8, (⟨u.toArray⟩ : ByteArray) = us8 := ⟨_, rfl⟩
      rw [hus8] at c1 HSm
      clear hcell hg hu hus8
      by_cases hp : ∃ m : Nat, smN u = some (m + 1) ∧ m < nt
      · obtain ⟨m, hm, hmn⟩ := hp
        rw [hm] at HSm
        have HT : Hid (ptO ts u = some (ts.getD m 0)) := by
          show _ = _
          unfold ptO
          rw [hm]
          have h9 := HNu.out.2
          simp only
          rw [if_pos ⟨by omega, by omega⟩]
          rfl
        rw [HT.out] at HD
        obtain ⟨a2, c2, ec2, hcell2⟩ := HU.out.2.1.bel HS.out.bel
        obtain ⟨g2, ea2, hg2⟩ := hcell2 (by rw [HNu.out.2]; omega)
        cases ec2
        subst ea2
        have c2 : wr.cell? ⟨g2, m, none⟩ = some (.int .i64 (ts.getD m 0)) := hg2 m (by rw [HNu.out.2]; exact hmn)
        obtain ⟨t, ht⟩ : ∃ t, ts.getD m 0 = t := ⟨_, rfl⟩
        rw [ht] at c2 HD
        have es : sV (some (m + 1)) = (m : Int) + 1 := by simp [sV]
        rw [es] at HSm
        have qa : ¬ (m : Int) + 1 < 1 := by omega
        have qb : ¬ (nt : Int) < (m : Int) + 1 := by omega
        have HFI : Hid (∀ v' w', w'.ownsRow w.heap.size 3 1 v' (k + 1) (acc.map (Value.int .i64) ++ [.int .i64 t]) → Below w.heap.size w w' → ∃ acc, RT7 w w' us ts (k + 1) v' acc) := fun v' w' h1 h2 => by
          refine ⟨acc ++ [t], ?_, h2, by rw [List.length_append, hna]; rfl, ?_⟩
          · rw [List.length_append, hna, List.map_append]
            exact h1
          · exact HD.out
        have HRow : Hid (wr.ownsRow w.heap.size 3 1 u6 k (acc.map (Value.int .i64))) := by have := HS.out.row; rw [hna] at this; exact this
        clear HD hcell2 hg2 ht hm HT es
        go_wp2_with (first | (go_at_call 24; refine (HSm.out _).mono ?_; rintro e w' ⟨rfl, hw⟩; subst w') | (at_builtin; refine wpList_append_own _ rfl _ _ 23 rfl w.heap.size 3 i0 (.int .i64 0) 1 8 Tryz.underlying23 hi hz0 hz1 hz2 rfl (by decide) _ _ _ rfl (HRow.out.alloc _) ⟨wr.heap.size, 0, none⟩ 1 1 [.int .i64 t] rfl rfl (cell_one_new _ _ _) (by intro u hu; simp at hu; subst hu; rfl) (by unfold maxLen; omega) (by omega) (by simp; omega) ?_; intro v2 w2 hown2 hgrow2 hnil2; have HN : Aside (∃ acc, RT7 w w2 us ts (k + 1) v2 acc) := HFI.out v2 w2 hown2 (below_append HS.out.bel hsz HRow.out hgrow2); clear hown2 hgrow2 hnil2))
        go_roundg (gk - 1)
        case measure => omega
        case rel => exact ⟨k + 1, by simp, by omega, HN⟩
      · have HT : Hid (ptO ts u = none) := by
          show _ = _
          unfold ptO
          cases hs : smN u with
          | none => rfl
          | some x =>
            have h9 := HNu.out.2
            simp only
            rw [if_neg]
            intro hx
            exact hp ⟨x - 1, by rw [hs]; congr 1; omega, by omega⟩
        rw [HT.out] at HD
        have HZ : Hid (PP (.returned (.tuple #[.slice none 0 0, .bool false])) wr) := HNo.out wr HS.out.bel HD.out
        obtain ⟨x, hx⟩ : ∃ x : Int, sV (smN u) = x := ⟨_, rfl⟩
        rw [hx] at HSm
        have hxx : x < 1 ∨ (nt : Int) < x := by
          rw [← hx]
          cases hs : smN u with
          | none => exact Or.inl (by decide)
          | some y =>
            unfold sV
            by_cases h1 : (y : Int) < 1
            · exact Or.inl h1
            · right
              simp only
              have : ¬ y - 1 < nt := fun h => hp ⟨y - 1, by rw [hs]; congr 1; omega, h⟩
              omega
        clear HD HT hp hx HYe HS
        by_cases h1 : x < 1
        · go_wp2_with (go_at_call 24; refine (HSm.out _).mono ?_; rintro e w' ⟨rfl, hw⟩; subst w')
          first | exact HZ.out | (go_ret; exact HZ.out)
        · have h2 : (nt : Int) < x := by omega
          go_wp2_with (go_at_call 24; refine (HSm.out _).mono ?_; rintro e w' ⟨rfl, hw⟩; subst w')
          first | exact HZ.out | (go_ret; exact HZ.out)
    · obtain rfl : k = nu := by omega
      have HN : Hid (PP (.returned (.tuple #[u6, .bool true])) wr) := by
        refine HYe.out wr acc u6 HS.out.bel ?_ HS.out.row
        rw [HS.out.rel, ← HNu.out.1, List.drop_length]
        simp [rtO]
      have hgk : ¬ (k : Int) < (k : Int) := by omega
      clear HS
      go_wp2
      first | exact HN.out | (go_ret; exact HN.out)
end Go.Proofs.YtkbfoahfehfjnaaGreatDoor
namespace Go.Proofs.YtkbfoahfehfjnaaGreatDoor
open Go.ChangeShapes Go.WideShapes Go.ChangeAt Go.RowKit Go.Lib Go.Tm Go.Bw Go.Bn Go.Bd

theorem fin_w (L : List Nd) (n : Nd) : (fin L n).w = if n.op = 3 ∨ n.op = 4 ∨ 31 ≤ n.op then n.w else mw n.op (wd L n.a) (wd L n.b) := by
  unfold fin
  split <;> rfl
set_option maxHeartbeats 8000000 in
set_option maxRecDepth 100000 in
theorem implied_any (B0 B : Nat) (lim : Int) (L : List Nd) (v : Value) (M1 M2 : Option Nat) (n : Nd) (w : World) (h : SM 36 w B0 B lim L v M1 M2) (ha : 15 ≤ n.op ∧ n.op ≤ 30 → isT L n.a = true) (hb : n.op = 14 ∨ n.op = 30 → isT L n.b = true) (hw : ¬ (n.op = 3 ∨ n.op = 4 ∨ 31 ≤ n.op) → n.w = 0) :
    Calls Tryz.prog 16 #[.pointer (some ⟨B, 0, none⟩), nodeV n] w fun e w' => e = .returned (.int .i64 (fin L n).w) ∧ Below w.heap.size w w' := by
  rw [fin_w]
  obtain ⟨op, u, a, b, c, num, nm⟩ := n
  dsimp only at ha hb hw ⊢
  have hxa := wd_lo h.wds a
  have hxb := wd_lo h.wds b
  have HWt : Hid (∀ t, isT L t = true → ∀ W, Below w.heap.size w W → Calls Tryz.prog 28 #[.pointer (some ⟨B, 0, none⟩), .int .i64 t] W fun e w' => e = .returned (.int .i64 (wd L t)) ∧ w' = W) := fun t ht W hb => w_any _ B0 B lim L v M1 M2 t W (h.below hb) ht
  obtain ⟨x, hx⟩ : ∃ x, wd L a = x := ⟨_, rfl⟩
  obtain ⟨y, hy⟩ : ∃ y, wd L b = y := ⟨_, rfl⟩
  have HWa : Hid (15 ≤ op ∧ op ≤ 30 → ∀ W, Below w.heap.size w W → Calls Tryz.prog 28 #[.pointer (some ⟨B, 0, none⟩), .int .i64 a] W fun e w' => e = .returned (.int .i64 x) ∧ w' = W) := fun h => by rw [← hx]; exact HWt.out a (ha h)
  have HWb : Hid (op = 14 ∨ op = 30 → ∀ W, Below w.heap.size w W → Calls Tryz.prog 28 #[.pointer (some ⟨B, 0, none⟩), .int .i64 b] W fun e w' => e = .returned (.int .i64 y) ∧ w' = W) := fun h => by rw [← hy]; exact HWt.out b (hb h)
  rw [hx] at hxa ⊢
  rw [hy] at hxb ⊢
  have HX : Hid ((if op = 3 ∨ op = 4 ∨ 31 ≤ op then u else mw op x y) = (if op = 14 then y else if 15 ≤ op ∧ op ≤ 29 then x else if op = 30 ∧ x + y ≤ 64 then x + y else u)) := by
    show _ = _
    by_cases q : op = 3 ∨ op = 4 ∨ 31 ≤ op
    · rw [if_pos q, if_neg (by omega), if_neg (by omega), if_neg (by omega)]
    · rw [if_neg q, hw q]
      rfl
  rw [HX.out]
  obtain ⟨D, hD⟩ : ∃ D, w.heap.size = D := ⟨_, rfl⟩
  obtain ⟨W1, hW1⟩ : ∃ W1, w.alloc (.cells #[.int .i64 op, .int .i64 u, .int .i64 a, .int .i64 b, .int .i64 c, .int .u64 num, .string nm] 39) = W1 := ⟨_, rfl⟩
  have hb1 : Below w.heap.size w W1 := by rw [← hW1]; exact bel1 _ _
  have hb2 : Below w.heap.size w W1.drew := hb1.drew
  have hd1 : W1.heap[D]? = some (.cells #[.int .i64 op, .int .i64 u, .int .i64 a, .int .i64 b, .int .i64 c, .int .u64 num, .string nm] 39 (0, 0)) := by rw [← hW1, ← hD]; exact heap_alloc_new _ _
  have c0 : W1.cell? ⟨D, 0, none⟩ = some (.int .i64 op) := cell_of hd1 0
  have c1 : W1.cell? ⟨D, 1, none⟩ = some (.int .i64 u) := cell_of hd1 1
  have c2 : W1.cell? ⟨D, 2, none⟩ = some (.int .i64 a) := cell_of hd1 2
  have c3 : W1.cell? ⟨D, 3, none⟩ = some (.int .i64 b) := cell_of hd1 3
  have HW1 : Hid (w.alloc (.cells #[.int .i64 op, .int .i64 u, .int .i64 a, .int .i64 b, .int .i64 c, .int .u64 num, .string nm] 39) = W1 ∧ w.heap.size = D) := ⟨hW1, hD⟩
  have HB1 : Hid (Below w.heap.size w W1 ∧ Below w.heap.size w W1.drew) := ⟨hb1, hb2⟩
  have hN : nodeV ⟨op, u, a, b, c, num, nm⟩ = .agg #[.int .i64 op, .int .i64 u, .int .i64 a, .int .i64 b, .int .i64 c, .int .u64 num, .string nm] := rfl
  rw [hN]
  clear h ha hb hw hx hy HX HWt hd1 hW1 hD hb1 hb2 hN
  by_cases q14 : op = 14
  · subst q14
    have HWb2 := HWb.out (Or.inl rfl)
    have HWc : Hid (∀ W, Below w.heap.size w W → Calls Tryz.prog 28 #[.pointer (some ⟨B, 0, none⟩), .int .i64 b] W fun e w' => e = .returned (.int .i64 y) ∧ w' = W) := HWb2
    clear HWb2 HWa HWb
    go_enter Tryz.func16, Tryz.ntmps16
    go_upto_region 1 with fail
    rw [HW1.out.1, HW1.out.2]
    go_wp2_with (go_at_call 28; refine (HWc.out _ (by first | exact HB1.out.1 | exact HB1.out.2)).mono ?_; rintro e w' ⟨rfl, hw⟩; subst w')
    go_ret
    exact ⟨rfl, HB1.out.1⟩
  have p14 : (op == 14) = false := beq_eq_false_iff_ne.2 q14
  rw [if_neg q14]
  by_cases q15 : 15 ≤ op ∧ op ≤ 29
  · have HWc : Hid (∀ W, Below w.heap.size w W → Calls Tryz.prog 28 #[.pointer (some ⟨B, 0, none⟩), .int .i64 a] W fun e w' => e = .returned (.int .i64 x) ∧ w' = W) := HWa.out (by omega)
    rw [if_pos q15]
    clear HWa HWb
    by_cases e15 : op = 15
    · subst e15
      go_enter Tryz.func16, Tryz.ntmps16
      go_upto_region 1 with fail
      rw [HW1.out.1, HW1.out.2]
      go_wp2_with (go_at_call 28; refine (HWc.out _ (by first | exact HB1.out.1 | exact HB1.out.2)).mono ?_; rintro e w' ⟨rfl, hw⟩; subst w')
      go_ret
      exact ⟨rfl, HB1.out.1⟩
    by_cases e16 : op = 16
    · subst e16
      go_enter Tryz.func16, Tryz.ntmps16
      go_upto_region 1 with fail
      rw [HW1.out.1, HW1.out.2]
      go_wp2_with (go_at_call 28; refine (HWc.out _ (by first | exact HB1.out.1 | exact HB1.out.2)).mono ?_; rintro e w' ⟨rfl, hw⟩; subst w')
      go_ret
      exact ⟨rfl, HB1.out.1⟩
    have p15 : (op == 15) = false := beq_eq_false_iff_ne.2 e15
    have p16 : (op == 16) = false := beq_eq_false_iff_ne.2 e16
    have p17 : 17 ≤ op := by omega
    have p29 : op ≤ 29 := by omega
    go_enter Tryz.func16, Tryz.ntmps16
    go_upto_region 1 with fail
    rw [HW1.out.1, HW1.out.2]
    go_wp2_with (go_at_call 28; refine (HWc.out _ (by first | exact HB1.out.1 | exact HB1.out.2)).mono ?_; rintro e w' ⟨rfl, hw⟩; subst w')
    go_ret
    exact ⟨rfl, HB1.out.1⟩
  rw [if_neg q15]
  by_cases q30 : op = 30
  · subst q30
    have HWc : Hid (∀ W, Below w.heap.size w W → Calls Tryz.prog 28 #[.pointer (some ⟨B, 0, none⟩), .int .i64 a] W fun e w' => e = .returned (.int .i64 x) ∧ w' = W) := HWa.out (by omega)
    have HWd : Hid (∀ W, Below w.heap.size w W → Calls Tryz.prog 28 #[.pointer (some ⟨B, 0, none⟩), .int .i64 b] W fun e w' => e = .returned (.int .i64 y) ∧ w' = W) := HWb.out (by omega)
    have HSum : Hid (IntKind.i64.wrap (x + y) = x + y) := by show _ = _; rw [IntKind.wrap_i64]; omega
    obtain ⟨z, hz⟩ : ∃ z, x + y = z := ⟨_, rfl⟩
    have qz : IntKind.i64.wrap (x + y) = z := by rw [← hz]; exact HSum.out
    rw [hz]
    clear HWa HWb HSum hz hxa hxb
    by_cases q64 : z ≤ 64
    · rw [if_pos ⟨rfl, q64⟩]
      go_enter Tryz.func16, Tryz.ntmps16
      go_upto_region 1 with fail
      rw [HW1.out.1, HW1.out.2]
      go_upto_region 5 with fail
      have HS5 : Hid (Below w.heap.size w W1.drew ∧ W1.drew.cell? ⟨D, 0, none⟩ = some (.int .i64 30) ∧ W1.drew.cell? ⟨D, 2, none⟩ = some (.int .i64 a) ∧ W1.drew.cell? ⟨D, 3, none⟩ = some (.int .i64 b)) := ⟨HB1.out.2, c0, c2, c3⟩
      have c1d : W1.drew.cell? ⟨D, 1, none⟩ = some (.int .i64 u) := c1
      refine sq_start (fun X => Below w.heap.size w X ∧ X.cell? ⟨D, 0, none⟩ = some (.int .i64 30) ∧ X.cell? ⟨D, 2, none⟩ = some (.int .i64 a) ∧ X.cell? ⟨D, 3, none⟩ = some (.int .i64 b)) [7, 11] [0, 1, 2, 3, 4, 5, 6, 8, 9, 10, 7, 11, 12, 13, 14, 15] (by kernel_rfl) (by kernel_rfl) HS5.out ?_
      clear c0 c1 c2 c3 HW1 HB1
      generalize W1.drew = WD at *
      have HSX : Hid (Below w.heap.size w WD ∧ WD.cell? ⟨D, 0, none⟩ = some (.int .i64 30) ∧ WD.cell? ⟨D, 2, none⟩ = some (.int .i64 a) ∧ WD.cell? ⟨D, 3, none⟩ = some (.int .i64 b)) := HS5.out
      clear HS5
      repeat (refine sq_op (v := ?_) (by rfl) (by rfl) (by rfl) ?_ ?_; rotate_left; (focus (intro X hX; obtain ⟨z9, z0, z2, z3⟩ := hX; go_simp <;> with_reducible rfl)); simp only [Act.put, List.setIfInBounds_toArray, List.set_cons_zero, List.set_cons_succ])
      refine sq_do (by rfl) (by rfl) (by rfl) (fun K hK => ?_)
      go_simp
      go_at_call 28
      refine (HWc.out _ HSX.out.1).mono ?_
      rintro e w' ⟨rfl, hw⟩
      subst w'
      refine hK.out _ _ HSX.out (fun _ => ?_)
      clear hK K
      try simp only [Act.put, List.setIfInBounds_toArray, List.set_cons_zero, List.set_cons_succ]
      repeat (refine sq_op (v := ?_) (by rfl) (by rfl) (by rfl) ?_ ?_; rotate_left; (focus (intro X hX; obtain ⟨z9, z0, z2, z3⟩ := hX; go_simp <;> with_reducible rfl)); simp only [Act.put, List.setIfInBounds_toArray, List.set_cons_zero, List.set_cons_succ])
      refine sq_do (by rfl) (by rfl) (by rfl) (fun K hK => ?_)
      go_simp
      go_at_call 28
      refine (HWd.out _ HSX.out.1).mono ?_
      rintro e w' ⟨rfl, hw⟩
      subst w'
      refine hK.out _ _ HSX.out (fun _ => ?_)
      clear hK K
      try simp only [Act.put, List.setIfInBounds_toArray, List.set_cons_zero, List.set_cons_succ]
      repeat (refine sq_op (v := ?_) (by rfl) (by rfl) (by rfl) ?_ ?_; rotate_left; (focus (intro X hX; obtain ⟨z9, z0, z2, z3⟩ := hX; go_simp <;> with_reducible rfl)); simp only [Act.put, List.setIfInBounds_toArray, List.set_cons_zero, List.set_cons_succ])
      refine sq_end (fun _ => ?_)
      go_upto_region 6 with fail
      have HS6 : Hid (Below w.heap.size w WD.drew ∧ WD.drew.cell? ⟨D, 0, none⟩ = some (.int .i64 30) ∧ WD.drew.cell? ⟨D, 2, none⟩ = some (.int .i64 a) ∧ WD.drew.cell? ⟨D, 3, none⟩ = some (.int .i64 b)) := ⟨HSX.out.1.drew, HSX.out.2⟩
      refine sq_start (fun X => Below w.heap.size w X ∧ X.cell? ⟨D, 0, none⟩ = some (.int .i64 30) ∧ X.cell? ⟨D, 2, none⟩ = some (.int .i64 a) ∧ X.cell? ⟨D, 3, none⟩ = some (.int .i64 b)) [3, 7] [0, 1, 2, 4, 5, 6, 3, 7, 8, 9] (by kernel_rfl) (by kernel_rfl) HS6.out ?_
      clear HSX c1d
      generalize WD.drew = WE at *
      have HSX : Hid (Below w.heap.size w WE ∧ WE.cell? ⟨D, 0, none⟩ = some (.int .i64 30) ∧ WE.cell? ⟨D, 2, none⟩ = some (.int .i64 a) ∧ WE.cell? ⟨D, 3, none⟩ = some (.int .i64 b)) := HS6.out
      clear HS6
      repeat (refine sq_op (v := ?_) (by rfl) (by rfl) (by rfl) ?_ ?_; rotate_left; (focus (intro X hX; obtain ⟨z9, z0, z2, z3⟩ := hX; go_simp <;> with_reducible rfl)); simp only [Act.put, List.setIfInBounds_toArray, List.set_cons_zero, List.set_cons_succ])
      refine sq_do (by rfl) (by rfl) (by rfl) (fun K hK => ?_)
      go_simp
      go_at_call 28
      refine (HWc.out _ HSX.out.1).mono ?_
      rintro e w' ⟨rfl, hw⟩
      subst w'
      refine hK.out _ _ HSX.out (fun _ => ?_)
      clear hK K
      try simp only [Act.put, List.setIfInBounds_toArray, List.set_cons_zero, List.set_cons_succ]
      repeat (refine sq_op (v := ?_) (by rfl) (by rfl) (by rfl) ?_ ?_; rotate_left; (focus (intro X hX; obtain ⟨z9, z0, z2, z3⟩ := hX; go_simp <;> with_reducible rfl)); simp only [Act.put, List.setIfInBounds_toArray, List.set_cons_zero, List.set_cons_succ])
      refine sq_do (by rfl) (by rfl) (by rfl) (fun K hK => ?_)
      go_simp
      go_at_call 28
      refine (HWd.out _ HSX.out.1).mono ?_
      rintro e w' ⟨rfl, hw⟩
      subst w'
      refine hK.out _ _ HSX.out (fun _ => ?_)
      clear hK K
      try simp only [Act.put, List.setIfInBounds_toArray, List.set_cons_zero, List.set_cons_succ]
      repeat (refine sq_op (v := ?_) (by rfl) (by rfl) (by rfl) ?_ ?_; rotate_left; (focus (intro X hX; obtain ⟨z9, z0, z2, z3⟩ := hX; go_simp <;> with_reducible rfl)); simp only [Act.put, List.setIfInBounds_toArray, List.set_cons_zero, List.set_cons_succ])
      refine sq_end (fun _ => ?_)
      go_wp2_with fail
      go_ret
      exact ⟨rfl, HSX.out.1⟩
    · rw [if_neg (fun h => q64 h.2)]
      go_enter Tryz.func16, Tryz.ntmps16
      go_upto_region 1 with fail
      rw [HW1.out.1, HW1.out.2]
      go_upto_region 5 with fail
      have HS5 : Hid (Below w.heap.size w W1.drew ∧ W1.drew.cell? ⟨D, 0, none⟩ = some (.int .i64 30) ∧ W1.drew.cell? ⟨D, 2, none⟩ = some (.int .i64 a) ∧ W1.drew.cell? ⟨D, 3, none⟩ = some (.int .i64 b)) := ⟨HB1.out.2, c0, c2, c3⟩
      have c1d : W1.drew.cell? ⟨D, 1, none⟩ = some (.int .i64 u) := c1
      refine sq_start (fun X => Below w.heap.size w X ∧ X.cell? ⟨D, 0, none⟩ = some (.int .i64 30) ∧ X.cell? ⟨D, 2, none⟩ = some (.int .i64 a) ∧ X.cell? ⟨D, 3, none⟩ = some (.int .i64 b)) [7, 11] [0, 1, 2, 3, 4, 5, 6, 8, 9, 10, 7, 11, 12, 13, 14, 15] (by kernel_rfl) (by kernel_rfl) HS5.out ?_
      clear c0 c1 c2 c3 HW1 HB1
      generalize W1.drew = WD at *
      have HSX : Hid (Below w.heap.size w WD ∧ WD.cell? ⟨D, 0, none⟩ = some (.int .i64 30) ∧ WD.cell? ⟨D, 2, none⟩ = some (.int .i64 a) ∧ WD.cell? ⟨D, 3, none⟩ = some (.int .i64 b)) := HS5.out
      clear HS5
      repeat (refine sq_op (v := ?_) (by rfl) (by rfl) (by rfl) ?_ ?_; rotate_left; (focus (intro X hX; obtain ⟨z9, z0, z2, z3⟩ := hX; go_simp <;> with_reducible rfl)); simp only [Act.put, List.setIfInBounds_toArray, List.set_cons_zero, List.set_cons_succ])
      refine sq_do (by rfl) (by rfl) (by rfl) (fun K hK => ?_)
      go_simp
      go_at_call 28
      refine (HWc.out _ HSX.out.1).mono ?_
      rintro e w' ⟨rfl, hw⟩
      subst w'
      refine hK.out _ _ HSX.out (fun _ => ?_)
      clear hK K
      try simp only [Act.put, List.setIfInBounds_toArray, List.set_cons_zero, List.set_cons_succ]
      repeat (refine sq_op (v := ?_) (by rfl) (by rfl) (by rfl) ?_ ?_; rotate_left; (focus (intro X hX; obtain ⟨z9, z0, z2, z3⟩ := hX; go_simp <;> with_reducible rfl)); simp only [Act.put, List.setIfInBounds_toArray, List.set_cons_zero, List.set_cons_succ])
      refine sq_do (by rfl) (by rfl) (by rfl) (fun K hK => ?_)
      go_simp
      go_at_call 28
      refine (HWd.out _ HSX.out.1).mono ?_
      rintro e w' ⟨rfl, hw⟩
      subst w'
      refine hK.out _ _ HSX.out (fun _ => ?_)
      clear hK K
      try simp only [Act.put, List.setIfInBounds_toArray, List.set_cons_zero, List.set_cons_succ]
      repeat (refine sq_op (v := ?_) (by rfl) (by rfl) (by rfl) ?_ ?_; rotate_left; (focus (intro X hX; obtain ⟨z9, z0, z2, z3⟩ := hX; go_simp <;> with_reducible rfl)); simp only [Act.put, List.setIfInBounds_toArray, List.set_cons_zero, List.set_cons_succ])
      refine sq_end (fun _ => ?_)
      go_wp2_with fail
      go_ret
      exact ⟨rfl, HSX.out.1⟩
  rw [if_neg (fun h => q30 h.1)]
  clear HWa HWb hxa hxb
  have p15 : (op == 15) = false := beq_eq_false_iff_ne.2 (by omega)
  have p16 : (op == 16) = false := beq_eq_false_iff_ne.2 (by omega)
  have p30 : (op == 30) = false := beq_eq_false_iff_ne.2 q30
  by_cases p17 : 17 ≤ op
  · have p29 : ¬ op ≤ 29 := by omega
    go_enter Tryz.func16, Tryz.ntmps16
    go_upto_region 1 with fail
    rw [HW1.out.1, HW1.out.2]
    go_upto_region 5 with fail
    have HS5 : Hid (Below w.heap.size w W1.drew ∧ W1.drew.cell? ⟨D, 0, none⟩ = some (.int .i64 op) ∧ W1.drew.cell? ⟨D, 2, none⟩ = some (.int .i64 a) ∧ W1.drew.cell? ⟨D, 3, none⟩ = some (.int .i64 b)) := ⟨HB1.out.2, c0, c2, c3⟩
    have c1d : W1.drew.cell? ⟨D, 1, none⟩ = some (.int .i64 u) := c1
    refine sq_start (fun X => Below w.heap.size w X ∧ X.cell? ⟨D, 0, none⟩ = some (.int .i64 op) ∧ X.cell? ⟨D, 2, none⟩ = some (.int .i64 a) ∧ X.cell? ⟨D, 3, none⟩ = some (.int .i64 b)) [7, 11] [0, 1, 2, 3, 4, 5, 6, 8, 9, 10, 7, 11, 12, 13, 14, 15] (by kernel_rfl) (by kernel_rfl) HS5.out ?_
    clear c0 c1 c2 c3 HW1 HB1
    generalize W1.drew = WD at *
    have HSX : Hid (Below w.heap.size w WD ∧ WD.cell? ⟨D, 0, none⟩ = some (.int .i64 op) ∧ WD.cell? ⟨D, 2, none⟩ = some (.int .i64 a) ∧ WD.cell? ⟨D, 3, none⟩ = some (.int .i64 b)) := HS5.out
    clear HS5
    repeat (refine sq_op (v := ?_) (by rfl) (by rfl) (by rfl) ?_ ?_; rotate_left; (focus (intro X hX; obtain ⟨z9, z0, z2, z3⟩ := hX; go_simp <;> with_reducible rfl)); simp only [Act.put, List.setIfInBounds_toArray, List.set_cons_zero, List.set_cons_succ])
    repeat (refine sq_skip (by rfl) (by rfl) ?_; simp only [Act.put, List.setIfInBounds_toArray, List.set_cons_zero, List.set_cons_succ])
    repeat (refine sq_op (v := ?_) (by rfl) (by rfl) (by rfl) ?_ ?_; rotate_left; (focus (intro X hX; obtain ⟨z9, z0, z2, z3⟩ := hX; go_simp <;> with_reducible rfl)); simp only [Act.put, List.setIfInBounds_toArray, List.set_cons_zero, List.set_cons_succ])
    refine sq_end (fun _ => ?_)
    go_wp2_with fail
    go_ret
    exact ⟨rfl, HSX.out.1⟩
  · have p0 := p17
    go_enter Tryz.func16, Tryz.ntmps16
    go_upto_region 1 with fail
    rw [HW1.out.1, HW1.out.2]
    go_upto_region 5 with fail
    have HS5 : Hid (Below w.heap.size w W1.drew ∧ W1.drew.cell? ⟨D, 0, none⟩ = some (.int .i64 op) ∧ W1.drew.cell? ⟨D, 2, none⟩ = some (.int .i64 a) ∧ W1.drew.cell? ⟨D, 3, none⟩ = some (.int .i64 b)) := ⟨HB1.out.2, c0, c2, c3⟩
    have c1d : W1.drew.cell? ⟨D, 1, none⟩ = some (.int .i64 u) := c1
    refine sq_start (fun X => Below w.heap.size w X ∧ X.cell? ⟨D, 0, none⟩ = some (.int .i64 op) ∧ X.cell? ⟨D, 2, none⟩ = some (.int .i64 a) ∧ X.cell? ⟨D, 3, none⟩ = some (.int .i64 b)) [7, 11] [0, 1, 2, 3, 4, 5, 6, 8, 9, 10, 7, 11, 12, 13, 14, 15] (by kernel_rfl) (by kernel_rfl) HS5.out ?_
    clear c0 c1 c2 c3 HW1 HB1
    generalize W1.drew = WD at *
    have HSX : Hid (Below w.heap.size w WD ∧ WD.cell? ⟨D, 0, none⟩ = some (.int .i64 op) ∧ WD.cell? ⟨D, 2, none⟩ = some (.int .i64 a) ∧ WD.cell? ⟨D, 3, none⟩ = some (.int .i64 b)) := HS5.out
    clear HS5
    repeat (refine sq_op (v := ?_) (by rfl) (by rfl) (by rfl) ?_ ?_; rotate_left; (focus (intro X hX; obtain ⟨z9, z0, z2, z3⟩ := hX; go_simp <;> with_reducible rfl)); simp only [Act.put, List.setIfInBounds_toArray, List.set_cons_zero, List.set_cons_succ])
    repeat (refine sq_skip (by rfl) (by rfl) ?_; simp only [Act.put, List.setIfInBounds_toArray, List.set_cons_zero, List.set_cons_succ])
    repeat (refine sq_op (v := ?_) (by rfl) (by rfl) (by rfl) ?_ ?_; rotate_left; (focus (intro X hX; obtain ⟨z9, z0, z2, z3⟩ := hX; go_simp <;> with_reducible rfl)); simp only [Act.put, List.setIfInBounds_toArray, List.set_cons_zero, List.set_cons_succ])
    refine sq_end (fun _ => ?_)
    go_wp2_with fail
    go_ret
    exact ⟨rfl, HSX.out.1⟩
end Go.Proofs.YtkbfoahfehfjnaaGreatDoor
namespace Go.Proofs.YtkbfoahfehfjnaaGreatDoor
open Go.ChangeShapes Go.WideShapes Go.ChangeAt Go.RowKit Go.Lib Go.Tm Go.Bw Go.Bn Go.Bd

theorem res_row {P : Program} {fn : Func} {p u : Tmp} {ty : TypeId} (h : fn.results = #[.cell p ty, .tmp u]) (tmps : Array Value) (w : World) (g : Nat) (t : TypeId) (cs : Array Value) (fr : Nat × Nat) (d : TypeDesc) (x : Value)
    (hp : tmps.getD p undef = .pointer (some ⟨g, 0, none⟩)) (hg : w.heap[g]? = some (.cells cs t fr)) (hx : tmps.getD u undef = x)
    (hu : P.underlying ty = some d) (hd : (match d with | .struct _ | .array _ _ => true | _ => false) = true) (hi : (P.info? ty).map (·.size) = some cs.size) :
    (results fn tmps).run P w = .ok (.tuple #[.agg cs, x]) w := by
  rw [results_cell_tmp h, hp, hx]
  simp [asAddr, Result.andThen, run_loadVar_row w g t ty cs fr d hg hu hd hi]
/-- two boxes of nodes: the answer's, and the one on its way -/
structure DS (w W : World) (n : Nd) : Prop where
  bel : Below w.heap.size w W
  sz : w.heap.size + 2 ≤ W.heap.size
  b0 : W.heap[w.heap.size]? = some (.cells (ndV z0) 39 (0, 0))
  b1 : W.heap[w.heap.size + 1]? = some (.cells (ndV n) 39 (0, 0))
theorem DS.over {w W W' : World} {n : Nd} (h : DS w W n) (hb : Below W.heap.size W W') : DS w W' n :=
  ⟨h.bel.trans (hb.mono h.bel.size), Nat.le_trans h.sz hb.size, (hb.block _ (by have := h.sz; omega)).trans h.b0, (hb.block _ (by have := h.sz; omega)).trans h.b1⟩
theorem DS.set {w W : World} {n n' : Nd} (h : DS w W n) (i : Nat) (v : Value) (he : (ndV n).set! i v = ndV n') : DS w (W.setCell ⟨w.heap.size + 1, i, none⟩ v) n' := by
  have oth : ∀ j, j ≠ w.heap.size + 1 → (W.setCell ⟨w.heap.size + 1, i, none⟩ v).heap[j]? = W.heap[j]? := fun j hj => heap_setCell_other _ _ _ _ hj
  refine ⟨⟨h.bel.os, h.bel.tape, h.bel.output, by rw [World.size_setCell]; exact h.bel.size, fun j hj => (oth j (by omega)).trans (h.bel.block j hj)⟩, by rw [World.size_setCell]; exact h.sz, (oth _ (by omega)).trans h.b0, ?_⟩
  rw [heap_setCell_same _ _ i _ _ _ h.b1, ← he]
  rfl
theorem DS.start (w : World) (n : Nd) : DS w ((w.alloc (.cells (ndV z0) 39)).alloc (.cells (ndV n) 39)) n := by
  have b1 := bel1 w (.cells (ndV z0) 39)
  have k1 := heap_alloc_new w (.cells (ndV z0) 39)
  obtain ⟨A, hA⟩ : ∃ A, w.alloc (.cells (ndV z0) 39) = A := ⟨_, rfl⟩
  have s1 : A.heap.size = w.heap.size + 1 := by rw [← hA]; simp
  rw [hA] at b1 k1 ⊢
  have b2 := bel1 A (.cells (ndV n) 39)
  have k2 := heap_alloc_new A (.cells (ndV n) 39)
  rw [s1] at k2
  exact ⟨b1.trans (b2.mono b1.size), by simp; omega, (b2.block _ (by omega)).trans k1, k2⟩
theorem DS.fin {w W W' : World} {n : Nd} (h : DS w W n) (ho : OTH w.heap.size W W') : Below w.heap.size w W' :=
  ⟨ho.os.trans h.bel.os, ho.tape.trans h.bel.tape, ho.output.trans h.bel.output, Nat.le_trans h.bel.size ho.size, fun j hj => (ho.block j (by have := h.sz; omega) (by omega)).trans (h.bel.block j hj)⟩
/-- the node of a line's words, as they tell it -/
def ndO (ts : List Int) : List (List UInt8) → Option Nd
  | u :: o :: us => if smN u = some (ts.length + 1) then (if opO o = 0 then none else fgo ts (flB (opO o)) us (nd1 (opO o)) 0) else none
  | _ => none
theorem lnO_ndO (ts : List Int) (L : List Nd) : ∀ us : List (List UInt8), lnO ts L us = (ndO ts us).map (fin L)
  | [] => rfl
  | [_] => rfl
  | u :: o :: us => by
    rw [lnO_cons, ndO]
    split
    · split
      · rfl
      · rfl
    · rfl
theorem fgo_cons (ts : List Int) (f : UInt8) (fs : List UInt8) (u : List UInt8) (us : List (List UInt8)) (n : Nd) (k : Nat) : fgo ts (f :: fs) (u :: us) n k = (match fst1 ts f u n k with
    | none => none
    | some m => fgo ts fs us m (if f = 112 then k + 1 else k)) := rfl
theorem fgo_len (ts : List Int) : ∀ (fs : List UInt8) (us : List (List UInt8)) (n : Nd) (k : Nat), us.length ≠ fs.length → fgo ts fs us n k = none
  | [], [], _, _, h => absurd rfl h
  | [], _ :: _, _, _, _ => rfl
  | _ :: _, [], _, _, _ => rfl
  | f :: fs, u :: us, n, k, h => by
    rw [fgo_cons]
    cases fst1 ts f u n k with
    | none => rfl
    | some m => exact fgo_len ts fs us m _ (by simpa using h)
theorem opF_spec (u : List UInt8) : ∀ k, opF u k ≠ 0 → wordB (opF u k) = u
  | 0, h => absurd rfl h
  | k + 1, h => by
    unfold opF at h ⊢
    split
    · rename_i h1
      exact h1
    · rename_i h1
      rw [if_neg h1] at h
      exact opF_spec u k h
/-- the operation that is found among the first ones -/
def opB (o : List UInt8) (j : Nat) : Nat := if opO o < j then opO o else 0
theorem opB_one (o : List UInt8) : opB o 1 = 0 := by unfold opB; split <;> omega
theorem opB_end (o : List UInt8) : opB o 34 = opO o := by have := opO_le o; unfold opB; rw [if_pos (by omega)]
theorem opB_hit {o : List UInt8} {j : Nat} (h1 : 1 ≤ j) (h2 : j ≤ 33) (h3 : wordB j = o) : opB o (j + 1) = j := by
  unfold opB
  rw [opO_hit h1 h2 h3, if_pos (by omega)]
theorem opB_miss {o : List UInt8} {j : Nat} (h1 : 1 ≤ j) (h3 : wordB j ≠ o) : opB o (j + 1) = opB o j := by
  unfold opB
  by_cases e : opO o = j
  · exact absurd (by have := opF_spec o 33 (by show opO o ≠ 0; omega); rw [show opF o 33 = j from e] at this; exact this) h3
  · by_cases h : opO o < j
    · rw [if_pos h, if_pos (by omega)]
    · rw [if_neg h, if_neg (by omega)]
theorem flB_signs {op : Int} {f : UInt8} (h : f ∈ flB op) : f = 112 ∨ f = 110 ∨ f = 119 ∨ f = 115 := by
  unfold flB at h
  split at h
  · cases h
  · split at h
    · simp at h; rcases h with h | h <;> simp [h]
    · split at h
      · simp at h; rcases h with h | h <;> simp [h]
      · split at h
        · simp at h; rcases h with h | h | h <;> simp [h]
        · split at h
          · simp at h; rcases h with h | h <;> simp [h]
          · exact Or.inl (List.eq_of_mem_replicate h)
theorem flB_len (op : Int) : (flB op).length ≤ 3 := by
  unfold flB
  split
  · simp
  · split
    · simp
    · split
      · simp
      · split
        · simp
        · split
          · simp
          · rw [List.length_replicate]; have := pt_lo op; omega
theorem nV_some (v : Nat) : nV (some v) = (v : Int) := rfl
theorem fst1_p (ts : List Int) (u : List UInt8) (n : Nd) (k : Nat) : fst1 ts 112 u n k = (ptO ts u).map (setP n k) := rfl
theorem fst1_n3 (ts : List Int) (u : List UInt8) (n : Nd) (k : Nat) (h : n.op = 3) : fst1 ts 110 u n k = (numO u).map (fun (x : Nat) => { n with num := (x : Int) }) := by
  unfold fst1
  rw [if_neg (by decide), if_pos rfl, if_pos h]
theorem fst1_n (ts : List Int) (u : List UInt8) (n : Nd) (k : Nat) (h : n.op ≠ 3) : fst1 ts 110 u n k = (smN u).map (fun (x : Nat) => { n with num := (x : Int) }) := by
  unfold fst1
  rw [if_neg (by decide), if_pos rfl, if_neg h]
theorem fst1_w (ts : List Int) (u : List UInt8) (n : Nd) (k : Nat) : fst1 ts 119 u n k = (smN u).map (fun (x : Nat) => { n with w := (x : Int) }) := rfl
theorem fst1_s (ts : List Int) (u : List UInt8) (n : Nd) (k : Nat) : fst1 ts 115 u n k = some { n with name := ⟨u.toArray⟩ } := rfl
theorem smN_num {u : List UInt8} {v : Nat} (h : smN u = some v) : numO u = some v ∧ v < 2147483648 := by
  unfold smN at h
  cases e : numO u with
  | none => rw [e] at h; cases h
  | some y =>
    rw [e] at h
    simp only at h
    split at h
    · cases h
      exact ⟨rfl, by assumption⟩
    · cases h
end Go.Proofs.YtkbfoahfehfjnaaGreatDoor
