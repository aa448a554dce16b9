import Derived.Test.YtobgedjpghokcaaGreatDoorDxB
import Derived.Test.YtobgedjpghokcaaGreatDoorTmD
namespace Go.Proofs.YtobgedjpghokcaaGreatDoor
open Go.ChangeShapes Go.WideShapes Go.ChangeAt Go.RowKit Go.Bd Go.Lib Go.Tm

/-- a part, if there is one -/
def prtT (f : Int → Int) (p : Int) : List UInt8 := if 0 < p then 32 :: Lib.itoa (f p) else []
/-- what stands behind the parts -/
def tailT (n : Nd) : List UInt8 := if n.op = 3 then (32 :: Lib.itoa n.w) ++ (32 :: txB n.num.toNat) else if n.op = 4 ∨ n.op = 32 ∨ n.op = 33 then 32 :: Lib.itoa n.w else if n.op = 31 then (32 :: Lib.itoa n.num) ++ (32 :: Lib.itoa n.w) else []
theorem tail3 (n : Nd) (h : n.op = 3) : tailT n = (32 :: Lib.itoa n.w) ++ (32 :: txB n.num.toNat) := if_pos h
theorem tailW (n : Nd) (h : n.op = 4 ∨ n.op = 32 ∨ n.op = 33) : tailT n = 32 :: Lib.itoa n.w := by
  unfold tailT
  rw [if_neg (by omega), if_pos h]
theorem tail31 (n : Nd) (h : n.op = 31) : tailT n = (32 :: Lib.itoa n.num) ++ (32 :: Lib.itoa n.w) := by
  unfold tailT
  rw [if_neg (by omega), if_neg (by omega), if_pos h]
theorem tail0 (n : Nd) (h : n.op ≠ 3 ∧ n.op ≠ 4 ∧ n.op ≠ 31 ∧ n.op ≠ 32 ∧ n.op ≠ 33) : tailT n = [] := by
  unfold tailT
  rw [if_neg (by omega), if_neg (by omega), if_neg (by omega)]
/-- a term's line -/
def ndT (f : Int → Int) (li : Int) (n : Nd) : List UInt8 := Lib.itoa li ++ 32 :: wordB n.op.toNat ++ (if n.op = 4 then 32 :: n.name.data.toList else []) ++ prtT f n.a ++ prtT f n.b ++ prtT f n.c ++ tailT n ++ [10]
def PR (f : Int → Int) (a b c : Int) (i : Nat) : List UInt8 := match i with
  | 0 => []
  | 1 => prtT f a
  | 2 => prtT f a ++ prtT f b
  | _ => prtT f a ++ prtT f b ++ prtT f c
theorem PR_more (f : Int → Int) (a b c : Int) (i : Nat) (h : i < 3) : PR f a b c (i + 1) = PR f a b c i ++ prtT f (if i = 0 then a else if i = 1 then b else c) := by
  have : i = 0 ∨ i = 1 ∨ i = 2 := by omega
  rcases this with rfl | rfl | rfl <;> simp [PR]
theorem prtT_len (f : Int → Int) (hf : ∀ x, 0 ≤ f x ∧ f x ≤ 1000000000000) (p : Int) : (prtT f p).length ≤ 22 := by
  unfold prtT
  split
  · have := Lib.itoa_length_le (f p) (by have := (hf p).1; omega) (by have := (hf p).2; omega)
    simp
    omega
  · simp
theorem PR_len (f : Int → Int) (hf : ∀ x, 0 ≤ f x ∧ f x ≤ 1000000000000) (a b c : Int) (i : Nat) : (PR f a b c i).length ≤ 66 := by
  have h1 := prtT_len f hf a
  have h2 := prtT_len f hf b
  have h3 := prtT_len f hf c
  unfold PR
  split <;> simp <;> omega
theorem idx3D (x y z : Int) (W : World) : (Instr.index 82 (.agg #[.int .i64 x, .int .i64 y, .int .i64 z]) (.int .i64 0)).run Tryz.prog W = .ok (.int .i64 x) W ∧ (Instr.index 82 (.agg #[.int .i64 x, .int .i64 y, .int .i64 z]) (.int .i64 1)).run Tryz.prog W = .ok (.int .i64 y) W ∧ (Instr.index 82 (.agg #[.int .i64 x, .int .i64 y, .int .i64 z]) (.int .i64 2)).run Tryz.prog W = .ok (.int .i64 z) W := by
  have h1 := Tryz.sizeOf3 W
  have h2 := Tryz.isAgg3
  refine ⟨?_, ?_, ?_⟩
  all_goals simp [Instr.index, run_underlying Tryz.underlying82, asIntOf, h1, part, h2]
set_option maxHeartbeats 8000000 in
set_option maxRecDepth 100000 in
theorem term_any (Bd : Nat) (w0 : World) (Q M : Nat) (om : Obj) (txt : List UInt8) (v : Value) (w : World) (t : Int) (n : Nd) (f : Int → Int) (hf : ∀ x, 0 ≤ f x ∧ f x ≤ 1000000000000) (hn : n.ok) (ho1 : 1 ≤ n.op) (ho2 : n.op ≤ 33) (hnm : n.name.size ≤ 24) (hns : n.op = 31 → n.num ≤ 64) (h : DST Bd w0 Q M om txt v w) (hE : ∀ W v txt, DST Bd w0 Q M om txt v W → ENVD Bd W) (hl : txt.length ≤ 1000000000000)
    (hlk : ∀ W v txt, DST Bd w0 Q M om txt v W → ∀ x, (x = t ∨ x = n.a ∨ x = n.b ∨ x = n.c) → 0 < x → (Instr.lookup 51 (.map (some M)) (.int .i64 x) false).run Tryz.prog W = .ok (.int .i64 (f x)) W) (ht : 0 < t) :
    Calls Tryz.prog 20 #[.pointer (some ⟨Q, 0, none⟩), .int .i64 t, .agg #[.int .i64 n.op, .int .i64 n.w, .int .i64 n.a, .int .i64 n.b, .int .i64 n.c, .int .u64 n.num, .string n.name]] w fun e w' => e = .returned (.tuple #[]) ∧ ∃ v', DST Bd w0 Q M om (txt ++ ndT f (f t) n) v' w' ∧ KO Q w w' := by
  generalize hPP : (fun (e : Ending) (w' : World) => e = .returned (.tuple #[]) ∧ ∃ v', DST Bd w0 Q M om (txt ++ ndT f (f t) n) v' w' ∧ KO Q w w') = PP
  have HPP : Hid (∀ v' w', DST Bd w0 Q M om (txt ++ ndT f (f t) n) v' w' → KO Q w w' → PP (.returned (.tuple #[])) w') := fun v' w' h h9 => by rw [← hPP]; exact ⟨rfl, v', h, h9⟩
  clear hPP
  have HT : Hid (∀ W v txt, DST Bd w0 Q M om txt v W → PowT Bd W) := fun W v txt hD => (hE W v txt hD).pow
  have HNu : Hid (∀ W v txt x, DST Bd w0 Q M om txt v W → txt.length ≤ 1099511627776 → -9223372036854775808 ≤ x → x ≤ 9223372036854775807 → Calls Tryz.prog 34 #[.pointer (some ⟨Q, 0, none⟩), .int .i64 x] W fun e w' => e = .returned (.tuple #[]) ∧ ∃ v', DST Bd w0 Q M om (txt ++ 32 :: Lib.itoa x) v' w' ∧ KO Q W w') := fun W v txt x hD hl h0 h1 => numberD_any Bd w0 Q M om txt v W x h0 h1 hD HT.out hl
  have HWo : Hid (∀ W v txt s, DST Bd w0 Q M om txt v W → txt.length ≤ 1099511627776 → s.size ≤ 1048576 → Calls Tryz.prog 33 #[.pointer (some ⟨Q, 0, none⟩), .string s] W fun e w' => e = .returned (.tuple #[]) ∧ ∃ v', DST Bd w0 Q M om (txt ++ 32 :: s.data.toList) v' w' ∧ KO Q W w') := fun W v txt s hD hl hs => wordD_any Bd w0 Q M om txt v W s hD hl hs
  have HLi : Hid (∀ W v txt x, DST Bd w0 Q M om txt v W → txt.length ≤ 1099511627776 → (x = n.a ∨ x = n.b ∨ x = n.c) → 0 < x → Calls Tryz.prog 21 #[.pointer (some ⟨Q, 0, none⟩), .int .i64 x] W fun e w' => e = .returned (.tuple #[]) ∧ ∃ v', DST Bd w0 Q M om (txt ++ 32 :: Lib.itoa (f x)) v' w' ∧ KO Q W w') := fun W v txt x hD hl hx h0 => line_any Bd w0 Q M om txt v W x (f x) (by have := (hf x).1; omega) (by have := (hf x).2; omega) hD HT.out hl (hlk W v txt hD x (Or.inr hx) h0)
  have HD0 : Hid (DST Bd w0 Q M om txt v (w.alloc (.cells #[.int .i64 n.op, .int .i64 n.w, .int .i64 n.a, .int .i64 n.b, .int .i64 n.c, .int .u64 n.num, .string n.name] 32 (0, 0)))) := h.over ((Below.refl _ _).alloc (Nat.le_refl _) _)
  have HBx : Hid ((w.alloc (.cells #[.int .i64 n.op, .int .i64 n.w, .int .i64 n.a, .int .i64 n.b, .int .i64 n.c, .int .u64 n.num, .string n.name] 32 (0, 0))).heap[w.heap.size]? = some (.cells #[.int .i64 n.op, .int .i64 n.w, .int .i64 n.a, .int .i64 n.b, .int .i64 n.c, .int .u64 n.num, .string n.name] 32 (0, 0))) := heap_alloc_new w _
  have HK0 : Hid (KO Q w (w.alloc (.cells #[.int .i64 n.op, .int .i64 n.w, .int .i64 n.a, .int .i64 n.b, .int .i64 n.c, .int .u64 n.num, .string n.name] 32 (0, 0)))) := ko_below ((Below.refl _ _).alloc (Nat.le_refl _) _)
  have hQB := h.qB
  have hsz0 := h.sz
  obtain ⟨op, u, a, b, c, num, nm⟩ := n
  dsimp only at *
  obtain ⟨W1, hW1⟩ : ∃ W1, w.alloc (.cells #[.int .i64 op, .int .i64 u, .int .i64 a, .int .i64 b, .int .i64 c, .int .u64 num, .string nm] 32 (0, 0)) = W1 := ⟨_, rfl⟩
  obtain ⟨bx, hbx⟩ : ∃ bx, w.heap.size = bx := ⟨_, rfl⟩
  rw [hW1] at HD0 HBx HK0
  rw [hbx] at HBx hsz0
  have HNB : Hid (bx ≠ Q) := by show _ ≠ _; omega
  have HBK : Hid (∀ W, KO Q W1 W → W.heap[bx]? = some (.cells #[.int .i64 op, .int .i64 u, .int .i64 a, .int .i64 b, .int .i64 c, .int .u64 num, .string nm] 32 (0, 0))) := fun W hk => hk bx _ HBx.out (fun e => by injection e with e; exact HNB.out e) (fun cs fr e => by cases e)
  obtain ⟨ad, cv, hv⟩ := h.form
  subst hv
  have HD1 : Hid (DST Bd w0 Q M om txt (.slice ad txt.length cv) W1.drew) := HD0.out.over (Below.drew (Below.refl _ _))
  have hlk1 := hlk W1 _ _ HD0.out t (Or.inl rfl) ht
  have hlk2 := hlk W1.drew _ _ HD1.out t (Or.inl rfl) ht
  have hE1 := hE W1.drew _ _ HD1.out
  obtain ⟨k0, f0, k1, hQ1⟩ := HD0.out.cell
  have HA1 : Hid (Calls Tryz.prog 32 #[.slice ad txt.length cv, .int .i64 (f t), .int .i64 10] W1.drew fun e w' => ∃ v', e = .returned v' ∧ w'.ownsRow Bd 5 1 v' (txt.length + (Lib.itoa (f t)).length) (Lib.byteCells txt ++ Lib.byteCells (Lib.itoa (f t))) ∧ Below Bd W1.drew w' ∧ Lib.OthersKept 5 none W1.drew w') := appInt_any Bd txt.length (f t) (by have := (hf t).1; omega) (by have := (hf t).2; omega) _ _ W1.drew HD1.out.row HD1.out.sz (by omega) hE1.pow
  have HE : Hid (∀ W v txt, DST Bd w0 Q M om txt v W → ENVD Bd W) := hE
  have hft := hf t
  obtain ⟨i0, hi, hz0, hz1, hz2⟩ := info_parts Tryz.info5
  have hnok := hn
  have hu1 := hn.w
  have hnu := hn.num
  unfold I64 at hu1
  unfold U64 at hnu
  dsimp only at hu1 hnu
  clear h hlk hE hE1
  go_enter Tryz.func20, Tryz.ntmps20
  go_wp2_with fail
  refine (fun (KEY : Hid (∀ (w6 : World) (a6 : Option Addr) (z6 c6 : Nat), Hid ((w6.cell? ⟨Q, 0, none⟩ = some (.slice ad txt.length cv) ∧ w6.frozen? ⟨Q, 0, none⟩ = false ∧ Q < w6.heap.size) ∧ DST Bd w0 Q M om (txt ++ Lib.itoa (f t)) (.slice a6 z6 c6) (w6.setCell ⟨Q, 0, none⟩ (.slice a6 z6 c6)) ∧ KO Q W1 (w6.setCell ⟨Q, 0, none⟩ (.slice a6 z6 c6))) → (?PHI : World → Option Addr → Nat → Nat → Prop) w6 a6 z6 c6)) => ?main) ?key
  case main =>
   first | (go_region_with (go_at_call 32; refine HA1.out.mono ?_; rintro e w6 ⟨v6, rfl, ho6, hb6, hk6⟩; obtain ⟨a6, c6, e6⟩ := own_form ho6; have HX6 : Hid ((w6.cell? ⟨Q, 0, none⟩ = some (.slice ad txt.length cv) ∧ w6.frozen? ⟨Q, 0, none⟩ = false ∧ Q < w6.heap.size) ∧ DST Bd w0 Q M om (txt ++ Lib.itoa (f t)) v6 (w6.setCell ⟨Q, 0, none⟩ v6) ∧ KO Q W1 (w6.setCell ⟨Q, 0, none⟩ v6)) := ⟨(HD1.out.text hb6 (txt' := txt ++ Lib.itoa (f t)) (by rw [bc_app, List.length_append]; exact ho6)).1, (HD1.out.text hb6 (txt' := txt ++ Lib.itoa (f t)) (by rw [bc_app, List.length_append]; exact ho6)).2, ko_set (Lib.OthersKept.trans (ko_below (Below.drew (Below.refl _ _))) (ko_none hk6))⟩; have x0 := HX6.out.1.1; have x1 := HX6.out.1.2.1; have x2 := HX6.out.1.2.2; clear ho6 hb6 hk6; obtain ⟨z6, hz6⟩ : ∃ z, txt.length + (Lib.itoa (f t)).length = z := ⟨_, rfl⟩; rw [hz6] at e6; clear hz6; subst e6)) | fail
   all_goals exact KEY.out _ _ _ _ HX6
  case key =>
    intro w6 a6 z6 c6 HX6
    obtain ⟨-, hD6, hK6⟩ := HX6.out
    have HD6 : Hid (DST Bd w0 Q M om (txt ++ Lib.itoa (f t)) (.slice a6 z6 c6) (w6.setCell ⟨Q, 0, none⟩ (.slice a6 z6 c6))) := hD6
    have HK6 : Hid (KO Q W1 (w6.setCell ⟨Q, 0, none⟩ (.slice a6 z6 c6))) := hK6
    generalize w6.setCell ⟨Q, 0, none⟩ (.slice a6 z6 c6) = W6 at *
    clear hD6 hK6 HX6 k0 f0 k1 hlk1 hlk2
    obtain ⟨on, rfl⟩ : ∃ on : Nat, op = (on : Int) := ⟨op.toNat, by omega⟩
    have hwc := (HE.out _ _ _ HD6.out).wds on (by omega)
    have hwl := wordB_len on
    have hil := Lib.itoa_length_le (f t) (by omega) (by omega)
    have d0 : W6.cell? ⟨bx, 0, none⟩ = some (.int .i64 (on : Int)) := blk_cell (HBK.out _ HK6.out) 0
    have hon : (on : Int) < 34 := by omega
    have HWd : Hid (Calls Tryz.prog 33 #[.pointer (some ⟨Q, 0, none⟩), .string ⟨(wordB on).toArray⟩] W6 fun e w' => e = .returned (.tuple #[]) ∧ ∃ v', DST Bd w0 Q M om (txt ++ Lib.itoa (f t) ++ 32 :: wordB on) v' w' ∧ KO Q W6 w') := HWo.out W6 _ _ _ HD6.out (by rw [List.length_append]; omega) (by rw [Lib.size_eq]; show (wordB on).length ≤ _; omega)
    go_wp2_with fail
    refine HWd.out.mono ?_
    rintro e w7 ⟨rfl, v7, hD7, hK7⟩
    have HD7 : Hid (DST Bd w0 Q M om (txt ++ Lib.itoa (f t) ++ 32 :: wordB on) v7 w7) := hD7
    have HK7 : Hid (KO Q W1 w7) := HK6.out.trans hK7
    clear hD7 hK7 HWd HD6 HK6 d0 hwc
    have HX7 : Hid ((txt ++ Lib.itoa (f t) ++ 32 :: wordB on).length ≤ 1000000000100) := by
      show _ ≤ _
      rw [List.length_append, List.length_append, List.length_cons]
      omega
    have d0 : w7.cell? ⟨bx, 0, none⟩ = some (.int .i64 (on : Int)) := blk_cell (HBK.out _ HK7.out) 0
    have d6 : w7.cell? ⟨bx, 6, none⟩ = some (.string nm) := blk_cell (HBK.out _ HK7.out) 6
    by_cases h4 : on = 4
    · have q4 : ((on : Int) == 4) = true := beq_iff_eq.2 (by omega)
      have HW4 : Hid (Calls Tryz.prog 33 #[.pointer (some ⟨Q, 0, none⟩), .string nm] w7 fun e w' => e = .returned (.tuple #[]) ∧ ∃ v', DST Bd w0 Q M om (txt ++ Lib.itoa (f t) ++ 32 :: wordB on ++ 32 :: nm.data.toList) v' w' ∧ KO Q w7 w') := HWo.out w7 _ _ _ HD7.out (by have := HX7.out; omega) (by omega)
      go_wp2_with fail
      refine HW4.out.mono ?_
      rintro e w8 ⟨rfl, v8, hD8, hK8⟩
      obtain ⟨Y, hY⟩ : ∃ Y, Hid (Y = txt ++ Lib.itoa (f t) ++ 32 :: wordB on ++ (if (on : Int) = 4 then 32 :: nm.data.toList else [])) := ⟨_, rfl⟩
      have HD8 : Hid (DST Bd w0 Q M om Y v8 w8) := by
        show DST Bd w0 Q M om Y v8 w8
        rw [hY.out, if_pos (by omega)]
        exact hD8
      have HK8 : Hid (KO Q W1 w8) := HK7.out.trans hK8
      have HYl : Hid (Y.length ≤ 1000000000200) := by
        show _ ≤ _
        have h7 := HX7.out
        have h8 := Lib.size_eq nm
        rw [hY.out, if_pos (by omega), List.length_append, List.length_cons]
        omega
      clear hD8 hK8 HD7 HK7 d0 d6 HW4 HX7
      have d2 : w8.cell? ⟨bx, 2, none⟩ = some (.int .i64 a) := blk_cell (HBK.out _ HK8.out) 2
      have d3 : w8.cell? ⟨bx, 3, none⟩ = some (.int .i64 b) := blk_cell (HBK.out _ HK8.out) 3
      have d4 : w8.cell? ⟨bx, 4, none⟩ = some (.int .i64 c) := blk_cell (HBK.out _ HK8.out) 4
      have HPl : Hid (∀ i, (PR f a b c i).length ≤ 66) := fun i => PR_len f hf a b c i
      go_wp2_with fail
      go_loopg [42] 3 (fun gk s42 wr => ∃ i : Nat, s42 = .int .i64 (i : Int) ∧ i + gk = 3 ∧ Aside (∃ v, DST Bd w0 Q M om (Y ++ PR f a b c i) v wr ∧ KO Q W1 wr))
      case atStart => exact ⟨0, rfl, rfl, v8, by rw [show PR f a b c 0 = [] from rfl, List.append_nil]; exact HD8.out, HK8.out⟩
      case round =>
        obtain ⟨i, rfl, hi2, HJ⟩ := hrel
        clear HD8 HK8 d2 d3 d4
        obtain ⟨j0, j1, j2⟩ := idx3D a b c wr
        have hi4 : i = 0 ∨ i = 1 ∨ i = 2 ∨ i = 3 := by omega
        rcases hi4 with rfl | rfl | rfl | rfl
        · by_cases hx : 0 < a
          · have q3 : decide (0 < a) = true := decide_eq_true hx
            obtain ⟨v9, hD9, hK9⟩ := HJ.out
            have HL9 : Hid (Calls Tryz.prog 21 #[.pointer (some ⟨Q, 0, none⟩), .int .i64 a] wr fun e w' => e = .returned (.tuple #[]) ∧ ∃ v', DST Bd w0 Q M om (Y ++ PR f a b c 0 ++ 32 :: Lib.itoa (f a)) v' w' ∧ KO Q wr w') := HLi.out wr v9 _ a hD9 (by have h7 := HYl.out; have h8 := HPl.out 0; rw [List.length_append]; omega) (by simp) hx
            have HK9 : Hid (KO Q W1 wr) := hK9
            clear hD9 hK9 HJ
            go_wp2_with fail
            refine HL9.out.mono ?_
            rintro e wA ⟨rfl, vA, hDA, hKA⟩
            have HA : Aside (∃ v, DST Bd w0 Q M om (Y ++ PR f a b c 1) v wA ∧ KO Q W1 wA) := ⟨vA, by rw [PR_more f a b c 0 (by omega)]; show DST Bd w0 Q M om (Y ++ (PR f a b c 0 ++ prtT f a)) vA wA; unfold prtT; rw [if_pos hx, ← List.append_assoc]; exact hDA, HK9.out.trans hKA⟩
            clear hDA hKA HL9 HK9
            go_wp2_with fail
            go_roundg 2
            case measure => omega
            case rel => exact ⟨1, rfl, by omega, HA⟩
          · have q3 : decide (0 < a) = false := decide_eq_false hx
            have HA : Aside (∃ v, DST Bd w0 Q M om (Y ++ PR f a b c 1) v wr ∧ KO Q W1 wr) := by
              obtain ⟨v9, hD9, hK9⟩ := HJ.out
              refine ⟨v9, ?_, hK9⟩
              rw [PR_more f a b c 0 (by omega)]
              show DST Bd w0 Q M om (Y ++ (PR f a b c 0 ++ prtT f a)) v9 wr
              unfold prtT
              rw [if_neg hx, List.append_nil]
              exact hD9
            clear HJ
            go_wp2_with fail
            go_roundg 2
            case measure => omega
            case rel => exact ⟨1, rfl, by omega, HA⟩
        · by_cases hx : 0 < b
          · have q3 : decide (0 < b) = true := decide_eq_true hx
            obtain ⟨v9, hD9, hK9⟩ := HJ.out
            have HL9 : Hid (Calls Tryz.prog 21 #[.pointer (some ⟨Q, 0, none⟩), .int .i64 b] wr fun e w' => e = .returned (.tuple #[]) ∧ ∃ v', DST Bd w0 Q M om (Y ++ PR f a b c 1 ++ 32 :: Lib.itoa (f b)) v' w' ∧ KO Q wr w') := HLi.out wr v9 _ b hD9 (by have h7 := HYl.out; have h8 := HPl.out 1; rw [List.length_append]; omega) (by simp) hx
            have HK9 : Hid (KO Q W1 wr) := hK9
            clear hD9 hK9 HJ
            go_wp2_with fail
            refine HL9.out.mono ?_
            rintro e wA ⟨rfl, vA, hDA, hKA⟩
            have HA : Aside (∃ v, DST Bd w0 Q M om (Y ++ PR f a b c 2) v wA ∧ KO Q W1 wA) := ⟨vA, by rw [PR_more f a b c 1 (by omega)]; show DST Bd w0 Q M om (Y ++ (PR f a b c 1 ++ prtT f b)) vA wA; unfold prtT; rw [if_pos hx, ← List.append_assoc]; exact hDA, HK9.out.trans hKA⟩
            clear hDA hKA HL9 HK9
            go_wp2_with fail
            go_roundg 1
            case measure => omega
            case rel => exact ⟨2, rfl, by omega, HA⟩
          · have q3 : decide (0 < b) = false := decide_eq_false hx
            have HA : Aside (∃ v, DST Bd w0 Q M om (Y ++ PR f a b c 2) v wr ∧ KO Q W1 wr) := by
              obtain ⟨v9, hD9, hK9⟩ := HJ.out
              refine ⟨v9, ?_, hK9⟩
              rw [PR_more f a b c 1 (by omega)]
              show DST Bd w0 Q M om (Y ++ (PR f a b c 1 ++ prtT f b)) v9 wr
              unfold prtT
              rw [if_neg hx, List.append_nil]
              exact hD9
            clear HJ
            go_wp2_with fail
            go_roundg 1
            case measure => omega
            case rel => exact ⟨2, rfl, by omega, HA⟩
        · by_cases hx : 0 < c
          · have q3 : decide (0 < c) = true := decide_eq_true hx
            obtain ⟨v9, hD9, hK9⟩ := HJ.out
            have HL9 : Hid (Calls Tryz.prog 21 #[.pointer (some ⟨Q, 0, none⟩), .int .i64 c] wr fun e w' => e = .returned (.tuple #[]) ∧ ∃ v', DST Bd w0 Q M om (Y ++ PR f a b c 2 ++ 32 :: Lib.itoa (f c)) v' w' ∧ KO Q wr w') := HLi.out wr v9 _ c hD9 (by have h7 := HYl.out; have h8 := HPl.out 2; rw [List.length_append]; omega) (by simp) hx
            have HK9 : Hid (KO Q W1 wr) := hK9
            clear hD9 hK9 HJ
            go_wp2_with fail
            refine HL9.out.mono ?_
            rintro e wA ⟨rfl, vA, hDA, hKA⟩
            have HA : Aside (∃ v, DST Bd w0 Q M om (Y ++ PR f a b c 3) v wA ∧ KO Q W1 wA) := ⟨vA, by rw [PR_more f a b c 2 (by omega)]; show DST Bd w0 Q M om (Y ++ (PR f a b c 2 ++ prtT f c)) vA wA; unfold prtT; rw [if_pos hx, ← List.append_assoc]; exact hDA, HK9.out.trans hKA⟩
            clear hDA hKA HL9 HK9
            go_wp2_with fail
            go_roundg 0
            case measure => omega
            case rel => exact ⟨3, rfl, by omega, HA⟩
          · have q3 : decide (0 < c) = false := decide_eq_false hx
            have HA : Aside (∃ v, DST Bd w0 Q M om (Y ++ PR f a b c 3) v wr ∧ KO Q W1 wr) := by
              obtain ⟨v9, hD9, hK9⟩ := HJ.out
              refine ⟨v9, ?_, hK9⟩
              rw [PR_more f a b c 2 (by omega)]
              show DST Bd w0 Q M om (Y ++ (PR f a b c 2 ++ prtT f c)) v9 wr
              unfold prtT
              rw [if_neg hx, List.append_nil]
              exact hD9
            clear HJ
            go_wp2_with fail
            go_roundg 0
            case measure => omega
            case rel => exact ⟨3, rfl, by omega, HA⟩
        · obtain ⟨v9, hD9, hK9⟩ := HJ.out
          have HD9 : Hid (DST Bd w0 Q M om (Y ++ PR f a b c 3) v9 wr) := hD9
          have HK9 : Hid (KO Q W1 wr) := hK9
          have HY9 : Hid ((Y ++ PR f a b c 3).length ≤ 1000000000400) := by show _ ≤ _; have h7 := HYl.out; have h8 := HPl.out 3; rw [List.length_append]; omega
          clear hD9 hK9 HJ
          have e0 : wr.cell? ⟨bx, 0, none⟩ = some (.int .i64 (on : Int)) := blk_cell (HBK.out _ HK9.out) 0
          have e1 : wr.cell? ⟨bx, 1, none⟩ = some (.int .i64 u) := blk_cell (HBK.out _ HK9.out) 1
          have e5 : wr.cell? ⟨bx, 5, none⟩ = some (.int .u64 num) := blk_cell (HBK.out _ HK9.out) 5
          have s3 : ((on : Int) == 3) = false := beq_eq_false_iff_ne.2 (by omega)
          have s4 : ((on : Int) == 4) = true := beq_iff_eq.2 (by omega)
          have s31 : ((on : Int) == 31) = false := beq_eq_false_iff_ne.2 (by omega)
          have s32 : ((on : Int) == 32) = false := beq_eq_false_iff_ne.2 (by omega)
          have s33 : ((on : Int) == 33) = false := beq_eq_false_iff_ne.2 (by omega)
          have HN1 : Hid (Calls Tryz.prog 34 #[.pointer (some ⟨Q, 0, none⟩), .int .i64 u] wr fun e w' => e = .returned (.tuple #[]) ∧ ∃ v', DST Bd w0 Q M om (Y ++ PR f a b c 3 ++ 32 :: Lib.itoa u) v' w' ∧ KO Q wr w') := HNu.out wr v9 _ _ HD9.out (by have h7 := HY9.out; omega) (by omega) (by omega)
          go_wp2_with fail
          refine HN1.out.mono ?_
          rintro e wB ⟨rfl, vB, hDB, hKB⟩
          obtain ⟨wF, hwF⟩ : ∃ wF, wF = wB := ⟨_, rfl⟩
          subst hwF
          obtain ⟨vF, hvF0⟩ : ∃ vF, vF = vB := ⟨_, rfl⟩
          subst hvF0
          obtain ⟨Z, hZ⟩ : ∃ Z, Hid (Z = Y ++ PR f a b c 3 ++ 32 :: Lib.itoa u) := ⟨_, rfl⟩
          have HDF : Hid (DST Bd w0 Q M om Z vF wF) := by show DST Bd w0 Q M om Z vF wF; rw [hZ.out]; exact hDB
          have HKF : Hid (KO Q W1 wF) := HK9.out.trans hKB
          have HZl : Hid (Z.length ≤ 1000000001000) := by show _ ≤ _; have h7 := HY9.out; have h8 := Lib.itoa_length_le u (by omega) (by omega); have h9 := txB_len num.toNat; rw [hZ.out]; simp only [List.length_append, List.length_cons] at *; omega
          have HZP : Hid (∀ v' w', DST Bd w0 Q M om (Z ++ [10]) v' w' → KO Q W1 w' → PP (.returned (.tuple #[])) w') := fun v' w' h1 h2 => HPP.out v' w' (by
            have e : txt ++ ndT f (f t) ⟨(on : Int), u, a, b, c, num, nm⟩ = Z ++ [10] := by
              rw [hZ.out, hY.out]
              unfold ndT PR
              rw [tailW _ (show (on : Int) = 4 ∨ (on : Int) = 32 ∨ (on : Int) = 33 by omega)]
              simp
            rw [e]
            exact h1) (HK0.out.trans h2)
          clear hDB hKB HD9 HK9 HN1
          obtain ⟨aF, cF, hvF⟩ := HDF.out.form
          obtain ⟨g0, g1, g2, hQF⟩ := HDF.out.cell
          obtain ⟨zF, hzF⟩ : ∃ z, Z.length = z := ⟨_, rfl⟩
          rw [hzF] at hvF
          subst hvF
          have HRF : Hid (wF.ownsRow Bd 5 1 (.slice aF zF cF) zF (Lib.byteCells Z)) := by have h7 := HDF.out.row; rw [hzF] at h7; exact h7
          have hsF := HDF.out.sz
          have hzl : zF ≤ 1000000001000 := by have h7 := HZl.out; omega
          go_wp2_with (at_builtin; refine wpList_append_lies _ rfl _ _ 52 rfl Bd 5 i0 (.int .u8 0) 1 1 Tryz.underlying52 hi hz0 hz1 hz2 rfl (by decide) _ _ _ rfl (HRF.out.alloc _) ⟨wF.heap.size, 0, none⟩ 1 1 [.int .u8 10] rfl rfl (one_newD _ _ _) (by intro u hu; simp at hu; subst hu; rfl) (by omega) (by unfold maxLen; omega) (by omega) (by simp; omega) (wF.heap.size + 1) (by simp) ?_; intro gG capG wG hownG hgrowG hatG hltG; have HOG : Hid ((wG.cell? ⟨Q, 0, none⟩ = some (.slice aF zF cF) ∧ wG.frozen? ⟨Q, 0, none⟩ = false ∧ Q < wG.heap.size) ∧ PP (.returned (.tuple #[])) (wG.setCell ⟨Q, 0, none⟩ (.slice (some ⟨gG, 0, none⟩) (zF + 1) capG))) := (fun hh => ⟨hh.1, HZP.out _ _ hh.2 (ko_set (HKF.out.trans (ko_gr HRF.out hgrowG)))⟩) (HDF.out.text (txt' := Z ++ [10]) (v' := .slice (some ⟨gG, 0, none⟩) (zF + 1) capG) (below_gr hsF HRF.out hgrowG) (by rw [List.length_append, bc_app, hzF]; exact hownG)); clear hownG hgrowG hatG hltG; refine Hid.out ?_)
          refine Lib.hid ?_
          obtain ⟨⟨g5, g6, hQG⟩, hPG⟩ := HOG.out
          have HPG : Hid (PP (.returned (.tuple #[])) (wG.setCell ⟨Q, 0, none⟩ (.slice (some ⟨gG, 0, none⟩) (zF + 1) capG))) := hPG
          clear HOG hPG g0 g1 g2 HDF HKF HZP
          go_wp2_with fail
          first | exact HPG.out | (go_end0; exact HPG.out)
    · have q4 : ((on : Int) == 4) = false := beq_eq_false_iff_ne.2 (by omega)
      obtain ⟨w8, hw8⟩ : ∃ w8, w8 = w7 := ⟨_, rfl⟩
      subst hw8
      obtain ⟨Y, hY⟩ : ∃ Y, Hid (Y = txt ++ Lib.itoa (f t) ++ 32 :: wordB on ++ (if (on : Int) = 4 then 32 :: nm.data.toList else [])) := ⟨_, rfl⟩
      obtain ⟨v8, hv8⟩ : ∃ v8, v8 = v7 := ⟨_, rfl⟩
      subst hv8
      have HD8 : Hid (DST Bd w0 Q M om Y v8 w8) := by
        show DST Bd w0 Q M om Y v8 w8
        rw [hY.out, if_neg (by omega), List.append_nil]
        exact HD7.out
      have HK8 : Hid (KO Q W1 w8) := HK7.out
      have HYl : Hid (Y.length ≤ 1000000000200) := by
        show _ ≤ _
        have h7 := HX7.out
        rw [hY.out, if_neg (by omega), List.append_nil]
        omega
      clear HD7 HK7 d6 HX7
      have d2 : w8.cell? ⟨bx, 2, none⟩ = some (.int .i64 a) := blk_cell (HBK.out _ HK8.out) 2
      have d3 : w8.cell? ⟨bx, 3, none⟩ = some (.int .i64 b) := blk_cell (HBK.out _ HK8.out) 3
      have d4 : w8.cell? ⟨bx, 4, none⟩ = some (.int .i64 c) := blk_cell (HBK.out _ HK8.out) 4
      have HPl : Hid (∀ i, (PR f a b c i).length ≤ 66) := fun i => PR_len f hf a b c i
      go_wp2_with fail
      go_loopg [42] 3 (fun gk s42 wr => ∃ i : Nat, s42 = .int .i64 (i : Int) ∧ i + gk = 3 ∧ Aside (∃ v, DST Bd w0 Q M om (Y ++ PR f a b c i) v wr ∧ KO Q W1 wr))
      case atStart => exact ⟨0, rfl, rfl, v8, by rw [show PR f a b c 0 = [] from rfl, List.append_nil]; exact HD8.out, HK8.out⟩
      case round =>
        obtain ⟨i, rfl, hi2, HJ⟩ := hrel
        clear HD8 HK8 d2 d3 d4
        obtain ⟨j0, j1, j2⟩ := idx3D a b c wr
        have hi4 : i = 0 ∨ i = 1 ∨ i = 2 ∨ i = 3 := by omega
        rcases hi4 with rfl | rfl | rfl | rfl
        · by_cases hx : 0 < a
          · have q3 : decide (0 < a) = true := decide_eq_true hx
            obtain ⟨v9, hD9, hK9⟩ := HJ.out
            have HL9 : Hid (Calls Tryz.prog 21 #[.pointer (some ⟨Q, 0, none⟩), .int .i64 a] wr fun e w' => e = .returned (.tuple #[]) ∧ ∃ v', DST Bd w0 Q M om (Y ++ PR f a b c 0 ++ 32 :: Lib.itoa (f a)) v' w' ∧ KO Q wr w') := HLi.out wr v9 _ a hD9 (by have h7 := HYl.out; have h8 := HPl.out 0; rw [List.length_append]; omega) (by simp) hx
            have HK9 : Hid (KO Q W1 wr) := hK9
            clear hD9 hK9 HJ
            go_wp2_with fail
            refine HL9.out.mono ?_
            rintro e wA ⟨rfl, vA, hDA, hKA⟩
            have HA : Aside (∃ v, DST Bd w0 Q M om (Y ++ PR f a b c 1) v wA ∧ KO Q W1 wA) := ⟨vA, by rw [PR_more f a b c 0 (by omega)]; show DST Bd w0 Q M om (Y ++ (PR f a b c 0 ++ prtT f a)) vA wA; unfold prtT; rw [if_pos hx, ← List.append_assoc]; exact hDA, HK9.out.trans hKA⟩
            clear hDA hKA HL9 HK9
            go_wp2_with fail
            go_roundg 2
            case measure => omega
            case rel => exact ⟨1, rfl, by omega, HA⟩
          · have q3 : decide (0 < a) = false := decide_eq_false hx
            have HA : Aside (∃ v, DST Bd w0 Q M om (Y ++ PR f a b c 1) v wr ∧ KO Q W1 wr) := by
              obtain ⟨v9, hD9, hK9⟩ := HJ.out
              refine ⟨v9, ?_, hK9⟩
              rw [PR_more f a b c 0 (by omega)]
              show DST Bd w0 Q M om (Y ++ (PR f a b c 0 ++ prtT f a)) v9 wr
              unfold prtT
              rw [if_neg hx, List.append_nil]
              exact hD9
            clear HJ
            go_wp2_with fail
            go_roundg 2
            case measure => omega
            case rel => exact ⟨1, rfl, by omega, HA⟩
        · by_cases hx : 0 < b
          · have q3 : decide (0 < b) = true := decide_eq_true hx
            obtain ⟨v9, hD9, hK9⟩ := HJ.out
            have HL9 : Hid (Calls Tryz.prog 21 #[.pointer (some ⟨Q, 0, none⟩), .int .i64 b] wr fun e w' => e = .returned (.tuple #[]) ∧ ∃ v', DST Bd w0 Q M om (Y ++ PR f a b c 1 ++ 32 :: Lib.itoa (f b)) v' w' ∧ KO Q wr w') := HLi.out wr v9 _ b hD9 (by have h7 := HYl.out; have h8 := HPl.out 1; rw [List.length_append]; omega) (by simp) hx
            have HK9 : Hid (KO Q W1 wr) := hK9
            clear hD9 hK9 HJ
            go_wp2_with fail
            refine HL9.out.mono ?_
            rintro e wA ⟨rfl, vA, hDA, hKA⟩
            have HA : Aside (∃ v, DST Bd w0 Q M om (Y ++ PR f a b c 2) v wA ∧ KO Q W1 wA) := ⟨vA, by rw [PR_more f a b c 1 (by omega)]; show DST Bd w0 Q M om (Y ++ (PR f a b c 1 ++ prtT f b)) vA wA; unfold prtT; rw [if_pos hx, ← List.append_assoc]; exact hDA, HK9.out.trans hKA⟩
            clear hDA hKA HL9 HK9
            go_wp2_with fail
            go_roundg 1
            case measure => omega
            case rel => exact ⟨2, rfl, by omega, HA⟩
          · have q3 : decide (0 < b) = false := decide_eq_false hx
            have HA : Aside (∃ v, DST Bd w0 Q M om (Y ++ PR f a b c 2) v wr ∧ KO Q W1 wr) := by
              obtain ⟨v9, hD9, hK9⟩ := HJ.out
              refine ⟨v9, ?_, hK9⟩
              rw [PR_more f a b c 1 (by omega)]
              show DST Bd w0 Q M om (Y ++ (PR f a b c 1 ++ prtT f b)) v9 wr
              unfold prtT
              rw [if_neg hx, List.append_nil]
              exact hD9
            clear HJ
            go_wp2_with fail
            go_roundg 1
            case measure => omega
            case rel => exact ⟨2, rfl, by omega, HA⟩
        · by_cases hx : 0 < c
          · have q3 : decide (0 < c) = true := decide_eq_true hx
            obtain ⟨v9, hD9, hK9⟩ := HJ.out
            have HL9 : Hid (Calls Tryz.prog 21 #[.pointer (some ⟨Q, 0, none⟩), .int .i64 c] wr fun e w' => e = .returned (.tuple #[]) ∧ ∃ v', DST Bd w0 Q M om (Y ++ PR f a b c 2 ++ 32 :: Lib.itoa (f c)) v' w' ∧ KO Q wr w') := HLi.out wr v9 _ c hD9 (by have h7 := HYl.out; have h8 := HPl.out 2; rw [List.length_append]; omega) (by simp) hx
            have HK9 : Hid (KO Q W1 wr) := hK9
            clear hD9 hK9 HJ
            go_wp2_with fail
            refine HL9.out.mono ?_
            rintro e wA ⟨rfl, vA, hDA, hKA⟩
            have HA : Aside (∃ v, DST Bd w0 Q M om (Y ++ PR f a b c 3) v wA ∧ KO Q W1 wA) := ⟨vA, by rw [PR_more f a b c 2 (by omega)]; show DST Bd w0 Q M om (Y ++ (PR f a b c 2 ++ prtT f c)) vA wA; unfold prtT; rw [if_pos hx, ← List.append_assoc]; exact hDA, HK9.out.trans hKA⟩
            clear hDA hKA HL9 HK9
            go_wp2_with fail
            go_roundg 0
            case measure => omega
            case rel => exact ⟨3, rfl, by omega, HA⟩
          · have q3 : decide (0 < c) = false := decide_eq_false hx
            have HA : Aside (∃ v, DST Bd w0 Q M om (Y ++ PR f a b c 3) v wr ∧ KO Q W1 wr) := by
              obtain ⟨v9, hD9, hK9⟩ := HJ.out
              refine ⟨v9, ?_, hK9⟩
              rw [PR_more f a b c 2 (by omega)]
              show DST Bd w0 Q M om (Y ++ (PR f a b c 2 ++ prtT f c)) v9 wr
              unfold prtT
              rw [if_neg hx, List.append_nil]
              exact hD9
            clear HJ
            go_wp2_with fail
            go_roundg 0
            case measure => omega
            case rel => exact ⟨3, rfl, by omega, HA⟩
        · obtain ⟨v9, hD9, hK9⟩ := HJ.out
          have HD9 : Hid (DST Bd w0 Q M om (Y ++ PR f a b c 3) v9 wr) := hD9
          have HK9 : Hid (KO Q W1 wr) := hK9
          have HY9 : Hid ((Y ++ PR f a b c 3).length ≤ 1000000000400) := by show _ ≤ _; have h7 := HYl.out; have h8 := HPl.out 3; rw [List.length_append]; omega
          clear hD9 hK9 HJ
          have e0 : wr.cell? ⟨bx, 0, none⟩ = some (.int .i64 (on : Int)) := blk_cell (HBK.out _ HK9.out) 0
          have e1 : wr.cell? ⟨bx, 1, none⟩ = some (.int .i64 u) := blk_cell (HBK.out _ HK9.out) 1
          have e5 : wr.cell? ⟨bx, 5, none⟩ = some (.int .u64 num) := blk_cell (HBK.out _ HK9.out) 5
          by_cases c3 : on = 3
          · have s3 : ((on : Int) == 3) = true := beq_iff_eq.2 (by omega)
            have s4 : ((on : Int) == 4) = false := beq_eq_false_iff_ne.2 (by omega)
            have s31 : ((on : Int) == 31) = false := beq_eq_false_iff_ne.2 (by omega)
            have s32 : ((on : Int) == 32) = false := beq_eq_false_iff_ne.2 (by omega)
            have s33 : ((on : Int) == 33) = false := beq_eq_false_iff_ne.2 (by omega)
            have HN1 : Hid (Calls Tryz.prog 34 #[.pointer (some ⟨Q, 0, none⟩), .int .i64 u] wr fun e w' => e = .returned (.tuple #[]) ∧ ∃ v', DST Bd w0 Q M om (Y ++ PR f a b c 3 ++ 32 :: Lib.itoa u) v' w' ∧ KO Q wr w') := HNu.out wr v9 _ _ HD9.out (by have h7 := HY9.out; omega) (by omega) (by omega)
            go_wp2_with fail
            refine HN1.out.mono ?_
            rintro e wB ⟨rfl, vB, hDB, hKB⟩
            have HDB : Hid (DST Bd w0 Q M om (Y ++ PR f a b c 3 ++ 32 :: Lib.itoa u) vB wB) := hDB
            have HKB : Hid (KO Q W1 wB) := HK9.out.trans hKB
            have HBl : Hid ((Y ++ PR f a b c 3 ++ 32 :: Lib.itoa u).length ≤ 1000000000500) := by show _ ≤ _; have h7 := HY9.out; have h8 := Lib.itoa_length_le u (by omega) (by omega); rw [List.length_append, List.length_cons]; omega
            clear hDB hKB e1 e5
            have e5 : wB.cell? ⟨bx, 5, none⟩ = some (.int .u64 num) := blk_cell (HBK.out _ HKB.out) 5
            obtain ⟨nn, hnn⟩ : ∃ nn : Nat, num = (nn : Int) := ⟨num.toNat, by omega⟩
            subst hnn
            have HTx : Hid (Calls Tryz.prog 35 #[.int .u64 (nn : Int)] wB fun e w' => e = .returned (.string ⟨(txB nn).toArray⟩) ∧ Below wB.heap.size wB w') := text_any nn wB (by omega) (HE.out _ _ _ HDB.out).env
            go_wp2_with fail
            refine HTx.out.mono ?_
            rintro e wC ⟨rfl, hbC⟩
            have HDC : Hid (DST Bd w0 Q M om (Y ++ PR f a b c 3 ++ 32 :: Lib.itoa u) vB wC) := HDB.out.over hbC
            have HKC : Hid (KO Q W1 wC) := HKB.out.trans (ko_below hbC)
            clear hbC HTx HDB HKB
            have HWC : Hid (Calls Tryz.prog 33 #[.pointer (some ⟨Q, 0, none⟩), .string ⟨(txB nn).toArray⟩] wC fun e w' => e = .returned (.tuple #[]) ∧ ∃ v', DST Bd w0 Q M om (Y ++ PR f a b c 3 ++ 32 :: Lib.itoa u ++ 32 :: txB nn) v' w' ∧ KO Q wC w') := HWo.out wC vB _ _ HDC.out (by have h7 := HBl.out; omega) (by have h9 := txB_len nn; rw [Lib.size_eq]; show (txB nn).length ≤ _; omega)
            go_wp2_with fail
            refine HWC.out.mono ?_
            rintro e wD ⟨rfl, vD, hDD, hKD⟩
            obtain ⟨wF, hwF⟩ : ∃ wF, wF = wD := ⟨_, rfl⟩
            subst hwF
            obtain ⟨vF, hvF0⟩ : ∃ vF, vF = vD := ⟨_, rfl⟩
            subst hvF0
            obtain ⟨Z, hZ⟩ : ∃ Z, Hid (Z = Y ++ PR f a b c 3 ++ 32 :: Lib.itoa u ++ 32 :: txB nn) := ⟨_, rfl⟩
            have HDF : Hid (DST Bd w0 Q M om Z vF wF) := by show DST Bd w0 Q M om Z vF wF; rw [hZ.out]; exact hDD
            have HKF : Hid (KO Q W1 wF) := HKC.out.trans hKD
            have HZl : Hid (Z.length ≤ 1000000001000) := by show _ ≤ _; have h7 := HY9.out; have h8 := Lib.itoa_length_le u (by omega) (by omega); have h9 := txB_len (nn : Int).toNat; rw [hZ.out]; simp only [List.length_append, List.length_cons] at *; simp only [Int.toNat_natCast] at h9; omega
            have HZP : Hid (∀ v' w', DST Bd w0 Q M om (Z ++ [10]) v' w' → KO Q W1 w' → PP (.returned (.tuple #[])) w') := fun v' w' h1 h2 => HPP.out v' w' (by
              have e : txt ++ ndT f (f t) ⟨(on : Int), u, a, b, c, (nn : Int), nm⟩ = Z ++ [10] := by
                rw [hZ.out, hY.out]
                unfold ndT PR
                rw [tail3 _ (show (on : Int) = 3 by omega)]
                simp
              rw [e]
              exact h1) (HK0.out.trans h2)
            clear hDD hKD HD9 HK9 HN1 HWC HDC HKC
            obtain ⟨aF, cF, hvF⟩ := HDF.out.form
            obtain ⟨g0, g1, g2, hQF⟩ := HDF.out.cell
            obtain ⟨zF, hzF⟩ : ∃ z, Z.length = z := ⟨_, rfl⟩
            rw [hzF] at hvF
            subst hvF
            have HRF : Hid (wF.ownsRow Bd 5 1 (.slice aF zF cF) zF (Lib.byteCells Z)) := by have h7 := HDF.out.row; rw [hzF] at h7; exact h7
            have hsF := HDF.out.sz
            have hzl : zF ≤ 1000000001000 := by have h7 := HZl.out; omega
            go_wp2_with (at_builtin; refine wpList_append_lies _ rfl _ _ 52 rfl Bd 5 i0 (.int .u8 0) 1 1 Tryz.underlying52 hi hz0 hz1 hz2 rfl (by decide) _ _ _ rfl (HRF.out.alloc _) ⟨wF.heap.size, 0, none⟩ 1 1 [.int .u8 10] rfl rfl (one_newD _ _ _) (by intro u hu; simp at hu; subst hu; rfl) (by omega) (by unfold maxLen; omega) (by omega) (by simp; omega) (wF.heap.size + 1) (by simp) ?_; intro gG capG wG hownG hgrowG hatG hltG; have HOG : Hid ((wG.cell? ⟨Q, 0, none⟩ = some (.slice aF zF cF) ∧ wG.frozen? ⟨Q, 0, none⟩ = false ∧ Q < wG.heap.size) ∧ PP (.returned (.tuple #[])) (wG.setCell ⟨Q, 0, none⟩ (.slice (some ⟨gG, 0, none⟩) (zF + 1) capG))) := (fun hh => ⟨hh.1, HZP.out _ _ hh.2 (ko_set (HKF.out.trans (ko_gr HRF.out hgrowG)))⟩) (HDF.out.text (txt' := Z ++ [10]) (v' := .slice (some ⟨gG, 0, none⟩) (zF + 1) capG) (below_gr hsF HRF.out hgrowG) (by rw [List.length_append, bc_app, hzF]; exact hownG)); clear hownG hgrowG hatG hltG; refine Hid.out ?_)
            refine Lib.hid ?_
            obtain ⟨⟨g5, g6, hQG⟩, hPG⟩ := HOG.out
            have HPG : Hid (PP (.returned (.tuple #[])) (wG.setCell ⟨Q, 0, none⟩ (.slice (some ⟨gG, 0, none⟩) (zF + 1) capG))) := hPG
            clear HOG hPG g0 g1 g2 HDF HKF HZP
            go_wp2_with fail
            first | exact HPG.out | (go_end0; exact HPG.out)
          by_cases c31 : on = 31
          · have s3 : ((on : Int) == 3) = false := beq_eq_false_iff_ne.2 (by omega)
            have s4 : ((on : Int) == 4) = false := beq_eq_false_iff_ne.2 (by omega)
            have s31 : ((on : Int) == 31) = true := beq_iff_eq.2 (by omega)
            have s32 : ((on : Int) == 32) = false := beq_eq_false_iff_ne.2 (by omega)
            have s33 : ((on : Int) == 33) = false := beq_eq_false_iff_ne.2 (by omega)
            have hnl : num ≤ 64 := hns (by omega)
            have HN1 : Hid (Calls Tryz.prog 34 #[.pointer (some ⟨Q, 0, none⟩), .int .i64 num] wr fun e w' => e = .returned (.tuple #[]) ∧ ∃ v', DST Bd w0 Q M om (Y ++ PR f a b c 3 ++ 32 :: Lib.itoa num) v' w' ∧ KO Q wr w') := HNu.out wr v9 _ _ HD9.out (by have h7 := HY9.out; omega) (by omega) (by omega)
            have hcv : IntKind.i64.wrap num = num := by
              simp [IntKind.wrap, IntKind.bits, IntKind.signed]
              omega
            go_wp2_with fail
            refine HN1.out.mono ?_
            rintro e wB ⟨rfl, vB, hDB, hKB⟩
            have HDB : Hid (DST Bd w0 Q M om (Y ++ PR f a b c 3 ++ 32 :: Lib.itoa num) vB wB) := hDB
            have HKB : Hid (KO Q W1 wB) := HK9.out.trans hKB
            have h8n := Lib.itoa_length_le num (by omega) (by omega)
            have HBl : Hid ((Y ++ PR f a b c 3 ++ 32 :: Lib.itoa num).length ≤ 1000000000500) := by show _ ≤ _; have h7 := HY9.out; rw [List.length_append, List.length_cons]; omega
            clear hDB hKB e1 e5
            have e1 : wB.cell? ⟨bx, 1, none⟩ = some (.int .i64 u) := blk_cell (HBK.out _ HKB.out) 1
            have HN2 : Hid (Calls Tryz.prog 34 #[.pointer (some ⟨Q, 0, none⟩), .int .i64 u] wB fun e w' => e = .returned (.tuple #[]) ∧ ∃ v', DST Bd w0 Q M om (Y ++ PR f a b c 3 ++ 32 :: Lib.itoa num ++ 32 :: Lib.itoa u) v' w' ∧ KO Q wB w') := HNu.out wB vB _ _ HDB.out (by have h7 := HBl.out; omega) (by omega) (by omega)
            go_wp2_with fail
            refine HN2.out.mono ?_
            rintro e wD ⟨rfl, vD, hDD, hKD⟩
            obtain ⟨wF, hwF⟩ : ∃ wF, wF = wD := ⟨_, rfl⟩
            subst hwF
            obtain ⟨vF, hvF0⟩ : ∃ vF, vF = vD := ⟨_, rfl⟩
            subst hvF0
            obtain ⟨Z, hZ⟩ : ∃ Z, Hid (Z = Y ++ PR f a b c 3 ++ 32 :: Lib.itoa num ++ 32 :: Lib.itoa u) := ⟨_, rfl⟩
            have HDF : Hid (DST Bd w0 Q M om Z vF wF) := by show DST Bd w0 Q M om Z vF wF; rw [hZ.out]; exact hDD
            have HKF : Hid (KO Q W1 wF) := HKB.out.trans hKD
            have HZl : Hid (Z.length ≤ 1000000001000) := by show _ ≤ _; have h7 := HY9.out; have h8 := Lib.itoa_length_le u (by omega) (by omega); have h9 := txB_len num.toNat; rw [hZ.out]; simp only [List.length_append, List.length_cons] at *; omega
            have HZP : Hid (∀ v' w', DST Bd w0 Q M om (Z ++ [10]) v' w' → KO Q W1 w' → PP (.returned (.tuple #[])) w') := fun v' w' h1 h2 => HPP.out v' w' (by
              have e : txt ++ ndT f (f t) ⟨(on : Int), u, a, b, c, num, nm⟩ = Z ++ [10] := by
                rw [hZ.out, hY.out]
                unfold ndT PR
                rw [tail31 _ (show (on : Int) = 31 by omega)]
                simp
              rw [e]
              exact h1) (HK0.out.trans h2)
            clear hDD hKD HD9 HK9 HN1 HN2 HDB HKB
            obtain ⟨aF, cF, hvF⟩ := HDF.out.form
            obtain ⟨g0, g1, g2, hQF⟩ := HDF.out.cell
            obtain ⟨zF, hzF⟩ : ∃ z, Z.length = z := ⟨_, rfl⟩
            rw [hzF] at hvF
            subst hvF
            have HRF : Hid (wF.ownsRow Bd 5 1 (.slice aF zF cF) zF (Lib.byteCells Z)) := by have h7 := HDF.out.row; rw [hzF] at h7; exact h7
            have hsF := HDF.out.sz
            have hzl : zF ≤ 1000000001000 := by have h7 := HZl.out; omega
            go_wp2_with (at_builtin; refine wpList_append_lies _ rfl _ _ 52 rfl Bd 5 i0 (.int .u8 0) 1 1 Tryz.underlying52 hi hz0 hz1 hz2 rfl (by decide) _ _ _ rfl (HRF.out.alloc _) ⟨wF.heap.size, 0, none⟩ 1 1 [.int .u8 10] rfl rfl (one_newD _ _ _) (by intro u hu; simp at hu; subst hu; rfl) (by omega) (by unfold maxLen; omega) (by omega) (by simp; omega) (wF.heap.size + 1) (by simp) ?_; intro gG capG wG hownG hgrowG hatG hltG; have HOG : Hid ((wG.cell? ⟨Q, 0, none⟩ = some (.slice aF zF cF) ∧ wG.frozen? ⟨Q, 0, none⟩ = false ∧ Q < wG.heap.size) ∧ PP (.returned (.tuple #[])) (wG.setCell ⟨Q, 0, none⟩ (.slice (some ⟨gG, 0, none⟩) (zF + 1) capG))) := (fun hh => ⟨hh.1, HZP.out _ _ hh.2 (ko_set (HKF.out.trans (ko_gr HRF.out hgrowG)))⟩) (HDF.out.text (txt' := Z ++ [10]) (v' := .slice (some ⟨gG, 0, none⟩) (zF + 1) capG) (below_gr hsF HRF.out hgrowG) (by rw [List.length_append, bc_app, hzF]; exact hownG)); clear hownG hgrowG hatG hltG; refine Hid.out ?_)
            refine Lib.hid ?_
            obtain ⟨⟨g5, g6, hQG⟩, hPG⟩ := HOG.out
            have HPG : Hid (PP (.returned (.tuple #[])) (wG.setCell ⟨Q, 0, none⟩ (.slice (some ⟨gG, 0, none⟩) (zF + 1) capG))) := hPG
            clear HOG hPG g0 g1 g2 HDF HKF HZP
            go_wp2_with fail
            first | exact HPG.out | (go_end0; exact HPG.out)
          by_cases c32 : on = 32
          · have s3 : ((on : Int) == 3) = false := beq_eq_false_iff_ne.2 (by omega)
            have s4 : ((on : Int) == 4) = false := beq_eq_false_iff_ne.2 (by omega)
            have s31 : ((on : Int) == 31) = false := beq_eq_false_iff_ne.2 (by omega)
            have s32 : ((on : Int) == 32) = true := beq_iff_eq.2 (by omega)
            have s33 : ((on : Int) == 33) = false := beq_eq_false_iff_ne.2 (by omega)
            have HN1 : Hid (Calls Tryz.prog 34 #[.pointer (some ⟨Q, 0, none⟩), .int .i64 u] wr fun e w' => e = .returned (.tuple #[]) ∧ ∃ v', DST Bd w0 Q M om (Y ++ PR f a b c 3 ++ 32 :: Lib.itoa u) v' w' ∧ KO Q wr w') := HNu.out wr v9 _ _ HD9.out (by have h7 := HY9.out; omega) (by omega) (by omega)
            go_wp2_with fail
            refine HN1.out.mono ?_
            rintro e wB ⟨rfl, vB, hDB, hKB⟩
            obtain ⟨wF, hwF⟩ : ∃ wF, wF = wB := ⟨_, rfl⟩
            subst hwF
            obtain ⟨vF, hvF0⟩ : ∃ vF, vF = vB := ⟨_, rfl⟩
            subst hvF0
            obtain ⟨Z, hZ⟩ : ∃ Z, Hid (Z = Y ++ PR f a b c 3 ++ 32 :: Lib.itoa u) := ⟨_, rfl⟩
            have HDF : Hid (DST Bd w0 Q M om Z vF wF) := by show DST Bd w0 Q M om Z vF wF; rw [hZ.out]; exact hDB
            have HKF : Hid (KO Q W1 wF) := HK9.out.trans hKB
            have HZl : Hid (Z.length ≤ 1000000001000) := by show _ ≤ _; have h7 := HY9.out; have h8 := Lib.itoa_length_le u (by omega) (by omega); have h9 := txB_len num.toNat; rw [hZ.out]; simp only [List.length_append, List.length_cons] at *; omega
            have HZP : Hid (∀ v' w', DST Bd w0 Q M om (Z ++ [10]) v' w' → KO Q W1 w' → PP (.returned (.tuple #[])) w') := fun v' w' h1 h2 => HPP.out v' w' (by
              have e : txt ++ ndT f (f t) ⟨(on : Int), u, a, b, c, num, nm⟩ = Z ++ [10] := by
                rw [hZ.out, hY.out]
                unfold ndT PR
                rw [tailW _ (show (on : Int) = 4 ∨ (on : Int) = 32 ∨ (on : Int) = 33 by omega)]
                simp
              rw [e]
              exact h1) (HK0.out.trans h2)
            clear hDB hKB HD9 HK9 HN1
            obtain ⟨aF, cF, hvF⟩ := HDF.out.form
            obtain ⟨g0, g1, g2, hQF⟩ := HDF.out.cell
            obtain ⟨zF, hzF⟩ : ∃ z, Z.length = z := ⟨_, rfl⟩
            rw [hzF] at hvF
            subst hvF
            have HRF : Hid (wF.ownsRow Bd 5 1 (.slice aF zF cF) zF (Lib.byteCells Z)) := by have h7 := HDF.out.row; rw [hzF] at h7; exact h7
            have hsF := HDF.out.sz
            have hzl : zF ≤ 1000000001000 := by have h7 := HZl.out; omega
            go_wp2_with (at_builtin; refine wpList_append_lies _ rfl _ _ 52 rfl Bd 5 i0 (.int .u8 0) 1 1 Tryz.underlying52 hi hz0 hz1 hz2 rfl (by decide) _ _ _ rfl (HRF.out.alloc _) ⟨wF.heap.size, 0, none⟩ 1 1 [.int .u8 10] rfl rfl (one_newD _ _ _) (by intro u hu; simp at hu; subst hu; rfl) (by omega) (by unfold maxLen; omega) (by omega) (by simp; omega) (wF.heap.size + 1) (by simp) ?_; intro gG capG wG hownG hgrowG hatG hltG; have HOG : Hid ((wG.cell? ⟨Q, 0, none⟩ = some (.slice aF zF cF) ∧ wG.frozen? ⟨Q, 0, none⟩ = false ∧ Q < wG.heap.size) ∧ PP (.returned (.tuple #[])) (wG.setCell ⟨Q, 0, none⟩ (.slice (some ⟨gG, 0, none⟩) (zF + 1) capG))) := (fun hh => ⟨hh.1, HZP.out _ _ hh.2 (ko_set (HKF.out.trans (ko_gr HRF.out hgrowG)))⟩) (HDF.out.text (txt' := Z ++ [10]) (v' := .slice (some ⟨gG, 0, none⟩) (zF + 1) capG) (below_gr hsF HRF.out hgrowG) (by rw [List.length_append, bc_app, hzF]; exact hownG)); clear hownG hgrowG hatG hltG; refine Hid.out ?_)
            refine Lib.hid ?_
            obtain ⟨⟨g5, g6, hQG⟩, hPG⟩ := HOG.out
            have HPG : Hid (PP (.returned (.tuple #[])) (wG.setCell ⟨Q, 0, none⟩ (.slice (some ⟨gG, 0, none⟩) (zF + 1) capG))) := hPG
            clear HOG hPG g0 g1 g2 HDF HKF HZP
            go_wp2_with fail
            first | exact HPG.out | (go_end0; exact HPG.out)
          by_cases c33 : on = 33
          · have s3 : ((on : Int) == 3) = false := beq_eq_false_iff_ne.2 (by omega)
            have s4 : ((on : Int) == 4) = false := beq_eq_false_iff_ne.2 (by omega)
            have s31 : ((on : Int) == 31) = false := beq_eq_false_iff_ne.2 (by omega)
            have s32 : ((on : Int) == 32) = false := beq_eq_false_iff_ne.2 (by omega)
            have s33 : ((on : Int) == 33) = true := beq_iff_eq.2 (by omega)
            have HN1 : Hid (Calls Tryz.prog 34 #[.pointer (some ⟨Q, 0, none⟩), .int .i64 u] wr fun e w' => e = .returned (.tuple #[]) ∧ ∃ v', DST Bd w0 Q M om (Y ++ PR f a b c 3 ++ 32 :: Lib.itoa u) v' w' ∧ KO Q wr w') := HNu.out wr v9 _ _ HD9.out (by have h7 := HY9.out; omega) (by omega) (by omega)
            go_wp2_with fail
            refine HN1.out.mono ?_
            rintro e wB ⟨rfl, vB, hDB, hKB⟩
            obtain ⟨wF, hwF⟩ : ∃ wF, wF = wB := ⟨_, rfl⟩
            subst hwF
            obtain ⟨vF, hvF0⟩ : ∃ vF, vF = vB := ⟨_, rfl⟩
            subst hvF0
            obtain ⟨Z, hZ⟩ : ∃ Z, Hid (Z = Y ++ PR f a b c 3 ++ 32 :: Lib.itoa u) := ⟨_, rfl⟩
            have HDF : Hid (DST Bd w0 Q M om Z vF wF) := by show DST Bd w0 Q M om Z vF wF; rw [hZ.out]; exact hDB
            have HKF : Hid (KO Q W1 wF) := HK9.out.trans hKB
            have HZl : Hid (Z.length ≤ 1000000001000) := by show _ ≤ _; have h7 := HY9.out; have h8 := Lib.itoa_length_le u (by omega) (by omega); have h9 := txB_len num.toNat; rw [hZ.out]; simp only [List.length_append, List.length_cons] at *; omega
            have HZP : Hid (∀ v' w', DST Bd w0 Q M om (Z ++ [10]) v' w' → KO Q W1 w' → PP (.returned (.tuple #[])) w') := fun v' w' h1 h2 => HPP.out v' w' (by
              have e : txt ++ ndT f (f t) ⟨(on : Int), u, a, b, c, num, nm⟩ = Z ++ [10] := by
                rw [hZ.out, hY.out]
                unfold ndT PR
                rw [tailW _ (show (on : Int) = 4 ∨ (on : Int) = 32 ∨ (on : Int) = 33 by omega)]
                simp
              rw [e]
              exact h1) (HK0.out.trans h2)
            clear hDB hKB HD9 HK9 HN1
            obtain ⟨aF, cF, hvF⟩ := HDF.out.form
            obtain ⟨g0, g1, g2, hQF⟩ := HDF.out.cell
            obtain ⟨zF, hzF⟩ : ∃ z, Z.length = z := ⟨_, rfl⟩
            rw [hzF] at hvF
            subst hvF
            have HRF : Hid (wF.ownsRow Bd 5 1 (.slice aF zF cF) zF (Lib.byteCells Z)) := by have h7 := HDF.out.row; rw [hzF] at h7; exact h7
            have hsF := HDF.out.sz
            have hzl : zF ≤ 1000000001000 := by have h7 := HZl.out; omega
            go_wp2_with (at_builtin; refine wpList_append_lies _ rfl _ _ 52 rfl Bd 5 i0 (.int .u8 0) 1 1 Tryz.underlying52 hi hz0 hz1 hz2 rfl (by decide) _ _ _ rfl (HRF.out.alloc _) ⟨wF.heap.size, 0, none⟩ 1 1 [.int .u8 10] rfl rfl (one_newD _ _ _) (by intro u hu; simp at hu; subst hu; rfl) (by omega) (by unfold maxLen; omega) (by omega) (by simp; omega) (wF.heap.size + 1) (by simp) ?_; intro gG capG wG hownG hgrowG hatG hltG; have HOG : Hid ((wG.cell? ⟨Q, 0, none⟩ = some (.slice aF zF cF) ∧ wG.frozen? ⟨Q, 0, none⟩ = false ∧ Q < wG.heap.size) ∧ PP (.returned (.tuple #[])) (wG.setCell ⟨Q, 0, none⟩ (.slice (some ⟨gG, 0, none⟩) (zF + 1) capG))) := (fun hh => ⟨hh.1, HZP.out _ _ hh.2 (ko_set (HKF.out.trans (ko_gr HRF.out hgrowG)))⟩) (HDF.out.text (txt' := Z ++ [10]) (v' := .slice (some ⟨gG, 0, none⟩) (zF + 1) capG) (below_gr hsF HRF.out hgrowG) (by rw [List.length_append, bc_app, hzF]; exact hownG)); clear hownG hgrowG hatG hltG; refine Hid.out ?_)
            refine Lib.hid ?_
            obtain ⟨⟨g5, g6, hQG⟩, hPG⟩ := HOG.out
            have HPG : Hid (PP (.returned (.tuple #[])) (wG.setCell ⟨Q, 0, none⟩ (.slice (some ⟨gG, 0, none⟩) (zF + 1) capG))) := hPG
            clear HOG hPG g0 g1 g2 HDF HKF HZP
            go_wp2_with fail
            first | exact HPG.out | (go_end0; exact HPG.out)
          have s3 : ((on : Int) == 3) = false := beq_eq_false_iff_ne.2 (by omega)
          have s4 : ((on : Int) == 4) = false := beq_eq_false_iff_ne.2 (by omega)
          have s31 : ((on : Int) == 31) = false := beq_eq_false_iff_ne.2 (by omega)
          have s32 : ((on : Int) == 32) = false := beq_eq_false_iff_ne.2 (by omega)
          have s33 : ((on : Int) == 33) = false := beq_eq_false_iff_ne.2 (by omega)
          obtain ⟨wF, hwF⟩ : ∃ wF, wF = wr := ⟨_, rfl⟩
          subst hwF
          obtain ⟨vF, hvF0⟩ : ∃ vF, vF = v9 := ⟨_, rfl⟩
          subst hvF0
          obtain ⟨Z, hZ⟩ : ∃ Z, Hid (Z = Y ++ PR f a b c 3) := ⟨_, rfl⟩
          have HDF : Hid (DST Bd w0 Q M om Z vF wF) := by show DST Bd w0 Q M om Z vF wF; rw [hZ.out]; exact HD9.out
          have HKF : Hid (KO Q W1 wF) := HK9.out
          have HZl : Hid (Z.length ≤ 1000000001000) := by show _ ≤ _; have h7 := HY9.out; have h8 := Lib.itoa_length_le u (by omega) (by omega); have h9 := txB_len num.toNat; rw [hZ.out]; simp only [List.length_append] at *; omega
          have HZP : Hid (∀ v' w', DST Bd w0 Q M om (Z ++ [10]) v' w' → KO Q W1 w' → PP (.returned (.tuple #[])) w') := fun v' w' h1 h2 => HPP.out v' w' (by
            have e : txt ++ ndT f (f t) ⟨(on : Int), u, a, b, c, num, nm⟩ = Z ++ [10] := by
              rw [hZ.out, hY.out]
              unfold ndT PR
              rw [tail0 _ (show (on : Int) ≠ 3 ∧ (on : Int) ≠ 4 ∧ (on : Int) ≠ 31 ∧ (on : Int) ≠ 32 ∧ (on : Int) ≠ 33 by omega)]
              simp
            rw [e]
            exact h1) (HK0.out.trans h2)
          clear HD9 HK9
          obtain ⟨aF, cF, hvF⟩ := HDF.out.form
          obtain ⟨g0, g1, g2, hQF⟩ := HDF.out.cell
          obtain ⟨zF, hzF⟩ : ∃ z, Z.length = z := ⟨_, rfl⟩
          rw [hzF] at hvF
          subst hvF
          have HRF : Hid (wF.ownsRow Bd 5 1 (.slice aF zF cF) zF (Lib.byteCells Z)) := by have h7 := HDF.out.row; rw [hzF] at h7; exact h7
          have hsF := HDF.out.sz
          have hzl : zF ≤ 1000000001000 := by have h7 := HZl.out; omega
          go_wp2_with (at_builtin; refine wpList_append_lies _ rfl _ _ 52 rfl Bd 5 i0 (.int .u8 0) 1 1 Tryz.underlying52 hi hz0 hz1 hz2 rfl (by decide) _ _ _ rfl (HRF.out.alloc _) ⟨wF.heap.size, 0, none⟩ 1 1 [.int .u8 10] rfl rfl (one_newD _ _ _) (by intro u hu; simp at hu; subst hu; rfl) (by omega) (by unfold maxLen; omega) (by omega) (by simp; omega) (wF.heap.size + 1) (by simp) ?_; intro gG capG wG hownG hgrowG hatG hltG; have HOG : Hid ((wG.cell? ⟨Q, 0, none⟩ = some (.slice aF zF cF) ∧ wG.frozen? ⟨Q, 0, none⟩ = false ∧ Q < wG.heap.size) ∧ PP (.returned (.tuple #[])) (wG.setCell ⟨Q, 0, none⟩ (.slice (some ⟨gG, 0, none⟩) (zF + 1) capG))) := (fun hh => ⟨hh.1, HZP.out _ _ hh.2 (ko_set (HKF.out.trans (ko_gr HRF.out hgrowG)))⟩) (HDF.out.text (txt' := Z ++ [10]) (v' := .slice (some ⟨gG, 0, none⟩) (zF + 1) capG) (below_gr hsF HRF.out hgrowG) (by rw [List.length_append, bc_app, hzF]; exact hownG)); clear hownG hgrowG hatG hltG; refine Hid.out ?_)
          refine Lib.hid ?_
          obtain ⟨⟨g5, g6, hQG⟩, hPG⟩ := HOG.out
          have HPG : Hid (PP (.returned (.tuple #[])) (wG.setCell ⟨Q, 0, none⟩ (.slice (some ⟨gG, 0, none⟩) (zF + 1) capG))) := hPG
          clear HOG hPG g0 g1 g2 HDF HKF HZP
          go_wp2_with fail
          first | exact HPG.out | (go_end0; exact HPG.out)
end Go.Proofs.YtobgedjpghokcaaGreatDoor
