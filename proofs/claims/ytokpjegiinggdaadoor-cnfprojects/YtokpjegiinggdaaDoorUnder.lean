import Derived.Test.YtokpjegiinggdaaDoorVal2
import Derived.Test.YtokpjegiinggdaaDoorRChk
import Derived.Test.YtokpjegiinggdaaDoorLive
namespace Go.Proofs.YtokpjegiinggdaaDoor
open Go.ChangeShapes Go.WideShapes Go.ChangeAt Go.RowKit Go.Cn

theorem ret_un {R : Int × Int × Int} {a b c : Int} (h : R = (a, b, c)) : Ending.returned (.tuple #[.int .i8 a, .int .i64 b, .int .i64 c]) = .returned (.tuple #[.int .i8 R.1, .int .i64 R.2.1, .int .i64 R.2.2]) := by rw [h]
theorem Cls.drewN {w : World} {ad : Option Addr} {cs : List (List Int)} (h : Cls w ad cs) (n : Nat) : Cls (w.drewN n) ad cs := h
set_option maxHeartbeats 4000000 in
set_option maxRecDepth 100000 in
theorem under_any (vars : Int) (ad bd : Option Addr) (cs : List (List Int)) (ms : List Int) (c d : Nat) (w : World) (h : Cls w ad cs) (h2 : I8 w bd ms) (hl : cs.length ≤ 1000000000000000000) (hcl : ∀ j, j < cs.length → (cs.getD j []).length ≤ 1000000000000000000) (hl2 : ms.length ≤ 1000000000000000000) :
    Calls Tryd.prog 15 #[.agg #[.int .i64 vars, .slice ad cs.length c], .slice bd ms.length d] w fun e w' => e = .returned (.tuple #[.int .i8 (un vars cs ms).1, .int .i64 (un vars cs ms).2.1, .int .i64 (un vars cs ms).2.2]) ∧ Below w.heap.size w w' := by
  have HB0 : Aside (∀ o, Below w.heap.size w (w.alloc o)) := fun o => (Below.refl _ _).alloc (Nat.le_refl _) o
  have HC : Hid (∀ W, Below w.heap.size w W → Calls Tryd.prog 22 #[.agg #[.int .i64 vars, .slice ad cs.length c]] W fun e w' => e = .returned (.tuple #[.int .i64 (ck vars cs).1, .int .i64 (ck vars cs).2]) ∧ Below W.heap.size W w') := fun W hW => check_any vars ad cs c W (h.below hW) hl hcl
  have HI : Hid (Cls w ad cs) := h
  have HM : Hid (I8 w bd ms) := h2
  have HCl : Hid (∀ j, j < cs.length → (cs.getD j []).length ≤ 1000000000000000000) := hcl
  have HV : Hid (∀ W aj k cj, Ints W aj (cs.getD k []) → I8 W bd ms → k < cs.length → Calls Tryd.prog 35 #[.slice aj (cs.getD k []).length cj, .slice bd ms.length d] W fun e w' => e = .returned (.int .i8 (val ms (cs.getD k []))) ∧ w' = W) := fun W aj k cj hi hm hk => value_any aj bd (cs.getD k []) ms cj d W hi hm (hcl k hk) hl2
  clear h h2 hcl
  by_cases h0 : (ck vars cs).2 = 0
  · have HU : Aside (un vars cs ms = ((uGo ms (cs.drop 0) 0 1 cs.length).1, ((uGo ms (cs.drop 0) 0 1 cs.length).2 : Int), 0)) := by show un vars cs ms = _; unfold un; rw [if_pos h0]; rfl
    generalize un vars cs ms = U at *
    have HC2 : Hid (∀ W, Below w.heap.size w W → Calls Tryd.prog 22 #[.agg #[.int .i64 vars, .slice ad cs.length c]] W fun e w' => e = .returned (.tuple #[.int .i64 (ck vars cs).1, .int .i64 0]) ∧ Below W.heap.size W w') := by intro W hW; have := HC.out W hW; rw [h0] at this; exact this
    clear HC h0
    generalize (ck vars cs).1 = r1 at *
    have HT : Aside (∀ c, val ms c = -1 ∨ val ms c = 0 ∨ val ms c = 1) := val_three ms
    have HE : Aside (∀ k v p, cs.length ≤ k → uGo ms (cs.drop k) k v p = (v, p)) := fun k v p => uGo_end ms cs k k v p
    have HS : Aside (∀ k v p, k < cs.length → uGo ms (cs.drop k) k v p = if val ms (cs.getD k []) < v then uGo ms (cs.drop (k + 1)) (k + 1) (val ms (cs.getD k [])) k else uGo ms (cs.drop (k + 1)) (k + 1) v p) := fun k v p => uGo_step ms cs k v p
    generalize hV : val ms = V at *
    clear hV
    generalize hG : uGo ms = G at *
    clear hG
    generalize hn : cs.length = n at *
    have HL : Aside (cs.length = n) := hn
    clear hn
    generalize hq : ms.length = q at *
    clear hq
    go_enter Tryd.func15, Tryd.ntmps15
    go_wp2_with fail
    have y0 : (w.alloc (.cells #[.int .i64 vars, .slice ad n c] 24)).heap[w.heap.size]? = some (.cells #[.int .i64 vars, .slice ad n c] 24 (0, 0)) := heap_alloc_at _ _
    have HBa : Hid (Below w.heap.size w (w.alloc (.cells #[.int .i64 vars, .slice ad n c] 24))) := HB0.out _
    have HSa : Hid ((w.alloc (.cells #[.int .i64 vars, .slice ad n c] 24)).heap.size = w.heap.size + 1) := sz1 _ _
    generalize w.alloc (.cells #[.int .i64 vars, .slice ad n c] 24) = w1 at *
    refine (HC2.out w1 HBa.out).mono ?_
    rintro e w2 ⟨rfl, hb2⟩
    have HB2 : Hid (Below w.heap.size w w2) := below_next HBa.out hb2
    have y1 : w2.heap[w.heap.size]? = some (.cells #[.int .i64 vars, .slice ad n c] 24 (0, 0)) := (hb2.block _ (by have := HSa.out; omega)).trans y0
    have z0 : w2.cell? ⟨w.heap.size, 0, none⟩ = some (.int .i64 vars) := blk_cell y1 0
    have z1 : w2.cell? ⟨w.heap.size, 1, none⟩ = some (.slice ad n c) := blk_cell y1 1
    have HI2 : Hid (Cls w2 ad cs) := HI.out.below HB2.out
    have HM2 : Hid (I8 w2 bd ms) := HM.out.below HB2.out
    clear y0 y1 hb2 HSa HBa HI HM HB0 HC2
    go_wp2
    go_region
    go_wp2
    have HI3 : Hid (Cls w2.drew ad cs) := HI2.out
    have HM3 : Hid (I8 w2.drew bd ms) := HM2.out
    have HB3 : Hid (Below w.heap.size w w2.drew) := HB2.out.drew
    clear HI2 HM2 HB2 z0 z1
    generalize w2.drew = W3 at *
    go_loopg [9, 10, 28] n (fun gk s9 s10 s28 wr => ∃ (k p : Nat) (v : Int), s9 = .int .i8 v ∧ s10 = .int .i64 p ∧ s28 = .int .i64 k ∧ k + gk = n ∧ (v = -1 ∨ v = 0 ∨ v = 1) ∧ p ≤ n ∧ wr = W3 ∧ Aside (U = ((G (cs.drop k) k v p).1, ((G (cs.drop k) k v p).2 : Int), 0)))
    case atStart => exact ⟨0, n, 1, rfl, rfl, rfl, by omega, by omega, by omega, rfl, HU⟩
    case round =>
      obtain ⟨k, p, v, rfl, rfl, rfl, hk, hv, hp, rfl, HG⟩ := hrel
      by_cases hlt : k < n
      · obtain ⟨b, off, rfl, hb, hc⟩ := HI3.out (by rw [HL.out]; omega)
        obtain ⟨aj, cj, ck1, hij⟩ := hc k (by rw [HL.out]; omega)
        have HC : Hid (Calls Tryd.prog 35 #[.slice aj (cs.getD k []).length cj, .slice bd q d] wr fun e w' => e = .returned (.int .i8 (V (cs.getD k []))) ∧ w' = wr) := HV.out wr aj k cj hij HM3.out hlt
        have hx := HT.out (cs.getD k [])
        have HG2 : Aside _ := HS.out k v p hlt
        have hcl := HCl.out k hlt
        clear hc hij
        generalize cs.getD k [] = C at *
        generalize V C = x at *
        have q1 : (k : Int) < (n : Int) := by omega
        go_wp2_with fail
        refine HC.out.mono ?_
        rintro e w' ⟨rfl, hw⟩
        obtain rfl := hw.symm
        by_cases hxv : x < v
        · have HG3 : Aside (U = ((G (cs.drop (k + 1)) (k + 1) x k).1, ((G (cs.drop (k + 1)) (k + 1) x k).2 : Int), 0)) := by
            show U = _
            rw [HG.out, HG2.out, if_pos hxv]
          go_wp2
          go_roundg (gk - 1)
          case measure => omega
          case rel => exact ⟨k + 1, k, x, rfl, rfl, by first | rfl | simp, by omega, hx, by omega, rfl, HG3⟩
        · have HG3 : Aside (U = ((G (cs.drop (k + 1)) (k + 1) v p).1, ((G (cs.drop (k + 1)) (k + 1) v p).2 : Int), 0)) := by
            show U = _
            rw [HG.out, HG2.out, if_neg hxv]
          go_wp2
          go_roundg (gk - 1)
          case measure => omega
          case rel => exact ⟨k + 1, p, v, rfl, rfl, by first | rfl | simp, by omega, hv, by omega, rfl, HG3⟩
      · obtain rfl : k = n := by omega
        have HE2 : Aside (U = (v, (p : Int), 0)) := by
          show U = _
          rw [HG.out, HE.out k v p (Nat.le_refl _)]
        go_wp2
        go_ret3
        exact ⟨ret_un HE2.out, HB3.out⟩
  · have HU : Aside (un vars cs ms = (0, 0, (ck vars cs).2)) := by show un vars cs ms = _; unfold un; rw [if_neg h0]
    generalize un vars cs ms = U at *
    generalize (ck vars cs).1 = r1 at *
    generalize (ck vars cs).2 = r2 at *
    clear HV HI HM HCl
    generalize cs.length = n at *
    generalize ms.length = q at *
    go_enter Tryd.func15, Tryd.ntmps15
    go_wp2_with fail
    have HBa : Hid (Below w.heap.size w (w.alloc (.cells #[.int .i64 vars, .slice ad n c] 24))) := HB0.out _
    generalize w.alloc (.cells #[.int .i64 vars, .slice ad n c] 24) = w1 at *
    refine (HC.out w1 HBa.out).mono ?_
    rintro e w2 ⟨rfl, hb2⟩
    have HB2 : Hid (Below w.heap.size w w2) := below_next HBa.out hb2
    clear hb2
    have e1 : (r2 != 0) = true := by simpa using h0
    go_wp2
    go_ret3
    exact ⟨ret_un HU.out, HB2.out⟩
end Go.Proofs.YtokpjegiinggdaaDoor
