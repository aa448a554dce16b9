import Derived.Test.YtekdmdnnpcjaoaaAgZb
namespace Go.Proofs.Ytekdmdnnpcjaoaa
open Go.ChangeShapes Go.WideShapes Go.ChangeAt Go.RowKit Go.Lib Go.Ag Go.WideMaps Go.Maps Go.ChangeMaps Go.Cn

/-- a work under way: the graph's nodes are now ns; all else as at w0 -/
structure WS (w0 : World) (B R : Nat) (vb0 vg0 : Value) (M0 : Option Nat) (Wb : Nat) (bf : Int) (ns : Nds) (w : World) : Prop where
  gr : ∃ nb vb vg M D, GM w B R ns nb vb vg M D ∧ GK w0 R vb0 vg0 M0 w vb vg M ∧ ¬ ownG R vb vg M Wb
  wb : w.heap[Wb]? = some (.cells #[.pointer (some ⟨R, 0, none⟩), .int .i64 bf, .bool false] 98 (0, 0))
  hB : B ≤ w.heap.size
/-- what a call that makes leaves -/
def GP (w0 : World) (B R : Nat) (vb0 vg0 : Value) (M0 : Option Nat) (ns : Nds) (w : World) : Prop := ∃ nb vb vg M D, GM w B R ns nb vb vg M D ∧ GK w0 R vb0 vg0 M0 w vb vg M
theorem WS.gp {w0 : World} {B R : Nat} {vb0 vg0 : Value} {M0 : Option Nat} {Wb : Nat} {bf : Int} {ns : Nds} {w : World} (h : WS w0 B R vb0 vg0 M0 Wb bf ns w) : GP w0 B R vb0 vg0 M0 ns w := by
  obtain ⟨nb, vb, vg, M, D, h1, h2, _⟩ := h.gr
  exact ⟨nb, vb, vg, M, D, h1, h2⟩
theorem WS.over {w0 : World} {B R : Nat} {vb0 vg0 : Value} {M0 : Option Nat} {Wb : Nat} {bf : Int} {ns : Nds} {w w' : World} (h : WS w0 B R vb0 vg0 M0 Wb bf ns w) (hb : Below w.heap.size w w') : WS w0 B R vb0 vg0 M0 Wb bf ns w' := by
  obtain ⟨nb, vb, vg, M, D, h1, h2, h3⟩ := h.gr
  exact ⟨⟨nb, vb, vg, M, D, h1.over hb, h2.trans (GK.below hb), h3⟩, (hb.block Wb (Array.getElem?_eq_some_iff.1 h.wb).1).trans h.wb, Nat.le_trans h.hB hb.size⟩
theorem WS.and {w0 : World} {B R : Nat} {vb0 vg0 : Value} {M0 : Option Nat} {Wb : Nat} {bf : Int} {ns : Nds} {w : World} (h : WS w0 B R vb0 vg0 M0 Wb bf ns w) (a b : Nat) (ha : a / 2 ≤ ns.length) (hb : b / 2 ≤ ns.length) (hl : ns.length < 1073741823) :
    Calls Try.prog 34 #[.pointer (some ⟨Wb, 0, none⟩), .int .u32 (a : Int), .int .u32 (b : Int)] w fun e w' => ∃ l ns', e = .returned (.int .u32 ((l : Nat) : Int)) ∧ andN ns a b = some (l, ns') ∧ WS w0 B R vb0 vg0 M0 Wb bf ns' w' := by
  obtain ⟨nb, vb, vg, M, D, h1, h2, h3⟩ := h.gr
  refine (and_any w h1 h.hB Wb bf h.wb a b ha hb hl).mono ?_
  rintro e w4 ⟨p, ns1, nb1, vb1, vg1, M1, D1, rfl, hn4, hg4, hk4⟩
  have hwb := (Array.getElem?_eq_some_iff.1 h.wb).1
  refine ⟨p, ns1, rfl, hn4, ⟨nb1, vb1, vg1, M1, D1, hg4, h2.trans hk4, fun e => ?_⟩, (hk4.kp Wb hwb h3).trans h.wb, Nat.le_trans h.hB hk4.size⟩
  rcases hk4.fr Wb e with e2 | e2
  · exact h3 e2
  · omega
def orN (ns : Nds) (a b : Nat) : Option (Nat × Nds) := (andN ns (notN a) (notN b)).map fun x => (notN x.1, x.2)
theorem orN_some {ns ns' : Nds} {a b l : Nat} (h : andN ns (notN a) (notN b) = some (l, ns')) : orN ns a b = some (notN l, ns') := by
  unfold orN
  rw [h]
  rfl
theorem orN_le {ns ns' : Nds} {a b l : Nat} (h : orN ns a b = some (l, ns')) (ha : a / 2 ≤ ns.length) (hb : b / 2 ≤ ns.length) : l / 2 ≤ ns'.length ∧ ns.length ≤ ns'.length ∧ ns'.length ≤ ns.length + 1 := by
  unfold orN at h
  cases h2 : andN ns (notN a) (notN b) with
  | none => rw [h2] at h; cases h
  | some x =>
    rw [h2] at h
    have h3 := andN_le (l := x.1) (ns' := x.2) h2 (by rw [not_half]; exact ha) (by rw [not_half]; exact hb)
    have h4 : some (notN x.1, x.2) = some (l, ns') := h
    cases h4
    rw [not_half]
    exact h3
set_option maxHeartbeats 2000000 in
theorem WS.or {w0 : World} {B R : Nat} {vb0 vg0 : Value} {M0 : Option Nat} {Wb : Nat} {bf : Int} {ns : Nds} {w : World} (h : WS w0 B R vb0 vg0 M0 Wb bf ns w) (a b : Nat) (ha : a / 2 ≤ ns.length) (hb : b / 2 ≤ ns.length) (hl : ns.length < 1073741823) :
    Calls Try.prog 40 #[.pointer (some ⟨Wb, 0, none⟩), .int .u32 (a : Int), .int .u32 (b : Int)] w fun e w' => ∃ l ns', e = .returned (.int .u32 ((l : Nat) : Int)) ∧ orN ns a b = some (l, ns') ∧ WS w0 B R vb0 vg0 M0 Wb bf ns' w' := by
  generalize hPP : (fun (e : Ending) (w' : World) => ∃ l ns', e = .returned (.int .u32 ((l : Nat) : Int)) ∧ orN ns a b = some (l, ns') ∧ WS w0 B R vb0 vg0 M0 Wb bf ns' w') = PP
  have HA : Hid (Calls Try.prog 34 #[.pointer (some ⟨Wb, 0, none⟩), .int .u32 (notN a : Int), .int .u32 (notN b : Int)] w fun e w' => ∃ l ns', e = .returned (.int .u32 ((l : Nat) : Int)) ∧ andN ns (notN a) (notN b) = some (l, ns') ∧ WS w0 B R vb0 vg0 M0 Wb bf ns' w') := h.and (notN a) (notN b) (by rw [not_half]; exact ha) (by rw [not_half]; exact hb) hl
  clear h
  go_enter Try.func40, Try.ntmps40
  go_wp2_with fail
  refine (not_any a (by omega) w).mono ?_
  rintro e wn ⟨rfl, hwn⟩; subst wn
  go_wp2_with fail
  refine (not_any b (by omega) w).mono ?_
  rintro e wn ⟨rfl, hwn⟩; subst wn
  go_wp2_with fail
  refine HA.out.mono ?_
  rintro e w4 ⟨l, ns', rfl, hn4, hs4⟩
  have hle := andN_le hn4 (by rw [not_half]; exact ha) (by rw [not_half]; exact hb)
  have HP : Hid (PP (.returned (.int .u32 ((notN l : Nat) : Int))) w4) := by
    rw [← hPP]
    exact ⟨notN l, ns', rfl, orN_some hn4, hs4⟩
  clear hn4 hs4
  go_wp2_with fail
  refine (not_any l (by omega) w4).mono ?_
  rintro e wn ⟨rfl, hwn⟩; subst wn
  go_wp2_with fail
  first | exact HP.out | (go_ret; exact HP.out)
theorem WS.end {w0 : World} {B R : Nat} {vb0 vg0 : Value} {M0 : Option Nat} {Wb : Nat} {bf : Int} {ns : Nds} {w : World} (h : WS w0 B R vb0 vg0 M0 Wb bf ns w) (l : Nat) :
    Calls Try.prog 36 #[.pointer (some ⟨Wb, 0, none⟩), .int .u32 (l : Int)] w fun e w' => e = .returned (.tuple #[.int .u32 (l : Int), .int .i64 0]) ∧ w' = w := end_any w R Wb bf l h.wb
theorem WS.start {w0 w : World} {B R : Nat} {ns : Nds} {nb : Nat} {vb vg : Value} {M : Option Nat} {D : DataW Unit} (h : GM w0 B R ns nb vb vg M D) (hB : B ≤ w0.heap.size) (hb : Below w0.heap.size w0 w) :
    Calls Try.prog 30 #[.pointer (some ⟨R, 0, none⟩)] w fun e w' => e = .returned (.pointer (some ⟨w.heap.size, 0, none⟩)) ∧ WS w0 B R vb vg M w.heap.size (ns.length : Int) ns w' ∧ Below w.heap.size w w' := by
  have h2 := h.over hb
  refine (begin_any w R ns.length (ag_cell h2.blk 0)).mono ?_
  rintro e w3 ⟨rfl, hw3⟩
  rw [hw3]
  have hb3 := (Below.refl w.heap.size w).alloc (Nat.le_refl _) (.cells #[.pointer (some ⟨R, 0, none⟩), .int .i64 (ns.length : Int), .bool false] 98)
  exact ⟨rfl, ⟨⟨nb, vb, vg, M, D, h2.over hb3, GK.below (ag_next hb hb3), fun e => Nat.lt_irrefl _ (h2.own_lt e)⟩, heap_alloc_new _ _, Nat.le_trans hB (Nat.le_trans hb.size hb3.size)⟩, hb3⟩
theorem refusal_row (w : World) {B R : Nat} {ns : Nds} {nb : Nat} {vb vg : Value} {M : Option Nat} {D : DataW Unit} (h : GM w B R ns nb vb vg M D) (ad : Option Addr) (ls : List Nat) (cp : Nat) (hl : U32s w ad ls) (hbd : ∀ l ∈ ls, l / 2 ≤ ns.length) (hn : ls.length ≤ 1000000000000) :
    Calls Try.prog 24 #[.pointer (some ⟨R, 0, none⟩), .slice ad ls.length cp] w fun e w' => e = .returned (.int .i64 0) ∧ Below w.heap.size w w' :=
  (refusal_any w R ns.length (ag_cell h.blk 0) ad ls cp hl (fun l hm => by have h1 := hbd l hm; have h2 := h.len; omega) hn).mono (by
    rintro e w' ⟨rfl, d, rfl⟩
    have e0 : refE ns.length ls = 0 := by
      clear hl hn
      induction ls with
      | nil => rfl
      | cons x xs ih =>
        unfold refE
        rw [if_neg (by have := hbd x (by simp); omega)]
        exact ih (fun l hl => hbd l (by simp [hl]))
    rw [e0]
    exact ⟨rfl, rfl, rfl, rfl, Nat.le_refl _, fun _ _ => rfl⟩)
theorem u32_two (w : World) (a b : Nat) : U32s (w.alloc (.cells #[.int .u32 (a : Int), .int .u32 (b : Int)] 44)) (some ⟨w.heap.size, 0, none⟩) [a, b] := fun _ => ⟨w.heap.size, 0, rfl, by simp, fun j hj => by
  have hj2 : j < 2 := hj
  rw [ag_cell (heap_alloc_new w _)]
  match j, hj2 with
  | 0, _ => rfl
  | 1, _ => rfl⟩
theorem u32_three (w : World) (a b c : Nat) : U32s (w.alloc (.cells #[.int .u32 (a : Int), .int .u32 (b : Int), .int .u32 (c : Int)] 44)) (some ⟨w.heap.size, 0, none⟩) [a, b, c] := fun _ => ⟨w.heap.size, 0, rfl, by simp, fun j hj => by
  have hj2 : j < 3 := hj
  rw [ag_cell (heap_alloc_new w _)]
  match j, hj2 with
  | 0, _ => rfl
  | 1, _ => rfl
  | 2, _ => rfl⟩
set_option maxHeartbeats 4000000 in
set_option maxRecDepth 100000 in
theorem Or_any (w : World) {B R : Nat} {ns : Nds} {nb : Nat} {vb vg : Value} {M : Option Nat} {D : DataW Unit} (h : GM w B R ns nb vb vg M D) (hB : B ≤ w.heap.size) (a b : Nat) (ha : a / 2 ≤ ns.length) (hb : b / 2 ≤ ns.length) (hl : ns.length < 1073741823) :
    Calls Try.prog 21 #[.pointer (some ⟨R, 0, none⟩), .int .u32 (a : Int), .int .u32 (b : Int)] w fun e w' => ∃ l ns', e = .returned (.tuple #[.int .u32 ((l : Nat) : Int), .int .i64 0]) ∧ orN ns a b = some (l, ns') ∧ GP w B R vb vg M ns' w' := by
  generalize hPP : (fun (e : Ending) (w' : World) => ∃ l ns', e = .returned (.tuple #[.int .u32 ((l : Nat) : Int), .int .i64 0]) ∧ orN ns a b = some (l, ns') ∧ GP w B R vb vg M ns' w') = PP
  have HH : Hid (GM w B R ns nb vb vg M D) := h
  have HRF : Hid (Calls Try.prog 24 #[.pointer (some ⟨R, 0, none⟩), .slice (some ⟨w.heap.size, 0, none⟩) 2 2] (w.alloc (.cells #[.int .u32 (a : Int), .int .u32 (b : Int)] 44)) fun e w' => e = .returned (.int .i64 0) ∧ Below w.heap.size w w') :=
    (refusal_row (w.alloc (.cells #[.int .u32 (a : Int), .int .u32 (b : Int)] 44)) (h.over (ag_bel1 _ _)) (some ⟨w.heap.size, 0, none⟩) [a, b] 2 (u32_two w a b) (by intro l hl; simp at hl; rcases hl with rfl | rfl <;> assumption) (by simp)).mono (by
      rintro e w' ⟨rfl, hb⟩
      exact ⟨rfl, ag_next (ag_bel1 _ _) hb⟩)
  clear h
  go_enter Try.func21, Try.ntmps21
  go_wp2_with fail
  refine HRF.out.mono ?_
  rintro e w2 ⟨rfl, hb2⟩
  go_wp2_with fail
  refine (WS.start HH.out hB hb2).mono ?_
  rintro e w3 ⟨rfl, hs3, -⟩
  clear HRF hb2
  generalize w2.heap.size = Wb at *
  go_wp2_with fail
  refine (hs3.or a b ha hb hl).mono ?_
  rintro e w4 ⟨l, ns', rfl, hn4, hs4⟩
  have HP : Hid (PP (.returned (.tuple #[.int .u32 (l : Int), .int .i64 0])) w4) := by
    rw [← hPP]
    exact ⟨l, ns', rfl, hn4, hs4.gp⟩
  go_wp2_with fail
  refine (hs4.end l).mono ?_
  rintro e w5 ⟨rfl, hw5⟩; subst w5
  clear hs3 hs4 hn4
  go_wp2_with fail
  first | exact HP.out | (go_ret2; exact HP.out)
/-- the document's mux -/
def muxN (ns : Nds) (c a b : Nat) : Option (Nat × Nds) := if a = b then some (a, ns) else (andN ns c a).bind fun x => (andN x.2 (notN c) b).bind fun y => orN y.2 x.1 y.1
set_option maxHeartbeats 4000000 in
set_option maxRecDepth 100000 in
theorem Mux_any (w : World) {B R : Nat} {ns : Nds} {nb : Nat} {vb vg : Value} {M : Option Nat} {D : DataW Unit} (h : GM w B R ns nb vb vg M D) (hB : B ≤ w.heap.size) (c a b : Nat) (hc : c / 2 ≤ ns.length) (ha : a / 2 ≤ ns.length) (hb : b / 2 ≤ ns.length) (hl : ns.length + 2 < 1073741823) :
    Calls Try.prog 22 #[.pointer (some ⟨R, 0, none⟩), .int .u32 (c : Int), .int .u32 (a : Int), .int .u32 (b : Int)] w fun e w' => ∃ l ns', e = .returned (.tuple #[.int .u32 ((l : Nat) : Int), .int .i64 0]) ∧ muxN ns c a b = some (l, ns') ∧ l / 2 ≤ ns'.length ∧ ns.length ≤ ns'.length ∧ ns'.length ≤ ns.length + 3 ∧ GP w B R vb vg M ns' w' := by
  generalize hPP : (fun (e : Ending) (w' : World) => ∃ l ns', e = .returned (.tuple #[.int .u32 ((l : Nat) : Int), .int .i64 0]) ∧ muxN ns c a b = some (l, ns') ∧ l / 2 ≤ ns'.length ∧ ns.length ≤ ns'.length ∧ ns'.length ≤ ns.length + 3 ∧ GP w B R vb vg M ns' w') = PP
  have HH : Hid (GM w B R ns nb vb vg M D) := h
  have HRF : Hid (Calls Try.prog 24 #[.pointer (some ⟨R, 0, none⟩), .slice (some ⟨w.heap.size, 0, none⟩) 3 3] (w.alloc (.cells #[.int .u32 (c : Int), .int .u32 (a : Int), .int .u32 (b : Int)] 44)) fun e w' => e = .returned (.int .i64 0) ∧ Below w.heap.size w w') :=
    (refusal_row (w.alloc (.cells #[.int .u32 (c : Int), .int .u32 (a : Int), .int .u32 (b : Int)] 44)) (h.over (ag_bel1 _ _)) (some ⟨w.heap.size, 0, none⟩) [c, a, b] 3 (u32_three w c a b) (by intro l hl; simp at hl; rcases hl with rfl | rfl | rfl <;> assumption) (by simp)).mono (by
      rintro e w' ⟨rfl, hb⟩
      exact ⟨rfl, ag_next (ag_bel1 _ _) hb⟩)
  clear h
  by_cases hab : a = b
  · subst hab
    go_enter Try.func22, Try.ntmps22
    go_wp2_with fail
    refine HRF.out.mono ?_
    rintro e w2 ⟨rfl, hb2⟩
    have HP : Hid (PP (.returned (.tuple #[.int .u32 (a : Int), .int .i64 0])) w2) := by
      rw [← hPP]
      exact ⟨a, ns, rfl, by unfold muxN; rw [if_pos rfl], ha, Nat.le_refl _, by omega, nb, vb, vg, M, D, HH.out.over hb2, GK.below hb2⟩
    clear hb2
    go_wp2_with fail
    first | exact HP.out | (go_ret2; exact HP.out)
  · have q1 : ((a : Int) == (b : Int)) = false := by simp; omega
    go_enter Try.func22, Try.ntmps22
    go_wp2_with fail
    refine HRF.out.mono ?_
    rintro e w2 ⟨rfl, hb2⟩
    go_wp2_with fail
    refine (WS.start HH.out hB hb2).mono ?_
    rintro e w3 ⟨rfl, hs3, -⟩
    clear HRF hb2
    generalize w2.heap.size = Wb at *
    go_wp2_with fail
    refine (hs3.and c a hc ha (by omega)).mono ?_
    rintro e w4 ⟨p, ns1, rfl, hn4, hs4⟩
    have hle4 := andN_le hn4 hc ha
    go_wp2_with fail
    refine (not_any c (by have := HH.out.len; omega) w4).mono ?_
    rintro e wn ⟨rfl, hwn⟩; subst wn
    have hnc := not_half c
    go_wp2_with fail
    refine (hs4.and (notN c) b (by omega) (by omega) (by omega)).mono ?_
    rintro e w5 ⟨q, ns2, rfl, hn5, hs5⟩
    have hle5 := andN_le hn5 (by omega) (by omega)
    go_wp2_with fail
    refine (hs5.or p q (by omega) (by omega) (by omega)).mono ?_
    rintro e w6 ⟨l, ns3, rfl, hn6, hs6⟩
    have hle6 := orN_le hn6 (by omega) (by omega)
    have HP : Hid (PP (.returned (.tuple #[.int .u32 (l : Int), .int .i64 0])) w6) := by
      rw [← hPP]
      refine ⟨l, ns3, rfl, ?_, hle6.1, by omega, by omega, hs6.gp⟩
      unfold muxN
      rw [if_neg hab, hn4]
      show (andN ns1 (notN c) b).bind _ = _
      rw [hn5]
      exact hn6
    go_wp2_with fail
    refine (hs6.end l).mono ?_
    rintro e w7 ⟨rfl, hw7⟩; subst w7
    clear hs3 hs4 hn4 hs5 hn5 hs6 hn6 hle4 hle5 hle6
    go_wp2_with fail
    first | exact HP.out | (go_ret2; exact HP.out)
/-- the document's all -/
def allN (ns : Nds) (x : Nat) : List Nat → Option (Nat × Nds)
  | [] => some (x, ns)
  | y :: ys => (andN ns x y).bind fun z => allN z.2 z.1 ys
theorem allN_snoc : ∀ (ys : List Nat) (ns : Nds) (x y : Nat), allN ns x (ys ++ [y]) = (allN ns x ys).bind fun z => andN z.2 z.1 y
  | [], ns, x, y => by
    show (andN ns x y).bind _ = andN ns x y
    cases andN ns x y <;> rfl
  | z :: ys, ns, x, y => by
    show (andN ns x z).bind _ = ((andN ns x z).bind _).bind _
    cases andN ns x z with
    | none => rfl
    | some v => exact allN_snoc ys v.2 v.1 y
set_option maxHeartbeats 4000000 in
set_option maxRecDepth 100000 in
theorem All_any (w : World) {B R : Nat} {ns : Nds} {nb : Nat} {vb vg : Value} {M : Option Nat} {D : DataW Unit} (h : GM w B R ns nb vb vg M D) (hB : B ≤ w.heap.size) (ad : Option Addr) (ls : List Nat) (cp : Nat) (hu : U32s w ad ls) (hbd : ∀ l ∈ ls, l / 2 ≤ ns.length) (hl : ns.length + ls.length < 1073741823) (hown : ∀ b off, ad = some ⟨b, off, none⟩ → ¬ ownG R vb vg M b) :
    Calls Try.prog 23 #[.pointer (some ⟨R, 0, none⟩), .slice ad ls.length cp] w fun e w' => ∃ l ns', e = .returned (.tuple #[.int .u32 ((l : Nat) : Int), .int .i64 0]) ∧ allN ns 1 ls = some (l, ns') ∧ l / 2 ≤ ns'.length ∧ ns.length ≤ ns'.length ∧ ns'.length ≤ ns.length + ls.length ∧ GP w B R vb vg M ns' w' := by
  generalize hPP : (fun (e : Ending) (w' : World) => ∃ l ns', e = .returned (.tuple #[.int .u32 ((l : Nat) : Int), .int .i64 0]) ∧ allN ns 1 ls = some (l, ns') ∧ l / 2 ≤ ns'.length ∧ ns.length ≤ ns'.length ∧ ns'.length ≤ ns.length + ls.length ∧ GP w B R vb vg M ns' w') = PP
  have HP : Hid (∀ l ns' w', allN ns 1 ls = some (l, ns') → l / 2 ≤ ns'.length → ns.length ≤ ns'.length → ns'.length ≤ ns.length + ls.length → GP w B R vb vg M ns' w' → PP (.returned (.tuple #[.int .u32 ((l : Nat) : Int), .int .i64 0])) w') := fun l ns' w' h1 h2 h3 h4 h5 => by rw [← hPP]; exact ⟨l, ns', rfl, h1, h2, h3, h4, h5⟩
  have HH : Hid (GM w B R ns nb vb vg M D) := h
  have HRF : Hid (Calls Try.prog 24 #[.pointer (some ⟨R, 0, none⟩), .slice ad ls.length cp] w fun e w' => e = .returned (.int .i64 0) ∧ Below w.heap.size w w') := refusal_row w h ad ls cp hu hbd (by omega)
  have HU : Aside (U32s w ad ls) := hu
  have HBd : Aside (∀ l ∈ ls, l / 2 ≤ ns.length) := hbd
  have HOw : Aside (∀ b off, ad = some ⟨b, off, none⟩ → ¬ ownG R vb vg M b) := hown
  clear h hu hbd hown hPP
  generalize hnn : ls.length = n at *
  have HL : Aside (ls.length = n) := hnn
  clear hnn
  go_enter Try.func23, Try.ntmps23
  go_wp2_with fail
  refine HRF.out.mono ?_
  rintro e w2 ⟨rfl, hb2⟩
  go_wp2_with fail
  refine (WS.start HH.out hB hb2).mono ?_
  rintro e w3 ⟨rfl, hs3, hb3⟩
  have HS3 : Hid (WS w B R vb vg M w2.heap.size (ns.length : Int) ns w3) := hs3
  clear HRF hb2 hs3 hb3
  generalize w2.heap.size = Wb at *
  go_wp2_with fail
  go_loopg [8, 21] n (fun gk v8 v21 wr => ∃ (k x : Nat) (ns1 : Nds), v8 = .int .u32 (x : Int) ∧ v21 = .int .i64 (k : Int) ∧ k + gk = n ∧ x / 2 ≤ ns1.length ∧ ns.length ≤ ns1.length ∧ ns1.length ≤ ns.length + k ∧ Aside (allN ns 1 (ls.take k) = some (x, ns1)) ∧ Aside (WS w B R vb vg M Wb (ns.length : Int) ns1 wr))
  case atStart => exact ⟨0, 1, ns, rfl, rfl, by omega, by omega, Nat.le_refl _, by omega, by rw [List.take_zero]; rfl, HS3.out⟩
  case round =>
    clear HS3
    obtain ⟨k, x, ns1, rfl, rfl, hk, hx1, hx2, hx3, HA, HS⟩ := hrel
    by_cases hlt : k < n
    · have q1 : (k : Int) < (n : Int) := by omega
      obtain ⟨b, off, rfl, hbb, hcc⟩ := HU.out (by rw [HL.out]; omega)
      have ck : wr.cell? ⟨b, off + k, none⟩ = some (.int .u32 ((ls.getD k 0 : Nat) : Int)) := by
        obtain ⟨_, _, _, _, _, _, h2, _⟩ := HS.out.gr
        rw [World.cell?_of_block (w := w) (a := ⟨b, off + k, none⟩) (h2.kp b hbb (HOw.out b off rfl))]
        exact hcc k (by rw [HL.out]; exact hlt)
      have hmem : ls.getD k 0 ∈ ls := by rw [List.getD_eq_getElem?_getD, List.getElem?_eq_getElem (by rw [HL.out]; exact hlt)]; exact List.getElem_mem _
      have hy : ls.getD k 0 / 2 ≤ ns.length := HBd.out _ hmem
      have HT : Hid (allN ns 1 (ls.take (k + 1)) = andN ns1 x (ls.getD k 0)) := by
        show _ = _
        rw [List.take_succ_eq_append_getElem (by rw [HL.out]; exact hlt), allN_snoc, HA.out, List.getD_eq_getElem?_getD, List.getElem?_eq_getElem (by rw [HL.out]; exact hlt)]
        rfl
      clear hcc hmem HA
      generalize ls.getD k 0 = y at *
      go_wp2_with fail
      refine (HS.out.and x y hx1 (by omega) (by omega)).mono ?_
      rintro e w4 ⟨l, ns2, rfl, hn4, hs4⟩
      have hle := andN_le hn4 hx1 (by omega)
      have HS4 : Hid (WS w B R vb vg M Wb (ns.length : Int) ns2 w4) := hs4
      have HT4 : Hid (allN ns 1 (ls.take (k + 1)) = some (l, ns2)) := HT.out.trans hn4
      clear hs4 hn4 HT HS ck
      go_wp2_with fail
      go_roundg (n - (k + 1))
      case measure => omega
      case rel => exact ⟨k + 1, l, ns2, rfl, by simp, by omega, hle.1, by omega, by omega, HT4.out, HS4.out⟩
    · obtain rfl : k = n := by omega
      have q1 : ¬ (k : Int) < (k : Int) := by omega
      have HZ : Hid (PP (.returned (.tuple #[.int .u32 (x : Int), .int .i64 0])) wr) := HP.out x ns1 wr (by have h7 := HA.out; rw [List.take_of_length_le (by rw [HL.out]; exact Nat.le_refl _)] at h7; exact h7) hx1 hx2 hx3 HS.out.gp
      go_wp2_with fail
      refine (HS.out.end x).mono ?_
      rintro e w7 ⟨rfl, hw7⟩; subst w7
      clear HS HA HP
      go_wp2_with fail
      first | exact HZ.out | (go_ret2; exact HZ.out)
end Go.Proofs.Ytekdmdnnpcjaoaa
