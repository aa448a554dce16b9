import Derived.Test.YtcmknjocmpdicaaDoorFmD
import Derived.Test.YtcmknjocmpdicaaDoorFmT
import Derived.Laws.Rows
import Derived.Deep.Cut
import Derived.Deep.DeepCutAuto
namespace Go.Proofs.YtcmknjocmpdicaaDoor
open Go.ChangeShapes Go.WideShapes Go.ChangeAt Go.RowKit Go.Bn

def eO0 : Oper := { dst := some 13, op := Op.fieldAddr 40 (Operand.tmp 1) 3, type := 0, pos := "print.go:28", after := #[], guard := none }
def eO1 : Oper := { dst := some 14, op := Op.load 38 (Operand.tmp 13), type := 38, pos := "print.go:28", after := #[{ on := 0, ground := Ground.data }], guard := none }
def eO2 : Oper := { dst := some 15, op := Op.call { callee := Callee.builtin Builtin.len, args := #[Operand.tmp 14], argTypes := #[38] }, type := 3, pos := "print.go:28", after := #[{ on := 1, ground := Ground.data }], guard := none }
def eO3 : Oper := { dst := some 16, op := Op.fieldAddr 40 (Operand.tmp 1) 0, type := 0, pos := "print.go:28", after := #[], guard := none }
def eO4 : Oper := { dst := some 17, op := Op.load 3 (Operand.tmp 16), type := 3, pos := "print.go:28", after := #[{ on := 3, ground := Ground.data }], guard := none }
def eO6 : Oper := { dst := some 19, op := Op.binOp BinOp.neq 3 (Operand.tmp 15) (Operand.tmp 18) 3, type := 4, pos := "print.go:28", after := #[{ on := 2, ground := Ground.data }, { on := 5, ground := Ground.data }], guard := none }
def eO7 : Oper := { dst := some 20, op := Op.move (Operand.tmp 19), type := 4, pos := "print.go:28", after := #[{ on := 6, ground := Ground.data }, { on := 5, ground := Ground.chain }], guard := none }
def eO8 : Oper := { dst := some 21, op := Op.move (Operand.tmp 3), type := 4, pos := "print.go:28", after := #[{ on := 7, ground := Ground.guard }], guard := some (7, false) }
def eO9 : Oper := { dst := some 22, op := Op.fieldAddr 40 (Operand.tmp 1) 2, type := 0, pos := "print.go:28", after := #[{ on := 7, ground := Ground.guard }], guard := some (7, false) }
def eO10 : Oper := { dst := some 23, op := Op.load 9 (Operand.tmp 22), type := 9, pos := "print.go:28", after := #[{ on := 9, ground := Ground.data }, { on := 7, ground := Ground.guard }], guard := some (7, false) }
def eO11 : Oper := { dst := some 24, op := Op.binOp BinOp.neq 9 (Operand.tmp 23) (Operand.const (Value.string { data := #[] })) 9, type := 4, pos := "print.go:28", after := #[{ on := 10, ground := Ground.data }, { on := 7, ground := Ground.guard }], guard := some (7, false) }
def eO12 : Oper := { dst := some 25, op := Op.binOp BinOp.neq 4 (Operand.tmp 21) (Operand.tmp 24) 4, type := 4, pos := "print.go:28", after := #[{ on := 8, ground := Ground.data }, { on := 11, ground := Ground.data }, { on := 7, ground := Ground.guard }], guard := some (7, false) }
def eO13 : Oper := { dst := some 26, op := Op.pick (Operand.tmp 20) (Operand.const (Value.bool true)) (Operand.tmp 25), type := 4, pos := "print.go:28", after := #[{ on := 7, ground := Ground.data }, { on := 12, ground := Ground.data }], guard := none }
def eO14 : Oper := { dst := some 27, op := Op.move (Operand.tmp 26), type := 4, pos := "print.go:28", after := #[{ on := 13, ground := Ground.data }, { on := 7, ground := Ground.chain }], guard := none }
def eO15 : Oper := { dst := some 28, op := Op.move (Operand.tmp 3), type := 4, pos := "print.go:28", after := #[{ on := 14, ground := Ground.guard }], guard := some (14, false) }
def eO16 : Oper := { dst := some 29, op := Op.move (Operand.tmp 28), type := 4, pos := "print.go:28", after := #[{ on := 15, ground := Ground.data }, { on := 14, ground := Ground.chain }, { on := 14, ground := Ground.guard }], guard := some (14, false) }
def eO17 : Oper := { dst := some 30, op := Op.fieldAddr 40 (Operand.tmp 1) 2, type := 0, pos := "print.go:28", after := #[{ on := 16, ground := Ground.guard }], guard := some (16, true) }
def eO18 : Oper := { dst := some 31, op := Op.load 9 (Operand.tmp 30), type := 9, pos := "print.go:28", after := #[{ on := 17, ground := Ground.data }, { on := 16, ground := Ground.guard }], guard := some (16, true) }
def eO19 : Oper := { dst := some 32, op := Op.call { callee := Callee.value (Operand.func 9), args := #[Operand.tmp 31], argTypes := #[9] }, type := 4, pos := "print.go:28", after := #[{ on := 18, ground := Ground.data }, { on := 16, ground := Ground.chain }, { on := 16, ground := Ground.guard }], guard := some (16, true) }
def eO20 : Oper := { dst := some 33, op := Op.unOp UnOp.not 4 (Operand.tmp 32), type := 4, pos := "print.go:28", after := #[{ on := 19, ground := Ground.data }, { on := 16, ground := Ground.guard }], guard := some (16, true) }
def eO21 : Oper := { dst := some 34, op := Op.pick (Operand.tmp 29) (Operand.tmp 33) (Operand.const (Value.bool false)), type := 4, pos := "print.go:28", after := #[{ on := 16, ground := Ground.data }, { on := 20, ground := Ground.data }, { on := 14, ground := Ground.guard }], guard := some (14, false) }
def eO22 : Oper := { dst := some 35, op := Op.pick (Operand.tmp 27) (Operand.const (Value.bool true)) (Operand.tmp 34), type := 4, pos := "print.go:28", after := #[{ on := 14, ground := Ground.data }, { on := 21, ground := Ground.data }], guard := none }
def eO23 : Oper := { dst := some 36, op := Op.move (Operand.tmp 35), type := 4, pos := "print.go:28", after := #[{ on := 22, ground := Ground.data }, { on := 19, ground := Ground.chain }], guard := none }
def eO24 : Oper := { dst := some 37, op := Op.fieldAddr 40 (Operand.tmp 1) 0, type := 0, pos := "print.go:28", after := #[{ on := 23, ground := Ground.guard }], guard := some (23, false) }
def eO25 : Oper := { dst := some 38, op := Op.load 3 (Operand.tmp 37), type := 3, pos := "print.go:28", after := #[{ on := 24, ground := Ground.data }, { on := 23, ground := Ground.guard }], guard := some (23, false) }
def eO26 : Oper := { dst := some 39, op := Op.binOp BinOp.neq 3 (Operand.tmp 38) (Operand.const (Value.int IntKind.i64 1)) 3, type := 4, pos := "print.go:28", after := #[{ on := 25, ground := Ground.data }, { on := 23, ground := Ground.guard }], guard := some (23, false) }
def eO27 : Oper := { dst := some 40, op := Op.move (Operand.tmp 39), type := 4, pos := "print.go:28", after := #[{ on := 26, ground := Ground.data }, { on := 23, ground := Ground.chain }, { on := 23, ground := Ground.guard }], guard := some (23, false) }
def eO28 : Oper := { dst := some 41, op := Op.fieldAddr 40 (Operand.tmp 1) 1, type := 0, pos := "print.go:28", after := #[{ on := 27, ground := Ground.guard }], guard := some (27, true) }
def eO29 : Oper := { dst := some 42, op := Op.load 37 (Operand.tmp 41), type := 37, pos := "print.go:28", after := #[{ on := 28, ground := Ground.data }, { on := 27, ground := Ground.guard }], guard := some (27, true) }
def eO30 : Oper := { dst := some 43, op := Op.binOp BinOp.neq 37 (Operand.tmp 42) (Operand.const (Value.int IntKind.u64 0)) 37, type := 4, pos := "print.go:28", after := #[{ on := 29, ground := Ground.data }, { on := 27, ground := Ground.guard }], guard := some (27, true) }
def eO31 : Oper := { dst := some 44, op := Op.pick (Operand.tmp 40) (Operand.tmp 43) (Operand.const (Value.bool false)), type := 4, pos := "print.go:28", after := #[{ on := 27, ground := Ground.data }, { on := 30, ground := Ground.data }, { on := 23, ground := Ground.guard }], guard := some (23, false) }
def eO32 : Oper := { dst := some 45, op := Op.pick (Operand.tmp 36) (Operand.const (Value.bool true)) (Operand.tmp 44), type := 4, pos := "print.go:28", after := #[{ on := 23, ground := Ground.data }, { on := 31, ground := Ground.data }], guard := none }
theorem lc {w : World} {G : Nat} {cs : Array Value} {e : TypeId} (h : w.heap[G]? = some (.cells cs e (0, 0))) (j : Nat) : w.cell? ⟨G, j, none⟩ = cs[j]? := by
  simp [World.cell?, h]
theorem lbel (w : World) (o : Obj) : Below w.heap.size w (w.alloc o) := (Below.refl _ _).alloc (Nat.le_refl _) _
/-- the box of an expression, and all that was ahead of it -/
def XB (W : World) (g : Nat) (cs : Array Value) (X : World) : Prop := Aside (X.heap[g]? = some (.cells cs 40 (0, 0)) ∧ Below W.heap.size W X)
theorem XB.next {W X X' : World} {g : Nat} {cs : Array Value} (h : XB W g cs X) (hb : Below X.heap.size X X') : XB W g cs X' := ⟨(hb.block _ (Array.getElem?_eq_some_iff.1 h.out.1).1).trans h.out.1, bnext h.out.2 hb⟩
theorem XB.drew {W X : World} {g : Nat} {cs : Array Value} (h : XB W g cs X) : XB W g cs X.drew := ⟨h.out.1, ⟨h.out.2.os, h.out.2.tape, h.out.2.output, h.out.2.size, h.out.2.block⟩⟩
/-- what stands while an expression is looked at -/
def XS (W : World) (k x : Int) (s : ByteArray) (ad : Option Addr) (len cap : Nat) (X : World) : Prop := XB W W.heap.size #[.int .i64 k, .int .u64 x, .string s, .slice ad len cap] X ∧ X.cell? ⟨W.heap.size, 0, none⟩ = some (.int .i64 k) ∧ X.cell? ⟨W.heap.size, 1, none⟩ = some (.int .u64 x) ∧ X.cell? ⟨W.heap.size, 2, none⟩ = some (.string s) ∧ X.cell? ⟨W.heap.size, 3, none⟩ = some (.slice ad len cap)
theorem XS.of {W : World} {k x : Int} {s : ByteArray} {ad : Option Addr} {len cap : Nat} {X : World} (h : XB W W.heap.size #[.int .i64 k, .int .u64 x, .string s, .slice ad len cap] X) : XS W k x s ad len cap X := ⟨h, lc h.out.1 0, lc h.out.1 1, lc h.out.1 2, lc h.out.1 3⟩
set_option maxHeartbeats 16000000 in
set_option maxRecDepth 100000 in
theorem exprForm_any (w0 : World) : ∀ (n : Nat) (cs : List Value) (W : World), EX w0 n cs → Below w0.heap.size w0 W → Calls Tryd.prog 27 #[.agg cs.toArray] W (BP (FE w0 n cs) W) := by
  intro n
  induction n with
  | zero => exact fun cs W h _ => h.elim
  | succ n ih =>
    rintro cs W ⟨k, x, s, sl, rfl, hs, ad, len, cap, rfl, hlen, hsx⟩ hW
    have IH : Hid (∀ (cs : List Value) (W : World), EX w0 n cs → Below w0.heap.size w0 W → Calls Tryd.prog 27 #[.agg cs.toArray] W (BP (FE w0 n cs) W)) := ih
    clear ih
    have HSX : Hid (0 < len → ∃ b o, ad = some ⟨b, o, none⟩ ∧ b < w0.heap.size ∧ ∀ j, j < len → ∃ v0 v1 v2 v3, w0.cell? ⟨b, o + j * 4, none⟩ = some v0 ∧ w0.cell? ⟨b, o + j * 4 + 1, none⟩ = some v1 ∧ w0.cell? ⟨b, o + j * 4 + 2, none⟩ = some v2 ∧ w0.cell? ⟨b, o + j * 4 + 3, none⟩ = some v3 ∧ EX w0 n [v0, v1, v2, v3]) := hsx
    have HW : Hid (Below w0.heap.size w0 W) := hW
    clear hsx hW
    have HPa : Hid (∀ X, Calls Tryd.prog 30 #[.int .i64 k] X fun e w' => e = .returned (.int .i64 (prt k)) ∧ w' = X) := fun X => parts_any k X
    have HNm : Hid (∀ X, Calls Tryd.prog 9 #[.string s] X fun e w' => e = .returned (.bool (nameB s)) ∧ Below X.heap.size X w') := fun X => rName_any s X hs
    have HFE : Hid (FE w0 (n + 1) [.int .i64 k, .int .u64 x, .string s, .slice ad len cap] ↔ (((len : Nat) : Int) = prt k ∧ (if k = 2 ∨ k = 3 then nameB s = true else s.size = 0) ∧ (k = 1 ∨ x = 0)) ∧ SF w0 (FE w0 n) (.slice ad len cap)) := FE_succ
    have HX : Hid (XB W W.heap.size #[.int .i64 k, .int .u64 x, .string s, .slice ad len cap] (W.alloc (.cells #[.int .i64 k, .int .u64 x, .string s, .slice ad len cap] 40))) := ⟨heap_alloc_new _ _, lbel _ _⟩
    obtain ⟨P, hP⟩ : ∃ P, prt k = P := ⟨_, rfl⟩
    have HPe : Hid (prt k = P) := hP
    rw [hP] at HPa HFE
    clear hP
    show Calls Tryd.prog 27 #[.agg #[.int .i64 k, .int .u64 x, .string s, .slice ad len cap]] W _
    by_cases hk2 : k = 2
    · subst hk2
      obtain ⟨okX, hokX⟩ : ∃ okX : Prop, okX ↔ ((len : Int) = P ∧ nameB s = true ∧ ((2 : Int) = 1 ∨ x = 0)) := ⟨_, Iff.rfl⟩
      have HOk : Hid (okX ↔ ((len : Int) = P ∧ nameB s = true ∧ ((2 : Int) = 1 ∨ x = 0))) := hokX
      rw [if_pos (Or.inl rfl), ← hokX] at HFE
      clear hokX
      go_enter Tryd.func27, Tryd.ntmps27
      go_wp2_with fail
      generalize W.alloc (.cells #[.int .i64 2, .int .u64 x, .string s, .slice ad len cap] 40) = W1 at *
      go_cut [45] (fun s45 wx => ∃ bd, s45 = .bool bd ∧ Aside ((bd = false ↔ okX) ∧ XB W W.heap.size #[.int .i64 2, .int .u64 x, .string s, .slice ad len cap] wx))
      case first =>
        by_cases hpl : (len : Int) = P
        · have t6 : ((len : Int) != P) = false := by simp [hpl]
          replace hpl : Hid ((len : Int) = P) := hpl
          by_cases hs0 : s.size = 0
          · have e0 := empty_yes s hs0
            refine wp_region_held_drew (S := (fun X => XB W W.heap.size #[.int .i64 2, .int .u64 x, .string s, .slice ad len cap] X ∧ X.cell? ⟨W.heap.size, 0, none⟩ = some (.int .i64 2) ∧ X.cell? ⟨W.heap.size, 1, none⟩ = some (.int .u64 x) ∧ X.cell? ⟨W.heap.size, 2, none⟩ = some (.string s) ∧ X.cell? ⟨W.heap.size, 3, none⟩ = some (.slice ad len cap))) (by kernel_rfl) (XS.of HX.out.drew) (fun hHeld => ?_)
            refine tqY 0 eO0 (some 13) ?vk2a0 rfl rfl (by kernel_rfl) (fun _ _ _ h => h) ?hk2a0 (by assumption) ?rk2a0
            case hk2a0 => (unfold eO0; intro w hSw; (try dsimp only at hSw); go_simp <;> with_reducible rfl)
            try simp only [Act.put, List.setIfInBounds_toArray, List.set_cons_zero, List.set_cons_succ]
            refine tqY 1 eO1 (some 14) ?vk2a1 rfl rfl (by kernel_rfl) (fun _ _ _ h => h) ?hk2a1 (by assumption) ?rk2a1
            case hk2a1 => (unfold eO1; intro w hSw; (try dsimp only at hSw); go_simp <;> with_reducible rfl)
            try simp only [Act.put, List.setIfInBounds_toArray, List.set_cons_zero, List.set_cons_succ]
            refine tqY 2 eO2 (some 15) ?vk2a2 rfl rfl (by kernel_rfl) (fun _ _ _ h => h) ?hk2a2 (by assumption) ?rk2a2
            case hk2a2 => (unfold eO2; intro w hSw; (try dsimp only at hSw); go_simp <;> with_reducible rfl)
            try simp only [Act.put, List.setIfInBounds_toArray, List.set_cons_zero, List.set_cons_succ]
            refine tqY 3 eO3 (some 16) ?vk2a3 rfl rfl (by kernel_rfl) (fun _ _ _ h => h) ?hk2a3 (by assumption) ?rk2a3
            case hk2a3 => (unfold eO3; intro w hSw; (try dsimp only at hSw); go_simp <;> with_reducible rfl)
            try simp only [Act.put, List.setIfInBounds_toArray, List.set_cons_zero, List.set_cons_succ]
            refine tqY 4 eO4 (some 17) ?vk2a4 rfl rfl (by kernel_rfl) (fun _ _ _ h => h) ?hk2a4 (by assumption) ?rk2a4
            case hk2a4 => (unfold eO4; intro w hSw; (try dsimp only at hSw); go_simp <;> with_reducible rfl)
            try simp only [Act.put, List.setIfInBounds_toArray, List.set_cons_zero, List.set_cons_succ]
            refine wpAnyH_ready (rs := [5]) (by kernel_rfl) (by simp) ?_
            refine AllReadyH.cons (o := { dst := some 18, op := Op.call { callee := Callee.value (Operand.func 30), args := #[Operand.tmp 17], argTypes := #[3] }, type := 3, pos := "print.go:28", after := #[{ on := 4, ground := Ground.data }], guard := none }) rfl (fun K hK => ?_) AllReadyH.nil
            go_simp
            go_at_call 30; refine (HPa.out _).mono ?_; rintro e w9 ⟨rfl, hw⟩; obtain rfl := hw.symm
            refine hK.out _ _ hHeld (fun _ => ?_)
            clear hK K
            try simp only [Act.put, List.setIfInBounds_toArray, List.set_cons_zero, List.set_cons_succ]
            refine tqY 6 eO6 (some 19) ?vk2a6 rfl rfl (by kernel_rfl) (fun _ _ _ h => h) ?hk2a6 (by assumption) ?rk2a6
            case hk2a6 => (unfold eO6; intro w hSw; (try dsimp only at hSw); go_simp <;> with_reducible rfl)
            try simp only [Act.put, List.setIfInBounds_toArray, List.set_cons_zero, List.set_cons_succ]
            refine tqY 7 eO7 (some 20) ?vk2a7 rfl rfl (by kernel_rfl) (fun _ _ _ h => h) ?hk2a7 (by assumption) ?rk2a7
            case hk2a7 => (unfold eO7; intro w hSw; (try dsimp only at hSw); go_simp <;> with_reducible rfl)
            try simp only [Act.put, List.setIfInBounds_toArray, List.set_cons_zero, List.set_cons_succ]
            refine tqY 8 eO8 (some 21) ?vk2a8 rfl rfl (by kernel_rfl) (fun _ _ _ h => h) ?hk2a8 (by assumption) ?rk2a8
            case hk2a8 => (unfold eO8; intro w hSw; (try dsimp only at hSw); go_simp <;> with_reducible rfl)
            try simp only [Act.put, List.setIfInBounds_toArray, List.set_cons_zero, List.set_cons_succ]
            refine tqY 9 eO9 (some 22) ?vk2a9 rfl rfl (by kernel_rfl) (fun _ _ _ h => h) ?hk2a9 (by assumption) ?rk2a9
            case hk2a9 => (unfold eO9; intro w hSw; (try dsimp only at hSw); go_simp <;> with_reducible rfl)
            try simp only [Act.put, List.setIfInBounds_toArray, List.set_cons_zero, List.set_cons_succ]
            refine tqY 10 eO10 (some 23) ?vk2a10 rfl rfl (by kernel_rfl) (fun _ _ _ h => h) ?hk2a10 (by assumption) ?rk2a10
            case hk2a10 => (unfold eO10; intro w hSw; (try dsimp only at hSw); go_simp <;> with_reducible rfl)
            try simp only [Act.put, List.setIfInBounds_toArray, List.set_cons_zero, List.set_cons_succ]
            refine tqY 11 eO11 (some 24) ?vk2a11 rfl rfl (by kernel_rfl) (fun _ _ _ h => h) ?hk2a11 (by assumption) ?rk2a11
            case hk2a11 => (unfold eO11; intro w hSw; (try dsimp only at hSw); go_simp <;> with_reducible rfl)
            try simp only [Act.put, List.setIfInBounds_toArray, List.set_cons_zero, List.set_cons_succ]
            refine tqY 12 eO12 (some 25) ?vk2a12 rfl rfl (by kernel_rfl) (fun _ _ _ h => h) ?hk2a12 (by assumption) ?rk2a12
            case hk2a12 => (unfold eO12; intro w hSw; (try dsimp only at hSw); go_simp <;> with_reducible rfl)
            try simp only [Act.put, List.setIfInBounds_toArray, List.set_cons_zero, List.set_cons_succ]
            refine tqY 13 eO13 (some 26) ?vk2a13 rfl rfl (by kernel_rfl) (fun _ _ _ h => h) ?hk2a13 (by assumption) ?rk2a13
            case hk2a13 => (unfold eO13; intro w hSw; (try dsimp only at hSw); go_simp <;> with_reducible rfl)
            try simp only [Act.put, List.setIfInBounds_toArray, List.set_cons_zero, List.set_cons_succ]
            refine tqY 14 eO14 (some 27) ?vk2a14 rfl rfl (by kernel_rfl) (fun _ _ _ h => h) ?hk2a14 (by assumption) ?rk2a14
            case hk2a14 => (unfold eO14; intro w hSw; (try dsimp only at hSw); go_simp <;> with_reducible rfl)
            try simp only [Act.put, List.setIfInBounds_toArray, List.set_cons_zero, List.set_cons_succ]
            refine tqN 15 eO15 (some 28) rfl rfl (by kernel_rfl) (fun _ _ _ h => h) (by assumption) ?rk2a15
            try simp only [Act.put, List.setIfInBounds_toArray, List.set_cons_zero, List.set_cons_succ]
            refine tqN 16 eO16 (some 29) rfl rfl (by kernel_rfl) (fun _ _ _ h => h) (by assumption) ?rk2a16
            try simp only [Act.put, List.setIfInBounds_toArray, List.set_cons_zero, List.set_cons_succ]
            refine tqN 17 eO17 (some 30) rfl rfl (by kernel_rfl) (fun _ _ _ h => h) (by assumption) ?rk2a17
            try simp only [Act.put, List.setIfInBounds_toArray, List.set_cons_zero, List.set_cons_succ]
            refine tqN 18 eO18 (some 31) rfl rfl (by kernel_rfl) (fun _ _ _ h => h) (by assumption) ?rk2a18
            try simp only [Act.put, List.setIfInBounds_toArray, List.set_cons_zero, List.set_cons_succ]
            refine tqN 19 eO19 (some 32) rfl rfl (by kernel_rfl) (fun _ _ _ h => h) (by assumption) ?rk2a19
            try simp only [Act.put, List.setIfInBounds_toArray, List.set_cons_zero, List.set_cons_succ]
            refine tqN 20 eO20 (some 33) rfl rfl (by kernel_rfl) (fun _ _ _ h => h) (by assumption) ?rk2a20
            try simp only [Act.put, List.setIfInBounds_toArray, List.set_cons_zero, List.set_cons_succ]
            refine tqN 21 eO21 (some 34) rfl rfl (by kernel_rfl) (fun _ _ _ h => h) (by assumption) ?rk2a21
            try simp only [Act.put, List.setIfInBounds_toArray, List.set_cons_zero, List.set_cons_succ]
            refine tqY 22 eO22 (some 35) ?vk2a22 rfl rfl (by kernel_rfl) (fun _ _ _ h => h) ?hk2a22 (by assumption) ?rk2a22
            case hk2a22 => (unfold eO22; intro w hSw; (try dsimp only at hSw); go_simp <;> with_reducible rfl)
            try simp only [Act.put, List.setIfInBounds_toArray, List.set_cons_zero, List.set_cons_succ]
            refine tqY 23 eO23 (some 36) ?vk2a23 rfl rfl (by kernel_rfl) (fun _ _ _ h => h) ?hk2a23 (by assumption) ?rk2a23
            case hk2a23 => (unfold eO23; intro w hSw; (try dsimp only at hSw); go_simp <;> with_reducible rfl)
            try simp only [Act.put, List.setIfInBounds_toArray, List.set_cons_zero, List.set_cons_succ]
            refine tqN 24 eO24 (some 37) rfl rfl (by kernel_rfl) (fun _ _ _ h => h) (by assumption) ?rk2a24
            try simp only [Act.put, List.setIfInBounds_toArray, List.set_cons_zero, List.set_cons_succ]
            refine tqN 25 eO25 (some 38) rfl rfl (by kernel_rfl) (fun _ _ _ h => h) (by assumption) ?rk2a25
            try simp only [Act.put, List.setIfInBounds_toArray, List.set_cons_zero, List.set_cons_succ]
            refine tqN 26 eO26 (some 39) rfl rfl (by kernel_rfl) (fun _ _ _ h => h) (by assumption) ?rk2a26
            try simp only [Act.put, List.setIfInBounds_toArray, List.set_cons_zero, List.set_cons_succ]
            refine tqN 27 eO27 (some 40) rfl rfl (by kernel_rfl) (fun _ _ _ h => h) (by assumption) ?rk2a27
            try simp only [Act.put, List.setIfInBounds_toArray, List.set_cons_zero, List.set_cons_succ]
            refine tqN 28 eO28 (some 41) rfl rfl (by kernel_rfl) (fun _ _ _ h => h) (by assumption) ?rk2a28
            try simp only [Act.put, List.setIfInBounds_toArray, List.set_cons_zero, List.set_cons_succ]
            refine tqN 29 eO29 (some 42) rfl rfl (by kernel_rfl) (fun _ _ _ h => h) (by assumption) ?rk2a29
            try simp only [Act.put, List.setIfInBounds_toArray, List.set_cons_zero, List.set_cons_succ]
            refine tqN 30 eO30 (some 43) rfl rfl (by kernel_rfl) (fun _ _ _ h => h) (by assumption) ?rk2a30
            try simp only [Act.put, List.setIfInBounds_toArray, List.set_cons_zero, List.set_cons_succ]
            refine tqN 31 eO31 (some 44) rfl rfl (by kernel_rfl) (fun _ _ _ h => h) (by assumption) ?rk2a31
            try simp only [Act.put, List.setIfInBounds_toArray, List.set_cons_zero, List.set_cons_succ]
            refine tqY 32 eO32 (some 45) ?vk2a32 rfl rfl (by kernel_rfl) (fun _ _ _ h => h) ?hk2a32 (by assumption) ?rk2a32
            case hk2a32 => (unfold eO32; intro w hSw; (try dsimp only at hSw); go_simp <;> with_reducible rfl)
            try simp only [Act.put, List.setIfInBounds_toArray, List.set_cons_zero, List.set_cons_succ]
            refine wpAnyH_done (by kernel_rfl) ?_ _
            try go_wp2_with fail
            go_meet
            exact ⟨true, rfl, ⟨fun h => (by cases h), fun h => absurd (HOk.out.1 h) (by intro hh; exact nameB_pos hh.2.1 hs0)⟩, hHeld.1⟩
          · have e0 := empty_no s hs0
            cases hnm : nameB s with
            | false =>
              refine wp_region_held_drew (S := (fun X => XB W W.heap.size #[.int .i64 2, .int .u64 x, .string s, .slice ad len cap] X ∧ X.cell? ⟨W.heap.size, 0, none⟩ = some (.int .i64 2) ∧ X.cell? ⟨W.heap.size, 1, none⟩ = some (.int .u64 x) ∧ X.cell? ⟨W.heap.size, 2, none⟩ = some (.string s) ∧ X.cell? ⟨W.heap.size, 3, none⟩ = some (.slice ad len cap))) (by kernel_rfl) (XS.of HX.out.drew) (fun hHeld => ?_)
              refine tqY 0 eO0 (some 13) ?vk2f0 rfl rfl (by kernel_rfl) (fun _ _ _ h => h) ?hk2f0 (by assumption) ?rk2f0
              case hk2f0 => (unfold eO0; intro w hSw; (try dsimp only at hSw); go_simp <;> with_reducible rfl)
              try simp only [Act.put, List.setIfInBounds_toArray, List.set_cons_zero, List.set_cons_succ]
              refine tqY 1 eO1 (some 14) ?vk2f1 rfl rfl (by kernel_rfl) (fun _ _ _ h => h) ?hk2f1 (by assumption) ?rk2f1
              case hk2f1 => (unfold eO1; intro w hSw; (try dsimp only at hSw); go_simp <;> with_reducible rfl)
              try simp only [Act.put, List.setIfInBounds_toArray, List.set_cons_zero, List.set_cons_succ]
              refine tqY 2 eO2 (some 15) ?vk2f2 rfl rfl (by kernel_rfl) (fun _ _ _ h => h) ?hk2f2 (by assumption) ?rk2f2
              case hk2f2 => (unfold eO2; intro w hSw; (try dsimp only at hSw); go_simp <;> with_reducible rfl)
              try simp only [Act.put, List.setIfInBounds_toArray, List.set_cons_zero, List.set_cons_succ]
              refine tqY 3 eO3 (some 16) ?vk2f3 rfl rfl (by kernel_rfl) (fun _ _ _ h => h) ?hk2f3 (by assumption) ?rk2f3
              case hk2f3 => (unfold eO3; intro w hSw; (try dsimp only at hSw); go_simp <;> with_reducible rfl)
              try simp only [Act.put, List.setIfInBounds_toArray, List.set_cons_zero, List.set_cons_succ]
              refine tqY 4 eO4 (some 17) ?vk2f4 rfl rfl (by kernel_rfl) (fun _ _ _ h => h) ?hk2f4 (by assumption) ?rk2f4
              case hk2f4 => (unfold eO4; intro w hSw; (try dsimp only at hSw); go_simp <;> with_reducible rfl)
              try simp only [Act.put, List.setIfInBounds_toArray, List.set_cons_zero, List.set_cons_succ]
              refine wpAnyH_ready (rs := [5]) (by kernel_rfl) (by simp) ?_
              refine AllReadyH.cons (o := { dst := some 18, op := Op.call { callee := Callee.value (Operand.func 30), args := #[Operand.tmp 17], argTypes := #[3] }, type := 3, pos := "print.go:28", after := #[{ on := 4, ground := Ground.data }], guard := none }) rfl (fun K hK => ?_) AllReadyH.nil
              go_simp
              go_at_call 30; refine (HPa.out _).mono ?_; rintro e w9 ⟨rfl, hw⟩; obtain rfl := hw.symm
              refine hK.out _ _ hHeld (fun _ => ?_)
              clear hK K
              try simp only [Act.put, List.setIfInBounds_toArray, List.set_cons_zero, List.set_cons_succ]
              refine tqY 6 eO6 (some 19) ?vk2f6 rfl rfl (by kernel_rfl) (fun _ _ _ h => h) ?hk2f6 (by assumption) ?rk2f6
              case hk2f6 => (unfold eO6; intro w hSw; (try dsimp only at hSw); go_simp <;> with_reducible rfl)
              try simp only [Act.put, List.setIfInBounds_toArray, List.set_cons_zero, List.set_cons_succ]
              refine tqY 7 eO7 (some 20) ?vk2f7 rfl rfl (by kernel_rfl) (fun _ _ _ h => h) ?hk2f7 (by assumption) ?rk2f7
              case hk2f7 => (unfold eO7; intro w hSw; (try dsimp only at hSw); go_simp <;> with_reducible rfl)
              try simp only [Act.put, List.setIfInBounds_toArray, List.set_cons_zero, List.set_cons_succ]
              refine tqY 8 eO8 (some 21) ?vk2f8 rfl rfl (by kernel_rfl) (fun _ _ _ h => h) ?hk2f8 (by assumption) ?rk2f8
              case hk2f8 => (unfold eO8; intro w hSw; (try dsimp only at hSw); go_simp <;> with_reducible rfl)
              try simp only [Act.put, List.setIfInBounds_toArray, List.set_cons_zero, List.set_cons_succ]
              refine tqY 9 eO9 (some 22) ?vk2f9 rfl rfl (by kernel_rfl) (fun _ _ _ h => h) ?hk2f9 (by assumption) ?rk2f9
              case hk2f9 => (unfold eO9; intro w hSw; (try dsimp only at hSw); go_simp <;> with_reducible rfl)
              try simp only [Act.put, List.setIfInBounds_toArray, List.set_cons_zero, List.set_cons_succ]
              refine tqY 10 eO10 (some 23) ?vk2f10 rfl rfl (by kernel_rfl) (fun _ _ _ h => h) ?hk2f10 (by assumption) ?rk2f10
              case hk2f10 => (unfold eO10; intro w hSw; (try dsimp only at hSw); go_simp <;> with_reducible rfl)
              try simp only [Act.put, List.setIfInBounds_toArray, List.set_cons_zero, List.set_cons_succ]
              refine tqY 11 eO11 (some 24) ?vk2f11 rfl rfl (by kernel_rfl) (fun _ _ _ h => h) ?hk2f11 (by assumption) ?rk2f11
              case hk2f11 => (unfold eO11; intro w hSw; (try dsimp only at hSw); go_simp <;> with_reducible rfl)
              try simp only [Act.put, List.setIfInBounds_toArray, List.set_cons_zero, List.set_cons_succ]
              refine tqY 12 eO12 (some 25) ?vk2f12 rfl rfl (by kernel_rfl) (fun _ _ _ h => h) ?hk2f12 (by assumption) ?rk2f12
              case hk2f12 => (unfold eO12; intro w hSw; (try dsimp only at hSw); go_simp <;> with_reducible rfl)
              try simp only [Act.put, List.setIfInBounds_toArray, List.set_cons_zero, List.set_cons_succ]
              refine tqY 13 eO13 (some 26) ?vk2f13 rfl rfl (by kernel_rfl) (fun _ _ _ h => h) ?hk2f13 (by assumption) ?rk2f13
              case hk2f13 => (unfold eO13; intro w hSw; (try dsimp only at hSw); go_simp <;> with_reducible rfl)
              try simp only [Act.put, List.setIfInBounds_toArray, List.set_cons_zero, List.set_cons_succ]
              refine tqY 14 eO14 (some 27) ?vk2f14 rfl rfl (by kernel_rfl) (fun _ _ _ h => h) ?hk2f14 (by assumption) ?rk2f14
              case hk2f14 => (unfold eO14; intro w hSw; (try dsimp only at hSw); go_simp <;> with_reducible rfl)
              try simp only [Act.put, List.setIfInBounds_toArray, List.set_cons_zero, List.set_cons_succ]
              refine tqY 15 eO15 (some 28) ?vk2f15 rfl rfl (by kernel_rfl) (fun _ _ _ h => h) ?hk2f15 (by assumption) ?rk2f15
              case hk2f15 => (unfold eO15; intro w hSw; (try dsimp only at hSw); go_simp <;> with_reducible rfl)
              try simp only [Act.put, List.setIfInBounds_toArray, List.set_cons_zero, List.set_cons_succ]
              refine tqY 16 eO16 (some 29) ?vk2f16 rfl rfl (by kernel_rfl) (fun _ _ _ h => h) ?hk2f16 (by assumption) ?rk2f16
              case hk2f16 => (unfold eO16; intro w hSw; (try dsimp only at hSw); go_simp <;> with_reducible rfl)
              try simp only [Act.put, List.setIfInBounds_toArray, List.set_cons_zero, List.set_cons_succ]
              refine tqY 17 eO17 (some 30) ?vk2f17 rfl rfl (by kernel_rfl) (fun _ _ _ h => h) ?hk2f17 (by assumption) ?rk2f17
              case hk2f17 => (unfold eO17; intro w hSw; (try dsimp only at hSw); go_simp <;> with_reducible rfl)
              try simp only [Act.put, List.setIfInBounds_toArray, List.set_cons_zero, List.set_cons_succ]
              refine tqY 18 eO18 (some 31) ?vk2f18 rfl rfl (by kernel_rfl) (fun _ _ _ h => h) ?hk2f18 (by assumption) ?rk2f18
              case hk2f18 => (unfold eO18; intro w hSw; (try dsimp only at hSw); go_simp <;> with_reducible rfl)
              try simp only [Act.put, List.setIfInBounds_toArray, List.set_cons_zero, List.set_cons_succ]
              refine wpAnyH_ready (rs := [19]) (by kernel_rfl) (by simp) ?_
              refine AllReadyH.cons (o := { dst := some 32, op := Op.call { callee := Callee.value (Operand.func 9), args := #[Operand.tmp 31], argTypes := #[9] }, type := 4, pos := "print.go:28", after := #[{ on := 18, ground := Ground.data }, { on := 16, ground := Ground.chain }, { on := 16, ground := Ground.guard }], guard := some (16, true) }) rfl (fun K hK => ?_) AllReadyH.nil
              go_simp
              go_at_call 9; refine (HNm.out _).mono ?_; rintro e w9 ⟨he, hb⟩
              rw [hnm] at he
              subst he
              have hx9 := XS.of (hHeld.1.next hb)
              clear hb hHeld
              refine hK.out _ _ hx9 (fun hHeld => ?_)
              clear hK K hx9
              try simp only [Act.put, List.setIfInBounds_toArray, List.set_cons_zero, List.set_cons_succ]
              refine tqY 20 eO20 (some 33) ?vk2f20 rfl rfl (by kernel_rfl) (fun _ _ _ h => h) ?hk2f20 (by assumption) ?rk2f20
              case hk2f20 => (unfold eO20; intro w hSw; (try dsimp only at hSw); go_simp <;> with_reducible rfl)
              try simp only [Act.put, List.setIfInBounds_toArray, List.set_cons_zero, List.set_cons_succ]
              refine tqY 21 eO21 (some 34) ?vk2f21 rfl rfl (by kernel_rfl) (fun _ _ _ h => h) ?hk2f21 (by assumption) ?rk2f21
              case hk2f21 => (unfold eO21; intro w hSw; (try dsimp only at hSw); go_simp <;> with_reducible rfl)
              try simp only [Act.put, List.setIfInBounds_toArray, List.set_cons_zero, List.set_cons_succ]
              refine tqY 22 eO22 (some 35) ?vk2f22 rfl rfl (by kernel_rfl) (fun _ _ _ h => h) ?hk2f22 (by assumption) ?rk2f22
              case hk2f22 => (unfold eO22; intro w hSw; (try dsimp only at hSw); go_simp <;> with_reducible rfl)
              try simp only [Act.put, List.setIfInBounds_toArray, List.set_cons_zero, List.set_cons_succ]
              refine tqY 23 eO23 (some 36) ?vk2f23 rfl rfl (by kernel_rfl) (fun _ _ _ h => h) ?hk2f23 (by assumption) ?rk2f23
              case hk2f23 => (unfold eO23; intro w hSw; (try dsimp only at hSw); go_simp <;> with_reducible rfl)
              try simp only [Act.put, List.setIfInBounds_toArray, List.set_cons_zero, List.set_cons_succ]
              refine tqN 24 eO24 (some 37) rfl rfl (by kernel_rfl) (fun _ _ _ h => h) (by assumption) ?rk2f24
              try simp only [Act.put, List.setIfInBounds_toArray, List.set_cons_zero, List.set_cons_succ]
              refine tqN 25 eO25 (some 38) rfl rfl (by kernel_rfl) (fun _ _ _ h => h) (by assumption) ?rk2f25
              try simp only [Act.put, List.setIfInBounds_toArray, List.set_cons_zero, List.set_cons_succ]
              refine tqN 26 eO26 (some 39) rfl rfl (by kernel_rfl) (fun _ _ _ h => h) (by assumption) ?rk2f26
              try simp only [Act.put, List.setIfInBounds_toArray, List.set_cons_zero, List.set_cons_succ]
              refine tqN 27 eO27 (some 40) rfl rfl (by kernel_rfl) (fun _ _ _ h => h) (by assumption) ?rk2f27
              try simp only [Act.put, List.setIfInBounds_toArray, List.set_cons_zero, List.set_cons_succ]
              refine tqN 28 eO28 (some 41) rfl rfl (by kernel_rfl) (fun _ _ _ h => h) (by assumption) ?rk2f28
              try simp only [Act.put, List.setIfInBounds_toArray, List.set_cons_zero, List.set_cons_succ]
              refine tqN 29 eO29 (some 42) rfl rfl (by kernel_rfl) (fun _ _ _ h => h) (by assumption) ?rk2f29
              try simp only [Act.put, List.setIfInBounds_toArray, List.set_cons_zero, List.set_cons_succ]
              refine tqN 30 eO30 (some 43) rfl rfl (by kernel_rfl) (fun _ _ _ h => h) (by assumption) ?rk2f30
              try simp only [Act.put, List.setIfInBounds_toArray, List.set_cons_zero, List.set_cons_succ]
              refine tqN 31 eO31 (some 44) rfl rfl (by kernel_rfl) (fun _ _ _ h => h) (by assumption) ?rk2f31
              try simp only [Act.put, List.setIfInBounds_toArray, List.set_cons_zero, List.set_cons_succ]
              refine tqY 32 eO32 (some 45) ?vk2f32 rfl rfl (by kernel_rfl) (fun _ _ _ h => h) ?hk2f32 (by assumption) ?rk2f32
              case hk2f32 => (unfold eO32; intro w hSw; (try dsimp only at hSw); go_simp <;> with_reducible rfl)
              try simp only [Act.put, List.setIfInBounds_toArray, List.set_cons_zero, List.set_cons_succ]
              refine wpAnyH_done (by kernel_rfl) ?_ _
              try go_wp2_with fail
              go_meet
              exact ⟨true, rfl, ⟨fun h => (by cases h), fun h => absurd (HOk.out.1 h) (by intro hh; rw [hnm] at hh; exact absurd hh.2.1 (by decide))⟩, hHeld.1⟩
            | true =>
              by_cases hx0 : x = 0
              · have tx : (x != 0) = false := by simp [hx0]
                replace hx0 : Hid (x = 0) := hx0
                refine wp_region_held_drew (S := (fun X => XB W W.heap.size #[.int .i64 2, .int .u64 x, .string s, .slice ad len cap] X ∧ X.cell? ⟨W.heap.size, 0, none⟩ = some (.int .i64 2) ∧ X.cell? ⟨W.heap.size, 1, none⟩ = some (.int .u64 x) ∧ X.cell? ⟨W.heap.size, 2, none⟩ = some (.string s) ∧ X.cell? ⟨W.heap.size, 3, none⟩ = some (.slice ad len cap))) (by kernel_rfl) (XS.of HX.out.drew) (fun hHeld => ?_)
                refine tqY 0 eO0 (some 13) ?vk2g0 rfl rfl (by kernel_rfl) (fun _ _ _ h => h) ?hk2g0 (by assumption) ?rk2g0
                case hk2g0 => (unfold eO0; intro w hSw; (try dsimp only at hSw); go_simp <;> with_reducible rfl)
                try simp only [Act.put, List.setIfInBounds_toArray, List.set_cons_zero, List.set_cons_succ]
                refine tqY 1 eO1 (some 14) ?vk2g1 rfl rfl (by kernel_rfl) (fun _ _ _ h => h) ?hk2g1 (by assumption) ?rk2g1
                case hk2g1 => (unfold eO1; intro w hSw; (try dsimp only at hSw); go_simp <;> with_reducible rfl)
                try simp only [Act.put, List.setIfInBounds_toArray, List.set_cons_zero, List.set_cons_succ]
                refine tqY 2 eO2 (some 15) ?vk2g2 rfl rfl (by kernel_rfl) (fun _ _ _ h => h) ?hk2g2 (by assumption) ?rk2g2
                case hk2g2 => (unfold eO2; intro w hSw; (try dsimp only at hSw); go_simp <;> with_reducible rfl)
                try simp only [Act.put, List.setIfInBounds_toArray, List.set_cons_zero, List.set_cons_succ]
                refine tqY 3 eO3 (some 16) ?vk2g3 rfl rfl (by kernel_rfl) (fun _ _ _ h => h) ?hk2g3 (by assumption) ?rk2g3
                case hk2g3 => (unfold eO3; intro w hSw; (try dsimp only at hSw); go_simp <;> with_reducible rfl)
                try simp only [Act.put, List.setIfInBounds_toArray, List.set_cons_zero, List.set_cons_succ]
                refine tqY 4 eO4 (some 17) ?vk2g4 rfl rfl (by kernel_rfl) (fun _ _ _ h => h) ?hk2g4 (by assumption) ?rk2g4
                case hk2g4 => (unfold eO4; intro w hSw; (try dsimp only at hSw); go_simp <;> with_reducible rfl)
                try simp only [Act.put, List.setIfInBounds_toArray, List.set_cons_zero, List.set_cons_succ]
                refine wpAnyH_ready (rs := [5]) (by kernel_rfl) (by simp) ?_
                refine AllReadyH.cons (o := { dst := some 18, op := Op.call { callee := Callee.value (Operand.func 30), args := #[Operand.tmp 17], argTypes := #[3] }, type := 3, pos := "print.go:28", after := #[{ on := 4, ground := Ground.data }], guard := none }) rfl (fun K hK => ?_) AllReadyH.nil
                go_simp
                go_at_call 30; refine (HPa.out _).mono ?_; rintro e w9 ⟨rfl, hw⟩; obtain rfl := hw.symm
                refine hK.out _ _ hHeld (fun _ => ?_)
                clear hK K
                try simp only [Act.put, List.setIfInBounds_toArray, List.set_cons_zero, List.set_cons_succ]
                refine tqY 6 eO6 (some 19) ?vk2g6 rfl rfl (by kernel_rfl) (fun _ _ _ h => h) ?hk2g6 (by assumption) ?rk2g6
                case hk2g6 => (unfold eO6; intro w hSw; (try dsimp only at hSw); go_simp <;> with_reducible rfl)
                try simp only [Act.put, List.setIfInBounds_toArray, List.set_cons_zero, List.set_cons_succ]
                refine tqY 7 eO7 (some 20) ?vk2g7 rfl rfl (by kernel_rfl) (fun _ _ _ h => h) ?hk2g7 (by assumption) ?rk2g7
                case hk2g7 => (unfold eO7; intro w hSw; (try dsimp only at hSw); go_simp <;> with_reducible rfl)
                try simp only [Act.put, List.setIfInBounds_toArray, List.set_cons_zero, List.set_cons_succ]
                refine tqY 8 eO8 (some 21) ?vk2g8 rfl rfl (by kernel_rfl) (fun _ _ _ h => h) ?hk2g8 (by assumption) ?rk2g8
                case hk2g8 => (unfold eO8; intro w hSw; (try dsimp only at hSw); go_simp <;> with_reducible rfl)
                try simp only [Act.put, List.setIfInBounds_toArray, List.set_cons_zero, List.set_cons_succ]
                refine tqY 9 eO9 (some 22) ?vk2g9 rfl rfl (by kernel_rfl) (fun _ _ _ h => h) ?hk2g9 (by assumption) ?rk2g9
                case hk2g9 => (unfold eO9; intro w hSw; (try dsimp only at hSw); go_simp <;> with_reducible rfl)
                try simp only [Act.put, List.setIfInBounds_toArray, List.set_cons_zero, List.set_cons_succ]
                refine tqY 10 eO10 (some 23) ?vk2g10 rfl rfl (by kernel_rfl) (fun _ _ _ h => h) ?hk2g10 (by assumption) ?rk2g10
                case hk2g10 => (unfold eO10; intro w hSw; (try dsimp only at hSw); go_simp <;> with_reducible rfl)
                try simp only [Act.put, List.setIfInBounds_toArray, List.set_cons_zero, List.set_cons_succ]
                refine tqY 11 eO11 (some 24) ?vk2g11 rfl rfl (by kernel_rfl) (fun _ _ _ h => h) ?hk2g11 (by assumption) ?rk2g11
                case hk2g11 => (unfold eO11; intro w hSw; (try dsimp only at hSw); go_simp <;> with_reducible rfl)
                try simp only [Act.put, List.setIfInBounds_toArray, List.set_cons_zero, List.set_cons_succ]
                refine tqY 12 eO12 (some 25) ?vk2g12 rfl rfl (by kernel_rfl) (fun _ _ _ h => h) ?hk2g12 (by assumption) ?rk2g12
                case hk2g12 => (unfold eO12; intro w hSw; (try dsimp only at hSw); go_simp <;> with_reducible rfl)
                try simp only [Act.put, List.setIfInBounds_toArray, List.set_cons_zero, List.set_cons_succ]
                refine tqY 13 eO13 (some 26) ?vk2g13 rfl rfl (by kernel_rfl) (fun _ _ _ h => h) ?hk2g13 (by assumption) ?rk2g13
                case hk2g13 => (unfold eO13; intro w hSw; (try dsimp only at hSw); go_simp <;> with_reducible rfl)
                try simp only [Act.put, List.setIfInBounds_toArray, List.set_cons_zero, List.set_cons_succ]
                refine tqY 14 eO14 (some 27) ?vk2g14 rfl rfl (by kernel_rfl) (fun _ _ _ h => h) ?hk2g14 (by assumption) ?rk2g14
                case hk2g14 => (unfold eO14; intro w hSw; (try dsimp only at hSw); go_simp <;> with_reducible rfl)
                try simp only [Act.put, List.setIfInBounds_toArray, List.set_cons_zero, List.set_cons_succ]
                refine tqY 15 eO15 (some 28) ?vk2g15 rfl rfl (by kernel_rfl) (fun _ _ _ h => h) ?hk2g15 (by assumption) ?rk2g15
                case hk2g15 => (unfold eO15; intro w hSw; (try dsimp only at hSw); go_simp <;> with_reducible rfl)
                try simp only [Act.put, List.setIfInBounds_toArray, List.set_cons_zero, List.set_cons_succ]
                refine tqY 16 eO16 (some 29) ?vk2g16 rfl rfl (by kernel_rfl) (fun _ _ _ h => h) ?hk2g16 (by assumption) ?rk2g16
                case hk2g16 => (unfold eO16; intro w hSw; (try dsimp only at hSw); go_simp <;> with_reducible rfl)
                try simp only [Act.put, List.setIfInBounds_toArray, List.set_cons_zero, List.set_cons_succ]
                refine tqY 17 eO17 (some 30) ?vk2g17 rfl rfl (by kernel_rfl) (fun _ _ _ h => h) ?hk2g17 (by assumption) ?rk2g17
                case hk2g17 => (unfold eO17; intro w hSw; (try dsimp only at hSw); go_simp <;> with_reducible rfl)
                try simp only [Act.put, List.setIfInBounds_toArray, List.set_cons_zero, List.set_cons_succ]
                refine tqY 18 eO18 (some 31) ?vk2g18 rfl rfl (by kernel_rfl) (fun _ _ _ h => h) ?hk2g18 (by assumption) ?rk2g18
                case hk2g18 => (unfold eO18; intro w hSw; (try dsimp only at hSw); go_simp <;> with_reducible rfl)
                try simp only [Act.put, List.setIfInBounds_toArray, List.set_cons_zero, List.set_cons_succ]
                refine wpAnyH_ready (rs := [19]) (by kernel_rfl) (by simp) ?_
                refine AllReadyH.cons (o := { dst := some 32, op := Op.call { callee := Callee.value (Operand.func 9), args := #[Operand.tmp 31], argTypes := #[9] }, type := 4, pos := "print.go:28", after := #[{ on := 18, ground := Ground.data }, { on := 16, ground := Ground.chain }, { on := 16, ground := Ground.guard }], guard := some (16, true) }) rfl (fun K hK => ?_) AllReadyH.nil
                go_simp
                go_at_call 9; refine (HNm.out _).mono ?_; rintro e w9 ⟨he, hb⟩
                rw [hnm] at he
                subst he
                have hx9 := XS.of (hHeld.1.next hb)
                clear hb hHeld
                refine hK.out _ _ hx9 (fun hHeld => ?_)
                clear hK K hx9
                try simp only [Act.put, List.setIfInBounds_toArray, List.set_cons_zero, List.set_cons_succ]
                refine tqY 20 eO20 (some 33) ?vk2g20 rfl rfl (by kernel_rfl) (fun _ _ _ h => h) ?hk2g20 (by assumption) ?rk2g20
                case hk2g20 => (unfold eO20; intro w hSw; (try dsimp only at hSw); go_simp <;> with_reducible rfl)
                try simp only [Act.put, List.setIfInBounds_toArray, List.set_cons_zero, List.set_cons_succ]
                refine tqY 21 eO21 (some 34) ?vk2g21 rfl rfl (by kernel_rfl) (fun _ _ _ h => h) ?hk2g21 (by assumption) ?rk2g21
                case hk2g21 => (unfold eO21; intro w hSw; (try dsimp only at hSw); go_simp <;> with_reducible rfl)
                try simp only [Act.put, List.setIfInBounds_toArray, List.set_cons_zero, List.set_cons_succ]
                refine tqY 22 eO22 (some 35) ?vk2g22 rfl rfl (by kernel_rfl) (fun _ _ _ h => h) ?hk2g22 (by assumption) ?rk2g22
                case hk2g22 => (unfold eO22; intro w hSw; (try dsimp only at hSw); go_simp <;> with_reducible rfl)
                try simp only [Act.put, List.setIfInBounds_toArray, List.set_cons_zero, List.set_cons_succ]
                refine tqY 23 eO23 (some 36) ?vk2g23 rfl rfl (by kernel_rfl) (fun _ _ _ h => h) ?hk2g23 (by assumption) ?rk2g23
                case hk2g23 => (unfold eO23; intro w hSw; (try dsimp only at hSw); go_simp <;> with_reducible rfl)
                try simp only [Act.put, List.setIfInBounds_toArray, List.set_cons_zero, List.set_cons_succ]
                refine tqY 24 eO24 (some 37) ?vk2g24 rfl rfl (by kernel_rfl) (fun _ _ _ h => h) ?hk2g24 (by assumption) ?rk2g24
                case hk2g24 => (unfold eO24; intro w hSw; (try dsimp only at hSw); go_simp <;> with_reducible rfl)
                try simp only [Act.put, List.setIfInBounds_toArray, List.set_cons_zero, List.set_cons_succ]
                refine tqY 25 eO25 (some 38) ?vk2g25 rfl rfl (by kernel_rfl) (fun _ _ _ h => h) ?hk2g25 (by assumption) ?rk2g25
                case hk2g25 => (unfold eO25; intro w hSw; (try dsimp only at hSw); go_simp <;> with_reducible rfl)
                try simp only [Act.put, List.setIfInBounds_toArray, List.set_cons_zero, List.set_cons_succ]
                refine tqY 26 eO26 (some 39) ?vk2g26 rfl rfl (by kernel_rfl) (fun _ _ _ h => h) ?hk2g26 (by assumption) ?rk2g26
                case hk2g26 => (unfold eO26; intro w hSw; (try dsimp only at hSw); go_simp <;> with_reducible rfl)
                try simp only [Act.put, List.setIfInBounds_toArray, List.set_cons_zero, List.set_cons_succ]
                refine tqY 27 eO27 (some 40) ?vk2g27 rfl rfl (by kernel_rfl) (fun _ _ _ h => h) ?hk2g27 (by assumption) ?rk2g27
                case hk2g27 => (unfold eO27; intro w hSw; (try dsimp only at hSw); go_simp <;> with_reducible rfl)
                try simp only [Act.put, List.setIfInBounds_toArray, List.set_cons_zero, List.set_cons_succ]
                refine tqY 28 eO28 (some 41) ?vk2g28 rfl rfl (by kernel_rfl) (fun _ _ _ h => h) ?hk2g28 (by assumption) ?rk2g28
                case hk2g28 => (unfold eO28; intro w hSw; (try dsimp only at hSw); go_simp <;> with_reducible rfl)
                try simp only [Act.put, List.setIfInBounds_toArray, List.set_cons_zero, List.set_cons_succ]
                refine tqY 29 eO29 (some 42) ?vk2g29 rfl rfl (by kernel_rfl) (fun _ _ _ h => h) ?hk2g29 (by assumption) ?rk2g29
                case hk2g29 => (unfold eO29; intro w hSw; (try dsimp only at hSw); go_simp <;> with_reducible rfl)
                try simp only [Act.put, List.setIfInBounds_toArray, List.set_cons_zero, List.set_cons_succ]
                refine tqY 30 eO30 (some 43) ?vk2g30 rfl rfl (by kernel_rfl) (fun _ _ _ h => h) ?hk2g30 (by assumption) ?rk2g30
                case hk2g30 => (unfold eO30; intro w hSw; (try dsimp only at hSw); go_simp <;> with_reducible rfl)
                try simp only [Act.put, List.setIfInBounds_toArray, List.set_cons_zero, List.set_cons_succ]
                refine tqY 31 eO31 (some 44) ?vk2g31 rfl rfl (by kernel_rfl) (fun _ _ _ h => h) ?hk2g31 (by assumption) ?rk2g31
                case hk2g31 => (unfold eO31; intro w hSw; (try dsimp only at hSw); go_simp <;> with_reducible rfl)
                try simp only [Act.put, List.setIfInBounds_toArray, List.set_cons_zero, List.set_cons_succ]
                refine tqY 32 eO32 (some 45) ?vk2g32 rfl rfl (by kernel_rfl) (fun _ _ _ h => h) ?hk2g32 (by assumption) ?rk2g32
                case hk2g32 => (unfold eO32; intro w hSw; (try dsimp only at hSw); go_simp <;> with_reducible rfl)
                try simp only [Act.put, List.setIfInBounds_toArray, List.set_cons_zero, List.set_cons_succ]
                refine wpAnyH_done (by kernel_rfl) ?_ _
                try go_wp2_with fail
                go_meet
                exact ⟨false, rfl, ⟨fun _ => HOk.out.2 (by exact ⟨hpl.out, hnm, Or.inr hx0.out⟩), fun _ => rfl⟩, hHeld.1⟩
              · have tx : (x != 0) = true := by simpa using hx0
                refine wp_region_held_drew (S := (fun X => XB W W.heap.size #[.int .i64 2, .int .u64 x, .string s, .slice ad len cap] X ∧ X.cell? ⟨W.heap.size, 0, none⟩ = some (.int .i64 2) ∧ X.cell? ⟨W.heap.size, 1, none⟩ = some (.int .u64 x) ∧ X.cell? ⟨W.heap.size, 2, none⟩ = some (.string s) ∧ X.cell? ⟨W.heap.size, 3, none⟩ = some (.slice ad len cap))) (by kernel_rfl) (XS.of HX.out.drew) (fun hHeld => ?_)
                refine tqY 0 eO0 (some 13) ?vk2h0 rfl rfl (by kernel_rfl) (fun _ _ _ h => h) ?hk2h0 (by assumption) ?rk2h0
                case hk2h0 => (unfold eO0; intro w hSw; (try dsimp only at hSw); go_simp <;> with_reducible rfl)
                try simp only [Act.put, List.setIfInBounds_toArray, List.set_cons_zero, List.set_cons_succ]
                refine tqY 1 eO1 (some 14) ?vk2h1 rfl rfl (by kernel_rfl) (fun _ _ _ h => h) ?hk2h1 (by assumption) ?rk2h1
                case hk2h1 => (unfold eO1; intro w hSw; (try dsimp only at hSw); go_simp <;> with_reducible rfl)
                try simp only [Act.put, List.setIfInBounds_toArray, List.set_cons_zero, List.set_cons_succ]
                refine tqY 2 eO2 (some 15) ?vk2h2 rfl rfl (by kernel_rfl) (fun _ _ _ h => h) ?hk2h2 (by assumption) ?rk2h2
                case hk2h2 => (unfold eO2; intro w hSw; (try dsimp only at hSw); go_simp <;> with_reducible rfl)
                try simp only [Act.put, List.setIfInBounds_toArray, List.set_cons_zero, List.set_cons_succ]
                refine tqY 3 eO3 (some 16) ?vk2h3 rfl rfl (by kernel_rfl) (fun _ _ _ h => h) ?hk2h3 (by assumption) ?rk2h3
                case hk2h3 => (unfold eO3; intro w hSw; (try dsimp only at hSw); go_simp <;> with_reducible rfl)
                try simp only [Act.put, List.setIfInBounds_toArray, List.set_cons_zero, List.set_cons_succ]
                refine tqY 4 eO4 (some 17) ?vk2h4 rfl rfl (by kernel_rfl) (fun _ _ _ h => h) ?hk2h4 (by assumption) ?rk2h4
                case hk2h4 => (unfold eO4; intro w hSw; (try dsimp only at hSw); go_simp <;> with_reducible rfl)
                try simp only [Act.put, List.setIfInBounds_toArray, List.set_cons_zero, List.set_cons_succ]
                refine wpAnyH_ready (rs := [5]) (by kernel_rfl) (by simp) ?_
                refine AllReadyH.cons (o := { dst := some 18, op := Op.call { callee := Callee.value (Operand.func 30), args := #[Operand.tmp 17], argTypes := #[3] }, type := 3, pos := "print.go:28", after := #[{ on := 4, ground := Ground.data }], guard := none }) rfl (fun K hK => ?_) AllReadyH.nil
                go_simp
                go_at_call 30; refine (HPa.out _).mono ?_; rintro e w9 ⟨rfl, hw⟩; obtain rfl := hw.symm
                refine hK.out _ _ hHeld (fun _ => ?_)
                clear hK K
                try simp only [Act.put, List.setIfInBounds_toArray, List.set_cons_zero, List.set_cons_succ]
                refine tqY 6 eO6 (some 19) ?vk2h6 rfl rfl (by kernel_rfl) (fun _ _ _ h => h) ?hk2h6 (by assumption) ?rk2h6
                case hk2h6 => (unfold eO6; intro w hSw; (try dsimp only at hSw); go_simp <;> with_reducible rfl)
                try simp only [Act.put, List.setIfInBounds_toArray, List.set_cons_zero, List.set_cons_succ]
                refine tqY 7 eO7 (some 20) ?vk2h7 rfl rfl (by kernel_rfl) (fun _ _ _ h => h) ?hk2h7 (by assumption) ?rk2h7
                case hk2h7 => (unfold eO7; intro w hSw; (try dsimp only at hSw); go_simp <;> with_reducible rfl)
                try simp only [Act.put, List.setIfInBounds_toArray, List.set_cons_zero, List.set_cons_succ]
                refine tqY 8 eO8 (some 21) ?vk2h8 rfl rfl (by kernel_rfl) (fun _ _ _ h => h) ?hk2h8 (by assumption) ?rk2h8
                case hk2h8 => (unfold eO8; intro w hSw; (try dsimp only at hSw); go_simp <;> with_reducible rfl)
                try simp only [Act.put, List.setIfInBounds_toArray, List.set_cons_zero, List.set_cons_succ]
                refine tqY 9 eO9 (some 22) ?vk2h9 rfl rfl (by kernel_rfl) (fun _ _ _ h => h) ?hk2h9 (by assumption) ?rk2h9
                case hk2h9 => (unfold eO9; intro w hSw; (try dsimp only at hSw); go_simp <;> with_reducible rfl)
                try simp only [Act.put, List.setIfInBounds_toArray, List.set_cons_zero, List.set_cons_succ]
                refine tqY 10 eO10 (some 23) ?vk2h10 rfl rfl (by kernel_rfl) (fun _ _ _ h => h) ?hk2h10 (by assumption) ?rk2h10
                case hk2h10 => (unfold eO10; intro w hSw; (try dsimp only at hSw); go_simp <;> with_reducible rfl)
                try simp only [Act.put, List.setIfInBounds_toArray, List.set_cons_zero, List.set_cons_succ]
                refine tqY 11 eO11 (some 24) ?vk2h11 rfl rfl (by kernel_rfl) (fun _ _ _ h => h) ?hk2h11 (by assumption) ?rk2h11
                case hk2h11 => (unfold eO11; intro w hSw; (try dsimp only at hSw); go_simp <;> with_reducible rfl)
                try simp only [Act.put, List.setIfInBounds_toArray, List.set_cons_zero, List.set_cons_succ]
                refine tqY 12 eO12 (some 25) ?vk2h12 rfl rfl (by kernel_rfl) (fun _ _ _ h => h) ?hk2h12 (by assumption) ?rk2h12
                case hk2h12 => (unfold eO12; intro w hSw; (try dsimp only at hSw); go_simp <;> with_reducible rfl)
                try simp only [Act.put, List.setIfInBounds_toArray, List.set_cons_zero, List.set_cons_succ]
                refine tqY 13 eO13 (some 26) ?vk2h13 rfl rfl (by kernel_rfl) (fun _ _ _ h => h) ?hk2h13 (by assumption) ?rk2h13
                case hk2h13 => (unfold eO13; intro w hSw; (try dsimp only at hSw); go_simp <;> with_reducible rfl)
                try simp only [Act.put, List.setIfInBounds_toArray, List.set_cons_zero, List.set_cons_succ]
                refine tqY 14 eO14 (some 27) ?vk2h14 rfl rfl (by kernel_rfl) (fun _ _ _ h => h) ?hk2h14 (by assumption) ?rk2h14
                case hk2h14 => (unfold eO14; intro w hSw; (try dsimp only at hSw); go_simp <;> with_reducible rfl)
                try simp only [Act.put, List.setIfInBounds_toArray, List.set_cons_zero, List.set_cons_succ]
                refine tqY 15 eO15 (some 28) ?vk2h15 rfl rfl (by kernel_rfl) (fun _ _ _ h => h) ?hk2h15 (by assumption) ?rk2h15
                case hk2h15 => (unfold eO15; intro w hSw; (try dsimp only at hSw); go_simp <;> with_reducible rfl)
                try simp only [Act.put, List.setIfInBounds_toArray, List.set_cons_zero, List.set_cons_succ]
                refine tqY 16 eO16 (some 29) ?vk2h16 rfl rfl (by kernel_rfl) (fun _ _ _ h => h) ?hk2h16 (by assumption) ?rk2h16
                case hk2h16 => (unfold eO16; intro w hSw; (try dsimp only at hSw); go_simp <;> with_reducible rfl)
                try simp only [Act.put, List.setIfInBounds_toArray, List.set_cons_zero, List.set_cons_succ]
                refine tqY 17 eO17 (some 30) ?vk2h17 rfl rfl (by kernel_rfl) (fun _ _ _ h => h) ?hk2h17 (by assumption) ?rk2h17
                case hk2h17 => (unfold eO17; intro w hSw; (try dsimp only at hSw); go_simp <;> with_reducible rfl)
                try simp only [Act.put, List.setIfInBounds_toArray, List.set_cons_zero, List.set_cons_succ]
                refine tqY 18 eO18 (some 31) ?vk2h18 rfl rfl (by kernel_rfl) (fun _ _ _ h => h) ?hk2h18 (by assumption) ?rk2h18
                case hk2h18 => (unfold eO18; intro w hSw; (try dsimp only at hSw); go_simp <;> with_reducible rfl)
                try simp only [Act.put, List.setIfInBounds_toArray, List.set_cons_zero, List.set_cons_succ]
                refine wpAnyH_ready (rs := [19]) (by kernel_rfl) (by simp) ?_
                refine AllReadyH.cons (o := { dst := some 32, op := Op.call { callee := Callee.value (Operand.func 9), args := #[Operand.tmp 31], argTypes := #[9] }, type := 4, pos := "print.go:28", after := #[{ on := 18, ground := Ground.data }, { on := 16, ground := Ground.chain }, { on := 16, ground := Ground.guard }], guard := some (16, true) }) rfl (fun K hK => ?_) AllReadyH.nil
                go_simp
                go_at_call 9; refine (HNm.out _).mono ?_; rintro e w9 ⟨he, hb⟩
                rw [hnm] at he
                subst he
                have hx9 := XS.of (hHeld.1.next hb)
                clear hb hHeld
                refine hK.out _ _ hx9 (fun hHeld => ?_)
                clear hK K hx9
                try simp only [Act.put, List.setIfInBounds_toArray, List.set_cons_zero, List.set_cons_succ]
                refine tqY 20 eO20 (some 33) ?vk2h20 rfl rfl (by kernel_rfl) (fun _ _ _ h => h) ?hk2h20 (by assumption) ?rk2h20
                case hk2h20 => (unfold eO20; intro w hSw; (try dsimp only at hSw); go_simp <;> with_reducible rfl)
                try simp only [Act.put, List.setIfInBounds_toArray, List.set_cons_zero, List.set_cons_succ]
                refine tqY 21 eO21 (some 34) ?vk2h21 rfl rfl (by kernel_rfl) (fun _ _ _ h => h) ?hk2h21 (by assumption) ?rk2h21
                case hk2h21 => (unfold eO21; intro w hSw; (try dsimp only at hSw); go_simp <;> with_reducible rfl)
                try simp only [Act.put, List.setIfInBounds_toArray, List.set_cons_zero, List.set_cons_succ]
                refine tqY 22 eO22 (some 35) ?vk2h22 rfl rfl (by kernel_rfl) (fun _ _ _ h => h) ?hk2h22 (by assumption) ?rk2h22
                case hk2h22 => (unfold eO22; intro w hSw; (try dsimp only at hSw); go_simp <;> with_reducible rfl)
                try simp only [Act.put, List.setIfInBounds_toArray, List.set_cons_zero, List.set_cons_succ]
                refine tqY 23 eO23 (some 36) ?vk2h23 rfl rfl (by kernel_rfl) (fun _ _ _ h => h) ?hk2h23 (by assumption) ?rk2h23
                case hk2h23 => (unfold eO23; intro w hSw; (try dsimp only at hSw); go_simp <;> with_reducible rfl)
                try simp only [Act.put, List.setIfInBounds_toArray, List.set_cons_zero, List.set_cons_succ]
                refine tqY 24 eO24 (some 37) ?vk2h24 rfl rfl (by kernel_rfl) (fun _ _ _ h => h) ?hk2h24 (by assumption) ?rk2h24
                case hk2h24 => (unfold eO24; intro w hSw; (try dsimp only at hSw); go_simp <;> with_reducible rfl)
                try simp only [Act.put, List.setIfInBounds_toArray, List.set_cons_zero, List.set_cons_succ]
                refine tqY 25 eO25 (some 38) ?vk2h25 rfl rfl (by kernel_rfl) (fun _ _ _ h => h) ?hk2h25 (by assumption) ?rk2h25
                case hk2h25 => (unfold eO25; intro w hSw; (try dsimp only at hSw); go_simp <;> with_reducible rfl)
                try simp only [Act.put, List.setIfInBounds_toArray, List.set_cons_zero, List.set_cons_succ]
                refine tqY 26 eO26 (some 39) ?vk2h26 rfl rfl (by kernel_rfl) (fun _ _ _ h => h) ?hk2h26 (by assumption) ?rk2h26
                case hk2h26 => (unfold eO26; intro w hSw; (try dsimp only at hSw); go_simp <;> with_reducible rfl)
                try simp only [Act.put, List.setIfInBounds_toArray, List.set_cons_zero, List.set_cons_succ]
                refine tqY 27 eO27 (some 40) ?vk2h27 rfl rfl (by kernel_rfl) (fun _ _ _ h => h) ?hk2h27 (by assumption) ?rk2h27
                case hk2h27 => (unfold eO27; intro w hSw; (try dsimp only at hSw); go_simp <;> with_reducible rfl)
                try simp only [Act.put, List.setIfInBounds_toArray, List.set_cons_zero, List.set_cons_succ]
                refine tqY 28 eO28 (some 41) ?vk2h28 rfl rfl (by kernel_rfl) (fun _ _ _ h => h) ?hk2h28 (by assumption) ?rk2h28
                case hk2h28 => (unfold eO28; intro w hSw; (try dsimp only at hSw); go_simp <;> with_reducible rfl)
                try simp only [Act.put, List.setIfInBounds_toArray, List.set_cons_zero, List.set_cons_succ]
                refine tqY 29 eO29 (some 42) ?vk2h29 rfl rfl (by kernel_rfl) (fun _ _ _ h => h) ?hk2h29 (by assumption) ?rk2h29
                case hk2h29 => (unfold eO29; intro w hSw; (try dsimp only at hSw); go_simp <;> with_reducible rfl)
                try simp only [Act.put, List.setIfInBounds_toArray, List.set_cons_zero, List.set_cons_succ]
                refine tqY 30 eO30 (some 43) ?vk2h30 rfl rfl (by kernel_rfl) (fun _ _ _ h => h) ?hk2h30 (by assumption) ?rk2h30
                case hk2h30 => (unfold eO30; intro w hSw; (try dsimp only at hSw); go_simp <;> with_reducible rfl)
                try simp only [Act.put, List.setIfInBounds_toArray, List.set_cons_zero, List.set_cons_succ]
                refine tqY 31 eO31 (some 44) ?vk2h31 rfl rfl (by kernel_rfl) (fun _ _ _ h => h) ?hk2h31 (by assumption) ?rk2h31
                case hk2h31 => (unfold eO31; intro w hSw; (try dsimp only at hSw); go_simp <;> with_reducible rfl)
                try simp only [Act.put, List.setIfInBounds_toArray, List.set_cons_zero, List.set_cons_succ]
                refine tqY 32 eO32 (some 45) ?vk2h32 rfl rfl (by kernel_rfl) (fun _ _ _ h => h) ?hk2h32 (by assumption) ?rk2h32
                case hk2h32 => (unfold eO32; intro w hSw; (try dsimp only at hSw); go_simp <;> with_reducible rfl)
                try simp only [Act.put, List.setIfInBounds_toArray, List.set_cons_zero, List.set_cons_succ]
                refine wpAnyH_done (by kernel_rfl) ?_ _
                try go_wp2_with fail
                go_meet
                exact ⟨true, rfl, ⟨fun h => (by cases h), fun h => absurd (HOk.out.1 h) (by intro hh; rcases hh.2.2 with h | h; exact absurd h (by decide); exact hx0 h)⟩, hHeld.1⟩
        · have t6 : ((len : Int) != P) = true := by simpa using hpl
          refine wp_region_held_drew (S := (fun X => XB W W.heap.size #[.int .i64 2, .int .u64 x, .string s, .slice ad len cap] X ∧ X.cell? ⟨W.heap.size, 0, none⟩ = some (.int .i64 2) ∧ X.cell? ⟨W.heap.size, 1, none⟩ = some (.int .u64 x) ∧ X.cell? ⟨W.heap.size, 2, none⟩ = some (.string s) ∧ X.cell? ⟨W.heap.size, 3, none⟩ = some (.slice ad len cap))) (by kernel_rfl) (XS.of HX.out.drew) (fun hHeld => ?_)
          refine tqY 0 eO0 (some 13) ?vk2i0 rfl rfl (by kernel_rfl) (fun _ _ _ h => h) ?hk2i0 (by assumption) ?rk2i0
          case hk2i0 => (unfold eO0; intro w hSw; (try dsimp only at hSw); go_simp <;> with_reducible rfl)
          try simp only [Act.put, List.setIfInBounds_toArray, List.set_cons_zero, List.set_cons_succ]
          refine tqY 1 eO1 (some 14) ?vk2i1 rfl rfl (by kernel_rfl) (fun _ _ _ h => h) ?hk2i1 (by assumption) ?rk2i1
          case hk2i1 => (unfold eO1; intro w hSw; (try dsimp only at hSw); go_simp <;> with_reducible rfl)
          try simp only [Act.put, List.setIfInBounds_toArray, List.set_cons_zero, List.set_cons_succ]
          refine tqY 2 eO2 (some 15) ?vk2i2 rfl rfl (by kernel_rfl) (fun _ _ _ h => h) ?hk2i2 (by assumption) ?rk2i2
          case hk2i2 => (unfold eO2; intro w hSw; (try dsimp only at hSw); go_simp <;> with_reducible rfl)
          try simp only [Act.put, List.setIfInBounds_toArray, List.set_cons_zero, List.set_cons_succ]
          refine tqY 3 eO3 (some 16) ?vk2i3 rfl rfl (by kernel_rfl) (fun _ _ _ h => h) ?hk2i3 (by assumption) ?rk2i3
          case hk2i3 => (unfold eO3; intro w hSw; (try dsimp only at hSw); go_simp <;> with_reducible rfl)
          try simp only [Act.put, List.setIfInBounds_toArray, List.set_cons_zero, List.set_cons_succ]
          refine tqY 4 eO4 (some 17) ?vk2i4 rfl rfl (by kernel_rfl) (fun _ _ _ h => h) ?hk2i4 (by assumption) ?rk2i4
          case hk2i4 => (unfold eO4; intro w hSw; (try dsimp only at hSw); go_simp <;> with_reducible rfl)
          try simp only [Act.put, List.setIfInBounds_toArray, List.set_cons_zero, List.set_cons_succ]
          refine wpAnyH_ready (rs := [5]) (by kernel_rfl) (by simp) ?_
          refine AllReadyH.cons (o := { dst := some 18, op := Op.call { callee := Callee.value (Operand.func 30), args := #[Operand.tmp 17], argTypes := #[3] }, type := 3, pos := "print.go:28", after := #[{ on := 4, ground := Ground.data }], guard := none }) rfl (fun K hK => ?_) AllReadyH.nil
          go_simp
          go_at_call 30; refine (HPa.out _).mono ?_; rintro e w9 ⟨rfl, hw⟩; obtain rfl := hw.symm
          refine hK.out _ _ hHeld (fun _ => ?_)
          clear hK K
          try simp only [Act.put, List.setIfInBounds_toArray, List.set_cons_zero, List.set_cons_succ]
          refine tqY 6 eO6 (some 19) ?vk2i6 rfl rfl (by kernel_rfl) (fun _ _ _ h => h) ?hk2i6 (by assumption) ?rk2i6
          case hk2i6 => (unfold eO6; intro w hSw; (try dsimp only at hSw); go_simp <;> with_reducible rfl)
          try simp only [Act.put, List.setIfInBounds_toArray, List.set_cons_zero, List.set_cons_succ]
          refine tqY 7 eO7 (some 20) ?vk2i7 rfl rfl (by kernel_rfl) (fun _ _ _ h => h) ?hk2i7 (by assumption) ?rk2i7
          case hk2i7 => (unfold eO7; intro w hSw; (try dsimp only at hSw); go_simp <;> with_reducible rfl)
          try simp only [Act.put, List.setIfInBounds_toArray, List.set_cons_zero, List.set_cons_succ]
          refine tqN 8 eO8 (some 21) rfl rfl (by kernel_rfl) (fun _ _ _ h => h) (by assumption) ?rk2i8
          try simp only [Act.put, List.setIfInBounds_toArray, List.set_cons_zero, List.set_cons_succ]
          refine tqN 9 eO9 (some 22) rfl rfl (by kernel_rfl) (fun _ _ _ h => h) (by assumption) ?rk2i9
          try simp only [Act.put, List.setIfInBounds_toArray, List.set_cons_zero, List.set_cons_succ]
          refine tqN 10 eO10 (some 23) rfl rfl (by kernel_rfl) (fun _ _ _ h => h) (by assumption) ?rk2i10
          try simp only [Act.put, List.setIfInBounds_toArray, List.set_cons_zero, List.set_cons_succ]
          refine tqN 11 eO11 (some 24) rfl rfl (by kernel_rfl) (fun _ _ _ h => h) (by assumption) ?rk2i11
          try simp only [Act.put, List.setIfInBounds_toArray, List.set_cons_zero, List.set_cons_succ]
          refine tqN 12 eO12 (some 25) rfl rfl (by kernel_rfl) (fun _ _ _ h => h) (by assumption) ?rk2i12
          try simp only [Act.put, List.setIfInBounds_toArray, List.set_cons_zero, List.set_cons_succ]
          refine tqY 13 eO13 (some 26) ?vk2i13 rfl rfl (by kernel_rfl) (fun _ _ _ h => h) ?hk2i13 (by assumption) ?rk2i13
          case hk2i13 => (unfold eO13; intro w hSw; (try dsimp only at hSw); go_simp <;> with_reducible rfl)
          try simp only [Act.put, List.setIfInBounds_toArray, List.set_cons_zero, List.set_cons_succ]
          refine tqY 14 eO14 (some 27) ?vk2i14 rfl rfl (by kernel_rfl) (fun _ _ _ h => h) ?hk2i14 (by assumption) ?rk2i14
          case hk2i14 => (unfold eO14; intro w hSw; (try dsimp only at hSw); go_simp <;> with_reducible rfl)
          try simp only [Act.put, List.setIfInBounds_toArray, List.set_cons_zero, List.set_cons_succ]
          refine tqN 15 eO15 (some 28) rfl rfl (by kernel_rfl) (fun _ _ _ h => h) (by assumption) ?rk2i15
          try simp only [Act.put, List.setIfInBounds_toArray, List.set_cons_zero, List.set_cons_succ]
          refine tqN 16 eO16 (some 29) rfl rfl (by kernel_rfl) (fun _ _ _ h => h) (by assumption) ?rk2i16
          try simp only [Act.put, List.setIfInBounds_toArray, List.set_cons_zero, List.set_cons_succ]
          refine tqN 17 eO17 (some 30) rfl rfl (by kernel_rfl) (fun _ _ _ h => h) (by assumption) ?rk2i17
          try simp only [Act.put, List.setIfInBounds_toArray, List.set_cons_zero, List.set_cons_succ]
          refine tqN 18 eO18 (some 31) rfl rfl (by kernel_rfl) (fun _ _ _ h => h) (by assumption) ?rk2i18
          try simp only [Act.put, List.setIfInBounds_toArray, List.set_cons_zero, List.set_cons_succ]
          refine tqN 19 eO19 (some 32) rfl rfl (by kernel_rfl) (fun _ _ _ h => h) (by assumption) ?rk2i19
          try simp only [Act.put, List.setIfInBounds_toArray, List.set_cons_zero, List.set_cons_succ]
          refine tqN 20 eO20 (some 33) rfl rfl (by kernel_rfl) (fun _ _ _ h => h) (by assumption) ?rk2i20
          try simp only [Act.put, List.setIfInBounds_toArray, List.set_cons_zero, List.set_cons_succ]
          refine tqN 21 eO21 (some 34) rfl rfl (by kernel_rfl) (fun _ _ _ h => h) (by assumption) ?rk2i21
          try simp only [Act.put, List.setIfInBounds_toArray, List.set_cons_zero, List.set_cons_succ]
          refine tqY 22 eO22 (some 35) ?vk2i22 rfl rfl (by kernel_rfl) (fun _ _ _ h => h) ?hk2i22 (by assumption) ?rk2i22
          case hk2i22 => (unfold eO22; intro w hSw; (try dsimp only at hSw); go_simp <;> with_reducible rfl)
          try simp only [Act.put, List.setIfInBounds_toArray, List.set_cons_zero, List.set_cons_succ]
          refine tqY 23 eO23 (some 36) ?vk2i23 rfl rfl (by kernel_rfl) (fun _ _ _ h => h) ?hk2i23 (by assumption) ?rk2i23
          case hk2i23 => (unfold eO23; intro w hSw; (try dsimp only at hSw); go_simp <;> with_reducible rfl)
          try simp only [Act.put, List.setIfInBounds_toArray, List.set_cons_zero, List.set_cons_succ]
          refine tqN 24 eO24 (some 37) rfl rfl (by kernel_rfl) (fun _ _ _ h => h) (by assumption) ?rk2i24
          try simp only [Act.put, List.setIfInBounds_toArray, List.set_cons_zero, List.set_cons_succ]
          refine tqN 25 eO25 (some 38) rfl rfl (by kernel_rfl) (fun _ _ _ h => h) (by assumption) ?rk2i25
          try simp only [Act.put, List.setIfInBounds_toArray, List.set_cons_zero, List.set_cons_succ]
          refine tqN 26 eO26 (some 39) rfl rfl (by kernel_rfl) (fun _ _ _ h => h) (by assumption) ?rk2i26
          try simp only [Act.put, List.setIfInBounds_toArray, List.set_cons_zero, List.set_cons_succ]
          refine tqN 27 eO27 (some 40) rfl rfl (by kernel_rfl) (fun _ _ _ h => h) (by assumption) ?rk2i27
          try simp only [Act.put, List.setIfInBounds_toArray, List.set_cons_zero, List.set_cons_succ]
          refine tqN 28 eO28 (some 41) rfl rfl (by kernel_rfl) (fun _ _ _ h => h) (by assumption) ?rk2i28
          try simp only [Act.put, List.setIfInBounds_toArray, List.set_cons_zero, List.set_cons_succ]
          refine tqN 29 eO29 (some 42) rfl rfl (by kernel_rfl) (fun _ _ _ h => h) (by assumption) ?rk2i29
          try simp only [Act.put, List.setIfInBounds_toArray, List.set_cons_zero, List.set_cons_succ]
          refine tqN 30 eO30 (some 43) rfl rfl (by kernel_rfl) (fun _ _ _ h => h) (by assumption) ?rk2i30
          try simp only [Act.put, List.setIfInBounds_toArray, List.set_cons_zero, List.set_cons_succ]
          refine tqN 31 eO31 (some 44) rfl rfl (by kernel_rfl) (fun _ _ _ h => h) (by assumption) ?rk2i31
          try simp only [Act.put, List.setIfInBounds_toArray, List.set_cons_zero, List.set_cons_succ]
          refine tqY 32 eO32 (some 45) ?vk2i32 rfl rfl (by kernel_rfl) (fun _ _ _ h => h) ?hk2i32 (by assumption) ?rk2i32
          case hk2i32 => (unfold eO32; intro w hSw; (try dsimp only at hSw); go_simp <;> with_reducible rfl)
          try simp only [Act.put, List.setIfInBounds_toArray, List.set_cons_zero, List.set_cons_succ]
          refine wpAnyH_done (by kernel_rfl) ?_ _
          try go_wp2_with fail
          go_meet
          exact ⟨true, rfl, ⟨fun h => (by cases h), fun h => absurd (HOk.out.1 h) (by intro hh; exact hpl hh.1)⟩, hHeld.1⟩
      case rest =>
        obtain ⟨bd, rfl, hok, hxb⟩ := hcut
        have HXc : Hid (XB W W.heap.size #[.int .i64 2, .int .u64 x, .string s, .slice ad len cap] wc) := hxb
        have HOb : Hid (bd = false ↔ okX) := hok
        clear hok hxb HX HOk HPa HNm
        cases bd with
        | true =>
          have HB9 : Hid (Below W.heap.size W wc) := HXc.out.out.2
          go_wp2
          go_ret
          exact BP.f (fun h => absurd (HOb.out.2 (HFE.out.1 h).1) (by decide)) HB9.out
        | false =>
          have HO2 : Hid okX := HOb.out.1 rfl
          have c3 : wc.cell? ⟨W.heap.size, 3, none⟩ = some (.slice ad len cap) := lc HXc.out.out.1 3
          go_wp2_with fail
          go_loopg [4] len (fun gk v4 wr => ∃ j : Nat, v4 = .int .i64 (j : Int) ∧ j + gk = len ∧ Aside (XB W W.heap.size #[.int .i64 2, .int .u64 x, .string s, .slice ad len cap] wr ∧ ∀ i, i < j → KO w0 (FE w0 n) ad i))
          case atStart => exact ⟨0, rfl, by omega, ⟨HXc.out, fun i hi => absurd hi (by omega)⟩⟩
          case round =>
            clear HXc c3
            obtain ⟨j, rfl, hj, HR⟩ := hrel
            have HR2 : Hid (XB W W.heap.size #[.int .i64 2, .int .u64 x, .string s, .slice ad len cap] wr ∧ ∀ i, i < j → KO w0 (FE w0 n) ad i) := HR.out
            clear HR
            have c3 : wr.cell? ⟨W.heap.size, 3, none⟩ = some (.slice ad len cap) := lc HR2.out.1.out.1 3
            by_cases hlt : j < len
            · have q1 : (j : Int) < (len : Int) := by omega
              obtain ⟨b, o, rfl, hb, hel⟩ := HSX.out (by omega)
              obtain ⟨v0, v1, v2, v3, h0, h1, h2, h3, hex⟩ := hel j hlt
              have HB0 : Hid (Below w0.heap.size w0 wr) := bnext HW.out HR2.out.1.out.2
              have y0 := (HB0.out.cell (p := ⟨b, o + j * 4, none⟩) hb).trans h0
              have y1 := (HB0.out.cell (p := ⟨b, o + j * 4 + 1, none⟩) hb).trans h1
              have y2 := (HB0.out.cell (p := ⟨b, o + j * 4 + 2, none⟩) hb).trans h2
              have y3 := (HB0.out.cell (p := ⟨b, o + j * 4 + 3, none⟩) hb).trans h3
              have HKo : Hid (KO w0 (FE w0 n) (some ⟨b, o, none⟩) j ↔ FE w0 n [v0, v1, v2, v3]) := KO_at h0 h1 h2 h3
              have HCl : Hid (Calls Tryd.prog 27 #[.agg #[v0, v1, v2, v3]] wr (BP (FE w0 n [v0, v1, v2, v3]) wr)) := IH.out [v0, v1, v2, v3] wr hex HB0.out
              clear hel h0 h1 h2 h3 hex hb
              go_wp2_with fail
              refine HCl.out.mono ?_
              rintro e w1 ⟨bb, rfl, hiff, hbl⟩
              have HB1 : Hid (Below wr.heap.size wr w1 ∧ (bb = true ↔ FE w0 n [v0, v1, v2, v3])) := ⟨hbl, hiff⟩
              clear hbl hiff y0 y1 y2 y3 c3 HCl
              cases bb with
              | false =>
                have HE : Hid (Below W.heap.size W w1 ∧ ¬ SF w0 (FE w0 n) (.slice (some ⟨b, o, none⟩) len cap)) := ⟨bnext HR2.out.1.out.2 HB1.out.1, fun h => absurd (HB1.out.2.2 (HKo.out.1 (SF_iff.1 h j hlt))) (by decide)⟩
                go_wp2
                go_ret
                exact BP.f (fun h => absurd (HFE.out.1 h).2 HE.out.2) HE.out.1
              | true =>
                have HN : Aside (XB W W.heap.size #[.int .i64 2, .int .u64 x, .string s, .slice (some ⟨b, o, none⟩) len cap] w1 ∧ ∀ i, i < j + 1 → KO w0 (FE w0 n) (some ⟨b, o, none⟩) i) := ⟨HR2.out.1.next HB1.out.1, fun i hi => by
                  by_cases e : i = j
                  · subst e
                    exact HKo.out.2 (HB1.out.2.1 rfl)
                  · exact HR2.out.2 i (by omega)⟩
                go_wp2_with fail
                go_roundg (gk - 1)
                case measure => omega
                case rel => exact ⟨j + 1, by simp, by omega, HN⟩
            · obtain rfl : j = len := by omega
              have q1 : ¬ (j : Int) < (j : Int) := by omega
              have HE : Hid (Below W.heap.size W wr ∧ SF w0 (FE w0 n) (.slice ad j cap)) := ⟨HR2.out.1.out.2, SF_iff.2 HR2.out.2⟩
              go_wp2
              go_ret
              exact BP.t (HFE.out.2 ⟨HO2.out, HE.out.2⟩) HE.out.1
    · by_cases hk3 : k = 3
      · subst hk3
        obtain ⟨okX, hokX⟩ : ∃ okX : Prop, okX ↔ ((len : Int) = P ∧ nameB s = true ∧ ((3 : Int) = 1 ∨ x = 0)) := ⟨_, Iff.rfl⟩
        have HOk : Hid (okX ↔ ((len : Int) = P ∧ nameB s = true ∧ ((3 : Int) = 1 ∨ x = 0))) := hokX
        rw [if_pos (Or.inr rfl), ← hokX] at HFE
        clear hokX
        go_enter Tryd.func27, Tryd.ntmps27
        go_wp2_with fail
        generalize W.alloc (.cells #[.int .i64 3, .int .u64 x, .string s, .slice ad len cap] 40) = W1 at *
        go_cut [45] (fun s45 wx => ∃ bd, s45 = .bool bd ∧ Aside ((bd = false ↔ okX) ∧ XB W W.heap.size #[.int .i64 3, .int .u64 x, .string s, .slice ad len cap] wx))
        case first =>
          by_cases hpl : (len : Int) = P
          · have t6 : ((len : Int) != P) = false := by simp [hpl]
            replace hpl : Hid ((len : Int) = P) := hpl
            by_cases hs0 : s.size = 0
            · have e0 := empty_yes s hs0
              refine wp_region_held_drew (S := (fun X => XB W W.heap.size #[.int .i64 3, .int .u64 x, .string s, .slice ad len cap] X ∧ X.cell? ⟨W.heap.size, 0, none⟩ = some (.int .i64 3) ∧ X.cell? ⟨W.heap.size, 1, none⟩ = some (.int .u64 x) ∧ X.cell? ⟨W.heap.size, 2, none⟩ = some (.string s) ∧ X.cell? ⟨W.heap.size, 3, none⟩ = some (.slice ad len cap))) (by kernel_rfl) (XS.of HX.out.drew) (fun hHeld => ?_)
              refine tqY 0 eO0 (some 13) ?vk3a0 rfl rfl (by kernel_rfl) (fun _ _ _ h => h) ?hk3a0 (by assumption) ?rk3a0
              case hk3a0 => (unfold eO0; intro w hSw; (try dsimp only at hSw); go_simp <;> with_reducible rfl)
              try simp only [Act.put, List.setIfInBounds_toArray, List.set_cons_zero, List.set_cons_succ]
              refine tqY 1 eO1 (some 14) ?vk3a1 rfl rfl (by kernel_rfl) (fun _ _ _ h => h) ?hk3a1 (by assumption) ?rk3a1
              case hk3a1 => (unfold eO1; intro w hSw; (try dsimp only at hSw); go_simp <;> with_reducible rfl)
              try simp only [Act.put, List.setIfInBounds_toArray, List.set_cons_zero, List.set_cons_succ]
              refine tqY 2 eO2 (some 15) ?vk3a2 rfl rfl (by kernel_rfl) (fun _ _ _ h => h) ?hk3a2 (by assumption) ?rk3a2
              case hk3a2 => (unfold eO2; intro w hSw; (try dsimp only at hSw); go_simp <;> with_reducible rfl)
              try simp only [Act.put, List.setIfInBounds_toArray, List.set_cons_zero, List.set_cons_succ]
              refine tqY 3 eO3 (some 16) ?vk3a3 rfl rfl (by kernel_rfl) (fun _ _ _ h => h) ?hk3a3 (by assumption) ?rk3a3
              case hk3a3 => (unfold eO3; intro w hSw; (try dsimp only at hSw); go_simp <;> with_reducible rfl)
              try simp only [Act.put, List.setIfInBounds_toArray, List.set_cons_zero, List.set_cons_succ]
              refine tqY 4 eO4 (some 17) ?vk3a4 rfl rfl (by kernel_rfl) (fun _ _ _ h => h) ?hk3a4 (by assumption) ?rk3a4
              case hk3a4 => (unfold eO4; intro w hSw; (try dsimp only at hSw); go_simp <;> with_reducible rfl)
              try simp only [Act.put, List.setIfInBounds_toArray, List.set_cons_zero, List.set_cons_succ]
              refine wpAnyH_ready (rs := [5]) (by kernel_rfl) (by simp) ?_
              refine AllReadyH.cons (o := { dst := some 18, op := Op.call { callee := Callee.value (Operand.func 30), args := #[Operand.tmp 17], argTypes := #[3] }, type := 3, pos := "print.go:28", after := #[{ on := 4, ground := Ground.data }], guard := none }) rfl (fun K hK => ?_) AllReadyH.nil
              go_simp
              go_at_call 30; refine (HPa.out _).mono ?_; rintro e w9 ⟨rfl, hw⟩; obtain rfl := hw.symm
              refine hK.out _ _ hHeld (fun _ => ?_)
              clear hK K
              try simp only [Act.put, List.setIfInBounds_toArray, List.set_cons_zero, List.set_cons_succ]
              refine tqY 6 eO6 (some 19) ?vk3a6 rfl rfl (by kernel_rfl) (fun _ _ _ h => h) ?hk3a6 (by assumption) ?rk3a6
              case hk3a6 => (unfold eO6; intro w hSw; (try dsimp only at hSw); go_simp <;> with_reducible rfl)
              try simp only [Act.put, List.setIfInBounds_toArray, List.set_cons_zero, List.set_cons_succ]
              refine tqY 7 eO7 (some 20) ?vk3a7 rfl rfl (by kernel_rfl) (fun _ _ _ h => h) ?hk3a7 (by assumption) ?rk3a7
              case hk3a7 => (unfold eO7; intro w hSw; (try dsimp only at hSw); go_simp <;> with_reducible rfl)
              try simp only [Act.put, List.setIfInBounds_toArray, List.set_cons_zero, List.set_cons_succ]
              refine tqY 8 eO8 (some 21) ?vk3a8 rfl rfl (by kernel_rfl) (fun _ _ _ h => h) ?hk3a8 (by assumption) ?rk3a8
              case hk3a8 => (unfold eO8; intro w hSw; (try dsimp only at hSw); go_simp <;> with_reducible rfl)
              try simp only [Act.put, List.setIfInBounds_toArray, List.set_cons_zero, List.set_cons_succ]
              refine tqY 9 eO9 (some 22) ?vk3a9 rfl rfl (by kernel_rfl) (fun _ _ _ h => h) ?hk3a9 (by assumption) ?rk3a9
              case hk3a9 => (unfold eO9; intro w hSw; (try dsimp only at hSw); go_simp <;> with_reducible rfl)
              try simp only [Act.put, List.setIfInBounds_toArray, List.set_cons_zero, List.set_cons_succ]
              refine tqY 10 eO10 (some 23) ?vk3a10 rfl rfl (by kernel_rfl) (fun _ _ _ h => h) ?hk3a10 (by assumption) ?rk3a10
              case hk3a10 => (unfold eO10; intro w hSw; (try dsimp only at hSw); go_simp <;> with_reducible rfl)
              try simp only [Act.put, List.setIfInBounds_toArray, List.set_cons_zero, List.set_cons_succ]
              refine tqY 11 eO11 (some 24) ?vk3a11 rfl rfl (by kernel_rfl) (fun _ _ _ h => h) ?hk3a11 (by assumption) ?rk3a11
              case hk3a11 => (unfold eO11; intro w hSw; (try dsimp only at hSw); go_simp <;> with_reducible rfl)
              try simp only [Act.put, List.setIfInBounds_toArray, List.set_cons_zero, List.set_cons_succ]
              refine tqY 12 eO12 (some 25) ?vk3a12 rfl rfl (by kernel_rfl) (fun _ _ _ h => h) ?hk3a12 (by assumption) ?rk3a12
              case hk3a12 => (unfold eO12; intro w hSw; (try dsimp only at hSw); go_simp <;> with_reducible rfl)
              try simp only [Act.put, List.setIfInBounds_toArray, List.set_cons_zero, List.set_cons_succ]
              refine tqY 13 eO13 (some 26) ?vk3a13 rfl rfl (by kernel_rfl) (fun _ _ _ h => h) ?hk3a13 (by assumption) ?rk3a13
              case hk3a13 => (unfold eO13; intro w hSw; (try dsimp only at hSw); go_simp <;> with_reducible rfl)
              try simp only [Act.put, List.setIfInBounds_toArray, List.set_cons_zero, List.set_cons_succ]
              refine tqY 14 eO14 (some 27) ?vk3a14 rfl rfl (by kernel_rfl) (fun _ _ _ h => h) ?hk3a14 (by assumption) ?rk3a14
              case hk3a14 => (unfold eO14; intro w hSw; (try dsimp only at hSw); go_simp <;> with_reducible rfl)
              try simp only [Act.put, List.setIfInBounds_toArray, List.set_cons_zero, List.set_cons_succ]
              refine tqN 15 eO15 (some 28) rfl rfl (by kernel_rfl) (fun _ _ _ h => h) (by assumption) ?rk3a15
              try simp only [Act.put, List.setIfInBounds_toArray, List.set_cons_zero, List.set_cons_succ]
              refine tqN 16 eO16 (some 29) rfl rfl (by kernel_rfl) (fun _ _ _ h => h) (by assumption) ?rk3a16
              try simp only [Act.put, List.setIfInBounds_toArray, List.set_cons_zero, List.set_cons_succ]
              refine tqN 17 eO17 (some 30) rfl rfl (by kernel_rfl) (fun _ _ _ h => h) (by assumption) ?rk3a17
              try simp only [Act.put, List.setIfInBounds_toArray, List.set_cons_zero, List.set_cons_succ]
              refine tqN 18 eO18 (some 31) rfl rfl (by kernel_rfl) (fun _ _ _ h => h) (by assumption) ?rk3a18
              try simp only [Act.put, List.setIfInBounds_toArray, List.set_cons_zero, List.set_cons_succ]
              refine tqN 19 eO19 (some 32) rfl rfl (by kernel_rfl) (fun _ _ _ h => h) (by assumption) ?rk3a19
              try simp only [Act.put, List.setIfInBounds_toArray, List.set_cons_zero, List.set_cons_succ]
              refine tqN 20 eO20 (some 33) rfl rfl (by kernel_rfl) (fun _ _ _ h => h) (by assumption) ?rk3a20
              try simp only [Act.put, List.setIfInBounds_toArray, List.set_cons_zero, List.set_cons_succ]
              refine tqN 21 eO21 (some 34) rfl rfl (by kernel_rfl) (fun _ _ _ h => h) (by assumption) ?rk3a21
              try simp only [Act.put, List.setIfInBounds_toArray, List.set_cons_zero, List.set_cons_succ]
              refine tqY 22 eO22 (some 35) ?vk3a22 rfl rfl (by kernel_rfl) (fun _ _ _ h => h) ?hk3a22 (by assumption) ?rk3a22
              case hk3a22 => (unfold eO22; intro w hSw; (try dsimp only at hSw); go_simp <;> with_reducible rfl)
              try simp only [Act.put, List.setIfInBounds_toArray, List.set_cons_zero, List.set_cons_succ]
              refine tqY 23 eO23 (some 36) ?vk3a23 rfl rfl (by kernel_rfl) (fun _ _ _ h => h) ?hk3a23 (by assumption) ?rk3a23
              case hk3a23 => (unfold eO23; intro w hSw; (try dsimp only at hSw); go_simp <;> with_reducible rfl)
              try simp only [Act.put, List.setIfInBounds_toArray, List.set_cons_zero, List.set_cons_succ]
              refine tqN 24 eO24 (some 37) rfl rfl (by kernel_rfl) (fun _ _ _ h => h) (by assumption) ?rk3a24
              try simp only [Act.put, List.setIfInBounds_toArray, List.set_cons_zero, List.set_cons_succ]
              refine tqN 25 eO25 (some 38) rfl rfl (by kernel_rfl) (fun _ _ _ h => h) (by assumption) ?rk3a25
              try simp only [Act.put, List.setIfInBounds_toArray, List.set_cons_zero, List.set_cons_succ]
              refine tqN 26 eO26 (some 39) rfl rfl (by kernel_rfl) (fun _ _ _ h => h) (by assumption) ?rk3a26
              try simp only [Act.put, List.setIfInBounds_toArray, List.set_cons_zero, List.set_cons_succ]
              refine tqN 27 eO27 (some 40) rfl rfl (by kernel_rfl) (fun _ _ _ h => h) (by assumption) ?rk3a27
              try simp only [Act.put, List.setIfInBounds_toArray, List.set_cons_zero, List.set_cons_succ]
              refine tqN 28 eO28 (some 41) rfl rfl (by kernel_rfl) (fun _ _ _ h => h) (by assumption) ?rk3a28
              try simp only [Act.put, List.setIfInBounds_toArray, List.set_cons_zero, List.set_cons_succ]
              refine tqN 29 eO29 (some 42) rfl rfl (by kernel_rfl) (fun _ _ _ h => h) (by assumption) ?rk3a29
              try simp only [Act.put, List.setIfInBounds_toArray, List.set_cons_zero, List.set_cons_succ]
              refine tqN 30 eO30 (some 43) rfl rfl (by kernel_rfl) (fun _ _ _ h => h) (by assumption) ?rk3a30
              try simp only [Act.put, List.setIfInBounds_toArray, List.set_cons_zero, List.set_cons_succ]
              refine tqN 31 eO31 (some 44) rfl rfl (by kernel_rfl) (fun _ _ _ h => h) (by assumption) ?rk3a31
              try simp only [Act.put, List.setIfInBounds_toArray, List.set_cons_zero, List.set_cons_succ]
              refine tqY 32 eO32 (some 45) ?vk3a32 rfl rfl (by kernel_rfl) (fun _ _ _ h => h) ?hk3a32 (by assumption) ?rk3a32
              case hk3a32 => (unfold eO32; intro w hSw; (try dsimp only at hSw); go_simp <;> with_reducible rfl)
              try simp only [Act.put, List.setIfInBounds_toArray, List.set_cons_zero, List.set_cons_succ]
              refine wpAnyH_done (by kernel_rfl) ?_ _
              try go_wp2_with fail
              go_meet
              exact ⟨true, rfl, ⟨fun h => (by cases h), fun h => absurd (HOk.out.1 h) (by intro hh; exact nameB_pos hh.2.1 hs0)⟩, hHeld.1⟩
            · have e0 := empty_no s hs0
              cases hnm : nameB s with
              | false =>
                refine wp_region_held_drew (S := (fun X => XB W W.heap.size #[.int .i64 3, .int .u64 x, .string s, .slice ad len cap] X ∧ X.cell? ⟨W.heap.size, 0, none⟩ = some (.int .i64 3) ∧ X.cell? ⟨W.heap.size, 1, none⟩ = some (.int .u64 x) ∧ X.cell? ⟨W.heap.size, 2, none⟩ = some (.string s) ∧ X.cell? ⟨W.heap.size, 3, none⟩ = some (.slice ad len cap))) (by kernel_rfl) (XS.of HX.out.drew) (fun hHeld => ?_)
                refine tqY 0 eO0 (some 13) ?vk3f0 rfl rfl (by kernel_rfl) (fun _ _ _ h => h) ?hk3f0 (by assumption) ?rk3f0
                case hk3f0 => (unfold eO0; intro w hSw; (try dsimp only at hSw); go_simp <;> with_reducible rfl)
                try simp only [Act.put, List.setIfInBounds_toArray, List.set_cons_zero, List.set_cons_succ]
                refine tqY 1 eO1 (some 14) ?vk3f1 rfl rfl (by kernel_rfl) (fun _ _ _ h => h) ?hk3f1 (by assumption) ?rk3f1
                case hk3f1 => (unfold eO1; intro w hSw; (try dsimp only at hSw); go_simp <;> with_reducible rfl)
                try simp only [Act.put, List.setIfInBounds_toArray, List.set_cons_zero, List.set_cons_succ]
                refine tqY 2 eO2 (some 15) ?vk3f2 rfl rfl (by kernel_rfl) (fun _ _ _ h => h) ?hk3f2 (by assumption) ?rk3f2
                case hk3f2 => (unfold eO2; intro w hSw; (try dsimp only at hSw); go_simp <;> with_reducible rfl)
                try simp only [Act.put, List.setIfInBounds_toArray, List.set_cons_zero, List.set_cons_succ]
                refine tqY 3 eO3 (some 16) ?vk3f3 rfl rfl (by kernel_rfl) (fun _ _ _ h => h) ?hk3f3 (by assumption) ?rk3f3
                case hk3f3 => (unfold eO3; intro w hSw; (try dsimp only at hSw); go_simp <;> with_reducible rfl)
                try simp only [Act.put, List.setIfInBounds_toArray, List.set_cons_zero, List.set_cons_succ]
                refine tqY 4 eO4 (some 17) ?vk3f4 rfl rfl (by kernel_rfl) (fun _ _ _ h => h) ?hk3f4 (by assumption) ?rk3f4
                case hk3f4 => (unfold eO4; intro w hSw; (try dsimp only at hSw); go_simp <;> with_reducible rfl)
                try simp only [Act.put, List.setIfInBounds_toArray, List.set_cons_zero, List.set_cons_succ]
                refine wpAnyH_ready (rs := [5]) (by kernel_rfl) (by simp) ?_
                refine AllReadyH.cons (o := { dst := some 18, op := Op.call { callee := Callee.value (Operand.func 30), args := #[Operand.tmp 17], argTypes := #[3] }, type := 3, pos := "print.go:28", after := #[{ on := 4, ground := Ground.data }], guard := none }) rfl (fun K hK => ?_) AllReadyH.nil
                go_simp
                go_at_call 30; refine (HPa.out _).mono ?_; rintro e w9 ⟨rfl, hw⟩; obtain rfl := hw.symm
                refine hK.out _ _ hHeld (fun _ => ?_)
                clear hK K
                try simp only [Act.put, List.setIfInBounds_toArray, List.set_cons_zero, List.set_cons_succ]
                refine tqY 6 eO6 (some 19) ?vk3f6 rfl rfl (by kernel_rfl) (fun _ _ _ h => h) ?hk3f6 (by assumption) ?rk3f6
                case hk3f6 => (unfold eO6; intro w hSw; (try dsimp only at hSw); go_simp <;> with_reducible rfl)
                try simp only [Act.put, List.setIfInBounds_toArray, List.set_cons_zero, List.set_cons_succ]
                refine tqY 7 eO7 (some 20) ?vk3f7 rfl rfl (by kernel_rfl) (fun _ _ _ h => h) ?hk3f7 (by assumption) ?rk3f7
                case hk3f7 => (unfold eO7; intro w hSw; (try dsimp only at hSw); go_simp <;> with_reducible rfl)
                try simp only [Act.put, List.setIfInBounds_toArray, List.set_cons_zero, List.set_cons_succ]
                refine tqY 8 eO8 (some 21) ?vk3f8 rfl rfl (by kernel_rfl) (fun _ _ _ h => h) ?hk3f8 (by assumption) ?rk3f8
                case hk3f8 => (unfold eO8; intro w hSw; (try dsimp only at hSw); go_simp <;> with_reducible rfl)
                try simp only [Act.put, List.setIfInBounds_toArray, List.set_cons_zero, List.set_cons_succ]
                refine tqY 9 eO9 (some 22) ?vk3f9 rfl rfl (by kernel_rfl) (fun _ _ _ h => h) ?hk3f9 (by assumption) ?rk3f9
                case hk3f9 => (unfold eO9; intro w hSw; (try dsimp only at hSw); go_simp <;> with_reducible rfl)
                try simp only [Act.put, List.setIfInBounds_toArray, List.set_cons_zero, List.set_cons_succ]
                refine tqY 10 eO10 (some 23) ?vk3f10 rfl rfl (by kernel_rfl) (fun _ _ _ h => h) ?hk3f10 (by assumption) ?rk3f10
                case hk3f10 => (unfold eO10; intro w hSw; (try dsimp only at hSw); go_simp <;> with_reducible rfl)
                try simp only [Act.put, List.setIfInBounds_toArray, List.set_cons_zero, List.set_cons_succ]
                refine tqY 11 eO11 (some 24) ?vk3f11 rfl rfl (by kernel_rfl) (fun _ _ _ h => h) ?hk3f11 (by assumption) ?rk3f11
                case hk3f11 => (unfold eO11; intro w hSw; (try dsimp only at hSw); go_simp <;> with_reducible rfl)
                try simp only [Act.put, List.setIfInBounds_toArray, List.set_cons_zero, List.set_cons_succ]
                refine tqY 12 eO12 (some 25) ?vk3f12 rfl rfl (by kernel_rfl) (fun _ _ _ h => h) ?hk3f12 (by assumption) ?rk3f12
                case hk3f12 => (unfold eO12; intro w hSw; (try dsimp only at hSw); go_simp <;> with_reducible rfl)
                try simp only [Act.put, List.setIfInBounds_toArray, List.set_cons_zero, List.set_cons_succ]
                refine tqY 13 eO13 (some 26) ?vk3f13 rfl rfl (by kernel_rfl) (fun _ _ _ h => h) ?hk3f13 (by assumption) ?rk3f13
                case hk3f13 => (unfold eO13; intro w hSw; (try dsimp only at hSw); go_simp <;> with_reducible rfl)
                try simp only [Act.put, List.setIfInBounds_toArray, List.set_cons_zero, List.set_cons_succ]
                refine tqY 14 eO14 (some 27) ?vk3f14 rfl rfl (by kernel_rfl) (fun _ _ _ h => h) ?hk3f14 (by assumption) ?rk3f14
                case hk3f14 => (unfold eO14; intro w hSw; (try dsimp only at hSw); go_simp <;> with_reducible rfl)
                try simp only [Act.put, List.setIfInBounds_toArray, List.set_cons_zero, List.set_cons_succ]
                refine tqY 15 eO15 (some 28) ?vk3f15 rfl rfl (by kernel_rfl) (fun _ _ _ h => h) ?hk3f15 (by assumption) ?rk3f15
                case hk3f15 => (unfold eO15; intro w hSw; (try dsimp only at hSw); go_simp <;> with_reducible rfl)
                try simp only [Act.put, List.setIfInBounds_toArray, List.set_cons_zero, List.set_cons_succ]
                refine tqY 16 eO16 (some 29) ?vk3f16 rfl rfl (by kernel_rfl) (fun _ _ _ h => h) ?hk3f16 (by assumption) ?rk3f16
                case hk3f16 => (unfold eO16; intro w hSw; (try dsimp only at hSw); go_simp <;> with_reducible rfl)
                try simp only [Act.put, List.setIfInBounds_toArray, List.set_cons_zero, List.set_cons_succ]
                refine tqY 17 eO17 (some 30) ?vk3f17 rfl rfl (by kernel_rfl) (fun _ _ _ h => h) ?hk3f17 (by assumption) ?rk3f17
                case hk3f17 => (unfold eO17; intro w hSw; (try dsimp only at hSw); go_simp <;> with_reducible rfl)
                try simp only [Act.put, List.setIfInBounds_toArray, List.set_cons_zero, List.set_cons_succ]
                refine tqY 18 eO18 (some 31) ?vk3f18 rfl rfl (by kernel_rfl) (fun _ _ _ h => h) ?hk3f18 (by assumption) ?rk3f18
                case hk3f18 => (unfold eO18; intro w hSw; (try dsimp only at hSw); go_simp <;> with_reducible rfl)
                try simp only [Act.put, List.setIfInBounds_toArray, List.set_cons_zero, List.set_cons_succ]
                refine wpAnyH_ready (rs := [19]) (by kernel_rfl) (by simp) ?_
                refine AllReadyH.cons (o := { dst := some 32, op := Op.call { callee := Callee.value (Operand.func 9), args := #[Operand.tmp 31], argTypes := #[9] }, type := 4, pos := "print.go:28", after := #[{ on := 18, ground := Ground.data }, { on := 16, ground := Ground.chain }, { on := 16, ground := Ground.guard }], guard := some (16, true) }) rfl (fun K hK => ?_) AllReadyH.nil
                go_simp
                go_at_call 9; refine (HNm.out _).mono ?_; rintro e w9 ⟨he, hb⟩
                rw [hnm] at he
                subst he
                have hx9 := XS.of (hHeld.1.next hb)
                clear hb hHeld
                refine hK.out _ _ hx9 (fun hHeld => ?_)
                clear hK K hx9
                try simp only [Act.put, List.setIfInBounds_toArray, List.set_cons_zero, List.set_cons_succ]
                refine tqY 20 eO20 (some 33) ?vk3f20 rfl rfl (by kernel_rfl) (fun _ _ _ h => h) ?hk3f20 (by assumption) ?rk3f20
                case hk3f20 => (unfold eO20; intro w hSw; (try dsimp only at hSw); go_simp <;> with_reducible rfl)
                try simp only [Act.put, List.setIfInBounds_toArray, List.set_cons_zero, List.set_cons_succ]
                refine tqY 21 eO21 (some 34) ?vk3f21 rfl rfl (by kernel_rfl) (fun _ _ _ h => h) ?hk3f21 (by assumption) ?rk3f21
                case hk3f21 => (unfold eO21; intro w hSw; (try dsimp only at hSw); go_simp <;> with_reducible rfl)
                try simp only [Act.put, List.setIfInBounds_toArray, List.set_cons_zero, List.set_cons_succ]
                refine tqY 22 eO22 (some 35) ?vk3f22 rfl rfl (by kernel_rfl) (fun _ _ _ h => h) ?hk3f22 (by assumption) ?rk3f22
                case hk3f22 => (unfold eO22; intro w hSw; (try dsimp only at hSw); go_simp <;> with_reducible rfl)
                try simp only [Act.put, List.setIfInBounds_toArray, List.set_cons_zero, List.set_cons_succ]
                refine tqY 23 eO23 (some 36) ?vk3f23 rfl rfl (by kernel_rfl) (fun _ _ _ h => h) ?hk3f23 (by assumption) ?rk3f23
                case hk3f23 => (unfold eO23; intro w hSw; (try dsimp only at hSw); go_simp <;> with_reducible rfl)
                try simp only [Act.put, List.setIfInBounds_toArray, List.set_cons_zero, List.set_cons_succ]
                refine tqN 24 eO24 (some 37) rfl rfl (by kernel_rfl) (fun _ _ _ h => h) (by assumption) ?rk3f24
                try simp only [Act.put, List.setIfInBounds_toArray, List.set_cons_zero, List.set_cons_succ]
                refine tqN 25 eO25 (some 38) rfl rfl (by kernel_rfl) (fun _ _ _ h => h) (by assumption) ?rk3f25
                try simp only [Act.put, List.setIfInBounds_toArray, List.set_cons_zero, List.set_cons_succ]
                refine tqN 26 eO26 (some 39) rfl rfl (by kernel_rfl) (fun _ _ _ h => h) (by assumption) ?rk3f26
                try simp only [Act.put, List.setIfInBounds_toArray, List.set_cons_zero, List.set_cons_succ]
                refine tqN 27 eO27 (some 40) rfl rfl (by kernel_rfl) (fun _ _ _ h => h) (by assumption) ?rk3f27
                try simp only [Act.put, List.setIfInBounds_toArray, List.set_cons_zero, List.set_cons_succ]
                refine tqN 28 eO28 (some 41) rfl rfl (by kernel_rfl) (fun _ _ _ h => h) (by assumption) ?rk3f28
                try simp only [Act.put, List.setIfInBounds_toArray, List.set_cons_zero, List.set_cons_succ]
                refine tqN 29 eO29 (some 42) rfl rfl (by kernel_rfl) (fun _ _ _ h => h) (by assumption) ?rk3f29
                try simp only [Act.put, List.setIfInBounds_toArray, List.set_cons_zero, List.set_cons_succ]
                refine tqN 30 eO30 (some 43) rfl rfl (by kernel_rfl) (fun _ _ _ h => h) (by assumption) ?rk3f30
                try simp only [Act.put, List.setIfInBounds_toArray, List.set_cons_zero, List.set_cons_succ]
                refine tqN 31 eO31 (some 44) rfl rfl (by kernel_rfl) (fun _ _ _ h => h) (by assumption) ?rk3f31
                try simp only [Act.put, List.setIfInBounds_toArray, List.set_cons_zero, List.set_cons_succ]
                refine tqY 32 eO32 (some 45) ?vk3f32 rfl rfl (by kernel_rfl) (fun _ _ _ h => h) ?hk3f32 (by assumption) ?rk3f32
                case hk3f32 => (unfold eO32; intro w hSw; (try dsimp only at hSw); go_simp <;> with_reducible rfl)
                try simp only [Act.put, List.setIfInBounds_toArray, List.set_cons_zero, List.set_cons_succ]
                refine wpAnyH_done (by kernel_rfl) ?_ _
                try go_wp2_with fail
                go_meet
                exact ⟨true, rfl, ⟨fun h => (by cases h), fun h => absurd (HOk.out.1 h) (by intro hh; rw [hnm] at hh; exact absurd hh.2.1 (by decide))⟩, hHeld.1⟩
              | true =>
                by_cases hx0 : x = 0
                · have tx : (x != 0) = false := by simp [hx0]
                  replace hx0 : Hid (x = 0) := hx0
                  refine wp_region_held_drew (S := (fun X => XB W W.heap.size #[.int .i64 3, .int .u64 x, .string s, .slice ad len cap] X ∧ X.cell? ⟨W.heap.size, 0, none⟩ = some (.int .i64 3) ∧ X.cell? ⟨W.heap.size, 1, none⟩ = some (.int .u64 x) ∧ X.cell? ⟨W.heap.size, 2, none⟩ = some (.string s) ∧ X.cell? ⟨W.heap.size, 3, none⟩ = some (.slice ad len cap))) (by kernel_rfl) (XS.of HX.out.drew) (fun hHeld => ?_)
                  refine tqY 0 eO0 (some 13) ?vk3g0 rfl rfl (by kernel_rfl) (fun _ _ _ h => h) ?hk3g0 (by assumption) ?rk3g0
                  case hk3g0 => (unfold eO0; intro w hSw; (try dsimp only at hSw); go_simp <;> with_reducible rfl)
                  try simp only [Act.put, List.setIfInBounds_toArray, List.set_cons_zero, List.set_cons_succ]
                  refine tqY 1 eO1 (some 14) ?vk3g1 rfl rfl (by kernel_rfl) (fun _ _ _ h => h) ?hk3g1 (by assumption) ?rk3g1
                  case hk3g1 => (unfold eO1; intro w hSw; (try dsimp only at hSw); go_simp <;> with_reducible rfl)
                  try simp only [Act.put, List.setIfInBounds_toArray, List.set_cons_zero, List.set_cons_succ]
                  refine tqY 2 eO2 (some 15) ?vk3g2 rfl rfl (by kernel_rfl) (fun _ _ _ h => h) ?hk3g2 (by assumption) ?rk3g2
                  case hk3g2 => (unfold eO2; intro w hSw; (try dsimp only at hSw); go_simp <;> with_reducible rfl)
                  try simp only [Act.put, List.setIfInBounds_toArray, List.set_cons_zero, List.set_cons_succ]
                  refine tqY 3 eO3 (some 16) ?vk3g3 rfl rfl (by kernel_rfl) (fun _ _ _ h => h) ?hk3g3 (by assumption) ?rk3g3
                  case hk3g3 => (unfold eO3; intro w hSw; (try dsimp only at hSw); go_simp <;> with_reducible rfl)
                  try simp only [Act.put, List.setIfInBounds_toArray, List.set_cons_zero, List.set_cons_succ]
                  refine tqY 4 eO4 (some 17) ?vk3g4 rfl rfl (by kernel_rfl) (fun _ _ _ h => h) ?hk3g4 (by assumption) ?rk3g4
                  case hk3g4 => (unfold eO4; intro w hSw; (try dsimp only at hSw); go_simp <;> with_reducible rfl)
                  try simp only [Act.put, List.setIfInBounds_toArray, List.set_cons_zero, List.set_cons_succ]
                  refine wpAnyH_ready (rs := [5]) (by kernel_rfl) (by simp) ?_
                  refine AllReadyH.cons (o := { dst := some 18, op := Op.call { callee := Callee.value (Operand.func 30), args := #[Operand.tmp 17], argTypes := #[3] }, type := 3, pos := "print.go:28", after := #[{ on := 4, ground := Ground.data }], guard := none }) rfl (fun K hK => ?_) AllReadyH.nil
                  go_simp
                  go_at_call 30; refine (HPa.out _).mono ?_; rintro e w9 ⟨rfl, hw⟩; obtain rfl := hw.symm
                  refine hK.out _ _ hHeld (fun _ => ?_)
                  clear hK K
                  try simp only [Act.put, List.setIfInBounds_toArray, List.set_cons_zero, List.set_cons_succ]
                  refine tqY 6 eO6 (some 19) ?vk3g6 rfl rfl (by kernel_rfl) (fun _ _ _ h => h) ?hk3g6 (by assumption) ?rk3g6
                  case hk3g6 => (unfold eO6; intro w hSw; (try dsimp only at hSw); go_simp <;> with_reducible rfl)
                  try simp only [Act.put, List.setIfInBounds_toArray, List.set_cons_zero, List.set_cons_succ]
                  refine tqY 7 eO7 (some 20) ?vk3g7 rfl rfl (by kernel_rfl) (fun _ _ _ h => h) ?hk3g7 (by assumption) ?rk3g7
                  case hk3g7 => (unfold eO7; intro w hSw; (try dsimp only at hSw); go_simp <;> with_reducible rfl)
                  try simp only [Act.put, List.setIfInBounds_toArray, List.set_cons_zero, List.set_cons_succ]
                  refine tqY 8 eO8 (some 21) ?vk3g8 rfl rfl (by kernel_rfl) (fun _ _ _ h => h) ?hk3g8 (by assumption) ?rk3g8
                  case hk3g8 => (unfold eO8; intro w hSw; (try dsimp only at hSw); go_simp <;> with_reducible rfl)
                  try simp only [Act.put, List.setIfInBounds_toArray, List.set_cons_zero, List.set_cons_succ]
                  refine tqY 9 eO9 (some 22) ?vk3g9 rfl rfl (by kernel_rfl) (fun _ _ _ h => h) ?hk3g9 (by assumption) ?rk3g9
                  case hk3g9 => (unfold eO9; intro w hSw; (try dsimp only at hSw); go_simp <;> with_reducible rfl)
                  try simp only [Act.put, List.setIfInBounds_toArray, List.set_cons_zero, List.set_cons_succ]
                  refine tqY 10 eO10 (some 23) ?vk3g10 rfl rfl (by kernel_rfl) (fun _ _ _ h => h) ?hk3g10 (by assumption) ?rk3g10
                  case hk3g10 => (unfold eO10; intro w hSw; (try dsimp only at hSw); go_simp <;> with_reducible rfl)
                  try simp only [Act.put, List.setIfInBounds_toArray, List.set_cons_zero, List.set_cons_succ]
                  refine tqY 11 eO11 (some 24) ?vk3g11 rfl rfl (by kernel_rfl) (fun _ _ _ h => h) ?hk3g11 (by assumption) ?rk3g11
                  case hk3g11 => (unfold eO11; intro w hSw; (try dsimp only at hSw); go_simp <;> with_reducible rfl)
                  try simp only [Act.put, List.setIfInBounds_toArray, List.set_cons_zero, List.set_cons_succ]
                  refine tqY 12 eO12 (some 25) ?vk3g12 rfl rfl (by kernel_rfl) (fun _ _ _ h => h) ?hk3g12 (by assumption) ?rk3g12
                  case hk3g12 => (unfold eO12; intro w hSw; (try dsimp only at hSw); go_simp <;> with_reducible rfl)
                  try simp only [Act.put, List.setIfInBounds_toArray, List.set_cons_zero, List.set_cons_succ]
                  refine tqY 13 eO13 (some 26) ?vk3g13 rfl rfl (by kernel_rfl) (fun _ _ _ h => h) ?hk3g13 (by assumption) ?rk3g13
                  case hk3g13 => (unfold eO13; intro w hSw; (try dsimp only at hSw); go_simp <;> with_reducible rfl)
                  try simp only [Act.put, List.setIfInBounds_toArray, List.set_cons_zero, List.set_cons_succ]
                  refine tqY 14 eO14 (some 27) ?vk3g14 rfl rfl (by kernel_rfl) (fun _ _ _ h => h) ?hk3g14 (by assumption) ?rk3g14
                  case hk3g14 => (unfold eO14; intro w hSw; (try dsimp only at hSw); go_simp <;> with_reducible rfl)
                  try simp only [Act.put, List.setIfInBounds_toArray, List.set_cons_zero, List.set_cons_succ]
                  refine tqY 15 eO15 (some 28) ?vk3g15 rfl rfl (by kernel_rfl) (fun _ _ _ h => h) ?hk3g15 (by assumption) ?rk3g15
                  case hk3g15 => (unfold eO15; intro w hSw; (try dsimp only at hSw); go_simp <;> with_reducible rfl)
                  try simp only [Act.put, List.setIfInBounds_toArray, List.set_cons_zero, List.set_cons_succ]
                  refine tqY 16 eO16 (some 29) ?vk3g16 rfl rfl (by kernel_rfl) (fun _ _ _ h => h) ?hk3g16 (by assumption) ?rk3g16
                  case hk3g16 => (unfold eO16; intro w hSw; (try dsimp only at hSw); go_simp <;> with_reducible rfl)
                  try simp only [Act.put, List.setIfInBounds_toArray, List.set_cons_zero, List.set_cons_succ]
                  refine tqY 17 eO17 (some 30) ?vk3g17 rfl rfl (by kernel_rfl) (fun _ _ _ h => h) ?hk3g17 (by assumption) ?rk3g17
                  case hk3g17 => (unfold eO17; intro w hSw; (try dsimp only at hSw); go_simp <;> with_reducible rfl)
                  try simp only [Act.put, List.setIfInBounds_toArray, List.set_cons_zero, List.set_cons_succ]
                  refine tqY 18 eO18 (some 31) ?vk3g18 rfl rfl (by kernel_rfl) (fun _ _ _ h => h) ?hk3g18 (by assumption) ?rk3g18
                  case hk3g18 => (unfold eO18; intro w hSw; (try dsimp only at hSw); go_simp <;> with_reducible rfl)
                  try simp only [Act.put, List.setIfInBounds_toArray, List.set_cons_zero, List.set_cons_succ]
                  refine wpAnyH_ready (rs := [19]) (by kernel_rfl) (by simp) ?_
                  refine AllReadyH.cons (o := { dst := some 32, op := Op.call { callee := Callee.value (Operand.func 9), args := #[Operand.tmp 31], argTypes := #[9] }, type := 4, pos := "print.go:28", after := #[{ on := 18, ground := Ground.data }, { on := 16, ground := Ground.chain }, { on := 16, ground := Ground.guard }], guard := some (16, true) }) rfl (fun K hK => ?_) AllReadyH.nil
                  go_simp
                  go_at_call 9; refine (HNm.out _).mono ?_; rintro e w9 ⟨he, hb⟩
                  rw [hnm] at he
                  subst he
                  have hx9 := XS.of (hHeld.1.next hb)
                  clear hb hHeld
                  refine hK.out _ _ hx9 (fun hHeld => ?_)
                  clear hK K hx9
                  try simp only [Act.put, List.setIfInBounds_toArray, List.set_cons_zero, List.set_cons_succ]
                  refine tqY 20 eO20 (some 33) ?vk3g20 rfl rfl (by kernel_rfl) (fun _ _ _ h => h) ?hk3g20 (by assumption) ?rk3g20
                  case hk3g20 => (unfold eO20; intro w hSw; (try dsimp only at hSw); go_simp <;> with_reducible rfl)
                  try simp only [Act.put, List.setIfInBounds_toArray, List.set_cons_zero, List.set_cons_succ]
                  refine tqY 21 eO21 (some 34) ?vk3g21 rfl rfl (by kernel_rfl) (fun _ _ _ h => h) ?hk3g21 (by assumption) ?rk3g21
                  case hk3g21 => (unfold eO21; intro w hSw; (try dsimp only at hSw); go_simp <;> with_reducible rfl)
                  try simp only [Act.put, List.setIfInBounds_toArray, List.set_cons_zero, List.set_cons_succ]
                  refine tqY 22 eO22 (some 35) ?vk3g22 rfl rfl (by kernel_rfl) (fun _ _ _ h => h) ?hk3g22 (by assumption) ?rk3g22
                  case hk3g22 => (unfold eO22; intro w hSw; (try dsimp only at hSw); go_simp <;> with_reducible rfl)
                  try simp only [Act.put, List.setIfInBounds_toArray, List.set_cons_zero, List.set_cons_succ]
                  refine tqY 23 eO23 (some 36) ?vk3g23 rfl rfl (by kernel_rfl) (fun _ _ _ h => h) ?hk3g23 (by assumption) ?rk3g23
                  case hk3g23 => (unfold eO23; intro w hSw; (try dsimp only at hSw); go_simp <;> with_reducible rfl)
                  try simp only [Act.put, List.setIfInBounds_toArray, List.set_cons_zero, List.set_cons_succ]
                  refine tqY 24 eO24 (some 37) ?vk3g24 rfl rfl (by kernel_rfl) (fun _ _ _ h => h) ?hk3g24 (by assumption) ?rk3g24
                  case hk3g24 => (unfold eO24; intro w hSw; (try dsimp only at hSw); go_simp <;> with_reducible rfl)
                  try simp only [Act.put, List.setIfInBounds_toArray, List.set_cons_zero, List.set_cons_succ]
                  refine tqY 25 eO25 (some 38) ?vk3g25 rfl rfl (by kernel_rfl) (fun _ _ _ h => h) ?hk3g25 (by assumption) ?rk3g25
                  case hk3g25 => (unfold eO25; intro w hSw; (try dsimp only at hSw); go_simp <;> with_reducible rfl)
                  try simp only [Act.put, List.setIfInBounds_toArray, List.set_cons_zero, List.set_cons_succ]
                  refine tqY 26 eO26 (some 39) ?vk3g26 rfl rfl (by kernel_rfl) (fun _ _ _ h => h) ?hk3g26 (by assumption) ?rk3g26
                  case hk3g26 => (unfold eO26; intro w hSw; (try dsimp only at hSw); go_simp <;> with_reducible rfl)
                  try simp only [Act.put, List.setIfInBounds_toArray, List.set_cons_zero, List.set_cons_succ]
                  refine tqY 27 eO27 (some 40) ?vk3g27 rfl rfl (by kernel_rfl) (fun _ _ _ h => h) ?hk3g27 (by assumption) ?rk3g27
                  case hk3g27 => (unfold eO27; intro w hSw; (try dsimp only at hSw); go_simp <;> with_reducible rfl)
                  try simp only [Act.put, List.setIfInBounds_toArray, List.set_cons_zero, List.set_cons_succ]
                  refine tqY 28 eO28 (some 41) ?vk3g28 rfl rfl (by kernel_rfl) (fun _ _ _ h => h) ?hk3g28 (by assumption) ?rk3g28
                  case hk3g28 => (unfold eO28; intro w hSw; (try dsimp only at hSw); go_simp <;> with_reducible rfl)
                  try simp only [Act.put, List.setIfInBounds_toArray, List.set_cons_zero, List.set_cons_succ]
                  refine tqY 29 eO29 (some 42) ?vk3g29 rfl rfl (by kernel_rfl) (fun _ _ _ h => h) ?hk3g29 (by assumption) ?rk3g29
                  case hk3g29 => (unfold eO29; intro w hSw; (try dsimp only at hSw); go_simp <;> with_reducible rfl)
                  try simp only [Act.put, List.setIfInBounds_toArray, List.set_cons_zero, List.set_cons_succ]
                  refine tqY 30 eO30 (some 43) ?vk3g30 rfl rfl (by kernel_rfl) (fun _ _ _ h => h) ?hk3g30 (by assumption) ?rk3g30
                  case hk3g30 => (unfold eO30; intro w hSw; (try dsimp only at hSw); go_simp <;> with_reducible rfl)
                  try simp only [Act.put, List.setIfInBounds_toArray, List.set_cons_zero, List.set_cons_succ]
                  refine tqY 31 eO31 (some 44) ?vk3g31 rfl rfl (by kernel_rfl) (fun _ _ _ h => h) ?hk3g31 (by assumption) ?rk3g31
                  case hk3g31 => (unfold eO31; intro w hSw; (try dsimp only at hSw); go_simp <;> with_reducible rfl)
                  try simp only [Act.put, List.setIfInBounds_toArray, List.set_cons_zero, List.set_cons_succ]
                  refine tqY 32 eO32 (some 45) ?vk3g32 rfl rfl (by kernel_rfl) (fun _ _ _ h => h) ?hk3g32 (by assumption) ?rk3g32
                  case hk3g32 => (unfold eO32; intro w hSw; (try dsimp only at hSw); go_simp <;> with_reducible rfl)
                  try simp only [Act.put, List.setIfInBounds_toArray, List.set_cons_zero, List.set_cons_succ]
                  refine wpAnyH_done (by kernel_rfl) ?_ _
                  try go_wp2_with fail
                  go_meet
                  exact ⟨false, rfl, ⟨fun _ => HOk.out.2 (by exact ⟨hpl.out, hnm, Or.inr hx0.out⟩), fun _ => rfl⟩, hHeld.1⟩
                · have tx : (x != 0) = true := by simpa using hx0
                  refine wp_region_held_drew (S := (fun X => XB W W.heap.size #[.int .i64 3, .int .u64 x, .string s, .slice ad len cap] X ∧ X.cell? ⟨W.heap.size, 0, none⟩ = some (.int .i64 3) ∧ X.cell? ⟨W.heap.size, 1, none⟩ = some (.int .u64 x) ∧ X.cell? ⟨W.heap.size, 2, none⟩ = some (.string s) ∧ X.cell? ⟨W.heap.size, 3, none⟩ = some (.slice ad len cap))) (by kernel_rfl) (XS.of HX.out.drew) (fun hHeld => ?_)
                  refine tqY 0 eO0 (some 13) ?vk3h0 rfl rfl (by kernel_rfl) (fun _ _ _ h => h) ?hk3h0 (by assumption) ?rk3h0
                  case hk3h0 => (unfold eO0; intro w hSw; (try dsimp only at hSw); go_simp <;> with_reducible rfl)
                  try simp only [Act.put, List.setIfInBounds_toArray, List.set_cons_zero, List.set_cons_succ]
                  refine tqY 1 eO1 (some 14) ?vk3h1 rfl rfl (by kernel_rfl) (fun _ _ _ h => h) ?hk3h1 (by assumption) ?rk3h1
                  case hk3h1 => (unfold eO1; intro w hSw; (try dsimp only at hSw); go_simp <;> with_reducible rfl)
                  try simp only [Act.put, List.setIfInBounds_toArray, List.set_cons_zero, List.set_cons_succ]
                  refine tqY 2 eO2 (some 15) ?vk3h2 rfl rfl (by kernel_rfl) (fun _ _ _ h => h) ?hk3h2 (by assumption) ?rk3h2
                  case hk3h2 => (unfold eO2; intro w hSw; (try dsimp only at hSw); go_simp <;> with_reducible rfl)
                  try simp only [Act.put, List.setIfInBounds_toArray, List.set_cons_zero, List.set_cons_succ]
                  refine tqY 3 eO3 (some 16) ?vk3h3 rfl rfl (by kernel_rfl) (fun _ _ _ h => h) ?hk3h3 (by assumption) ?rk3h3
                  case hk3h3 => (unfold eO3; intro w hSw; (try dsimp only at hSw); go_simp <;> with_reducible rfl)
                  try simp only [Act.put, List.setIfInBounds_toArray, List.set_cons_zero, List.set_cons_succ]
                  refine tqY 4 eO4 (some 17) ?vk3h4 rfl rfl (by kernel_rfl) (fun _ _ _ h => h) ?hk3h4 (by assumption) ?rk3h4
                  case hk3h4 => (unfold eO4; intro w hSw; (try dsimp only at hSw); go_simp <;> with_reducible rfl)
                  try simp only [Act.put, List.setIfInBounds_toArray, List.set_cons_zero, List.set_cons_succ]
                  refine wpAnyH_ready (rs := [5]) (by kernel_rfl) (by simp) ?_
                  refine AllReadyH.cons (o := { dst := some 18, op := Op.call { callee := Callee.value (Operand.func 30), args := #[Operand.tmp 17], argTypes := #[3] }, type := 3, pos := "print.go:28", after := #[{ on := 4, ground := Ground.data }], guard := none }) rfl (fun K hK => ?_) AllReadyH.nil
                  go_simp
                  go_at_call 30; refine (HPa.out _).mono ?_; rintro e w9 ⟨rfl, hw⟩; obtain rfl := hw.symm
                  refine hK.out _ _ hHeld (fun _ => ?_)
                  clear hK K
                  try simp only [Act.put, List.setIfInBounds_toArray, List.set_cons_zero, List.set_cons_succ]
                  refine tqY 6 eO6 (some 19) ?vk3h6 rfl rfl (by kernel_rfl) (fun _ _ _ h => h) ?hk3h6 (by assumption) ?rk3h6
                  case hk3h6 => (unfold eO6; intro w hSw; (try dsimp only at hSw); go_simp <;> with_reducible rfl)
                  try simp only [Act.put, List.setIfInBounds_toArray, List.set_cons_zero, List.set_cons_succ]
                  refine tqY 7 eO7 (some 20) ?vk3h7 rfl rfl (by kernel_rfl) (fun _ _ _ h => h) ?hk3h7 (by assumption) ?rk3h7
                  case hk3h7 => (unfold eO7; intro w hSw; (try dsimp only at hSw); go_simp <;> with_reducible rfl)
                  try simp only [Act.put, List.setIfInBounds_toArray, List.set_cons_zero, List.set_cons_succ]
                  refine tqY 8 eO8 (some 21) ?vk3h8 rfl rfl (by kernel_rfl) (fun _ _ _ h => h) ?hk3h8 (by assumption) ?rk3h8
                  case hk3h8 => (unfold eO8; intro w hSw; (try dsimp only at hSw); go_simp <;> with_reducible rfl)
                  try simp only [Act.put, List.setIfInBounds_toArray, List.set_cons_zero, List.set_cons_succ]
                  refine tqY 9 eO9 (some 22) ?vk3h9 rfl rfl (by kernel_rfl) (fun _ _ _ h => h) ?hk3h9 (by assumption) ?rk3h9
                  case hk3h9 => (unfold eO9; intro w hSw; (try dsimp only at hSw); go_simp <;> with_reducible rfl)
                  try simp only [Act.put, List.setIfInBounds_toArray, List.set_cons_zero, List.set_cons_succ]
                  refine tqY 10 eO10 (some 23) ?vk3h10 rfl rfl (by kernel_rfl) (fun _ _ _ h => h) ?hk3h10 (by assumption) ?rk3h10
                  case hk3h10 => (unfold eO10; intro w hSw; (try dsimp only at hSw); go_simp <;> with_reducible rfl)
                  try simp only [Act.put, List.setIfInBounds_toArray, List.set_cons_zero, List.set_cons_succ]
                  refine tqY 11 eO11 (some 24) ?vk3h11 rfl rfl (by kernel_rfl) (fun _ _ _ h => h) ?hk3h11 (by assumption) ?rk3h11
                  case hk3h11 => (unfold eO11; intro w hSw; (try dsimp only at hSw); go_simp <;> with_reducible rfl)
                  try simp only [Act.put, List.setIfInBounds_toArray, List.set_cons_zero, List.set_cons_succ]
                  refine tqY 12 eO12 (some 25) ?vk3h12 rfl rfl (by kernel_rfl) (fun _ _ _ h => h) ?hk3h12 (by assumption) ?rk3h12
                  case hk3h12 => (unfold eO12; intro w hSw; (try dsimp only at hSw); go_simp <;> with_reducible rfl)
                  try simp only [Act.put, List.setIfInBounds_toArray, List.set_cons_zero, List.set_cons_succ]
                  refine tqY 13 eO13 (some 26) ?vk3h13 rfl rfl (by kernel_rfl) (fun _ _ _ h => h) ?hk3h13 (by assumption) ?rk3h13
                  case hk3h13 => (unfold eO13; intro w hSw; (try dsimp only at hSw); go_simp <;> with_reducible rfl)
                  try simp only [Act.put, List.setIfInBounds_toArray, List.set_cons_zero, List.set_cons_succ]
                  refine tqY 14 eO14 (some 27) ?vk3h14 rfl rfl (by kernel_rfl) (fun _ _ _ h => h) ?hk3h14 (by assumption) ?rk3h14
                  case hk3h14 => (unfold eO14; intro w hSw; (try dsimp only at hSw); go_simp <;> with_reducible rfl)
                  try simp only [Act.put, List.setIfInBounds_toArray, List.set_cons_zero, List.set_cons_succ]
                  refine tqY 15 eO15 (some 28) ?vk3h15 rfl rfl (by kernel_rfl) (fun _ _ _ h => h) ?hk3h15 (by assumption) ?rk3h15
                  case hk3h15 => (unfold eO15; intro w hSw; (try dsimp only at hSw); go_simp <;> with_reducible rfl)
                  try simp only [Act.put, List.setIfInBounds_toArray, List.set_cons_zero, List.set_cons_succ]
                  refine tqY 16 eO16 (some 29) ?vk3h16 rfl rfl (by kernel_rfl) (fun _ _ _ h => h) ?hk3h16 (by assumption) ?rk3h16
                  case hk3h16 => (unfold eO16; intro w hSw; (try dsimp only at hSw); go_simp <;> with_reducible rfl)
                  try simp only [Act.put, List.setIfInBounds_toArray, List.set_cons_zero, List.set_cons_succ]
                  refine tqY 17 eO17 (some 30) ?vk3h17 rfl rfl (by kernel_rfl) (fun _ _ _ h => h) ?hk3h17 (by assumption) ?rk3h17
                  case hk3h17 => (unfold eO17; intro w hSw; (try dsimp only at hSw); go_simp <;> with_reducible rfl)
                  try simp only [Act.put, List.setIfInBounds_toArray, List.set_cons_zero, List.set_cons_succ]
                  refine tqY 18 eO18 (some 31) ?vk3h18 rfl rfl (by kernel_rfl) (fun _ _ _ h => h) ?hk3h18 (by assumption) ?rk3h18
                  case hk3h18 => (unfold eO18; intro w hSw; (try dsimp only at hSw); go_simp <;> with_reducible rfl)
                  try simp only [Act.put, List.setIfInBounds_toArray, List.set_cons_zero, List.set_cons_succ]
                  refine wpAnyH_ready (rs := [19]) (by kernel_rfl) (by simp) ?_
                  refine AllReadyH.cons (o := { dst := some 32, op := Op.call { callee := Callee.value (Operand.func 9), args := #[Operand.tmp 31], argTypes := #[9] }, type := 4, pos := "print.go:28", after := #[{ on := 18, ground := Ground.data }, { on := 16, ground := Ground.chain }, { on := 16, ground := Ground.guard }], guard := some (16, true) }) rfl (fun K hK => ?_) AllReadyH.nil
                  go_simp
                  go_at_call 9; refine (HNm.out _).mono ?_; rintro e w9 ⟨he, hb⟩
                  rw [hnm] at he
                  subst he
                  have hx9 := XS.of (hHeld.1.next hb)
                  clear hb hHeld
                  refine hK.out _ _ hx9 (fun hHeld => ?_)
                  clear hK K hx9
                  try simp only [Act.put, List.setIfInBounds_toArray, List.set_cons_zero, List.set_cons_succ]
                  refine tqY 20 eO20 (some 33) ?vk3h20 rfl rfl (by kernel_rfl) (fun _ _ _ h => h) ?hk3h20 (by assumption) ?rk3h20
                  case hk3h20 => (unfold eO20; intro w hSw; (try dsimp only at hSw); go_simp <;> with_reducible rfl)
                  try simp only [Act.put, List.setIfInBounds_toArray, List.set_cons_zero, List.set_cons_succ]
                  refine tqY 21 eO21 (some 34) ?vk3h21 rfl rfl (by kernel_rfl) (fun _ _ _ h => h) ?hk3h21 (by assumption) ?rk3h21
                  case hk3h21 => (unfold eO21; intro w hSw; (try dsimp only at hSw); go_simp <;> with_reducible rfl)
                  try simp only [Act.put, List.setIfInBounds_toArray, List.set_cons_zero, List.set_cons_succ]
                  refine tqY 22 eO22 (some 35) ?vk3h22 rfl rfl (by kernel_rfl) (fun _ _ _ h => h) ?hk3h22 (by assumption) ?rk3h22
                  case hk3h22 => (unfold eO22; intro w hSw; (try dsimp only at hSw); go_simp <;> with_reducible rfl)
                  try simp only [Act.put, List.setIfInBounds_toArray, List.set_cons_zero, List.set_cons_succ]
                  refine tqY 23 eO23 (some 36) ?vk3h23 rfl rfl (by kernel_rfl) (fun _ _ _ h => h) ?hk3h23 (by assumption) ?rk3h23
                  case hk3h23 => (unfold eO23; intro w hSw; (try dsimp only at hSw); go_simp <;> with_reducible rfl)
                  try simp only [Act.put, List.setIfInBounds_toArray, List.set_cons_zero, List.set_cons_succ]
                  refine tqY 24 eO24 (some 37) ?vk3h24 rfl rfl (by kernel_rfl) (fun _ _ _ h => h) ?hk3h24 (by assumption) ?rk3h24
                  case hk3h24 => (unfold eO24; intro w hSw; (try dsimp only at hSw); go_simp <;> with_reducible rfl)
                  try simp only [Act.put, List.setIfInBounds_toArray, List.set_cons_zero, List.set_cons_succ]
                  refine tqY 25 eO25 (some 38) ?vk3h25 rfl rfl (by kernel_rfl) (fun _ _ _ h => h) ?hk3h25 (by assumption) ?rk3h25
                  case hk3h25 => (unfold eO25; intro w hSw; (try dsimp only at hSw); go_simp <;> with_reducible rfl)
                  try simp only [Act.put, List.setIfInBounds_toArray, List.set_cons_zero, List.set_cons_succ]
                  refine tqY 26 eO26 (some 39) ?vk3h26 rfl rfl (by kernel_rfl) (fun _ _ _ h => h) ?hk3h26 (by assumption) ?rk3h26
                  case hk3h26 => (unfold eO26; intro w hSw; (try dsimp only at hSw); go_simp <;> with_reducible rfl)
                  try simp only [Act.put, List.setIfInBounds_toArray, List.set_cons_zero, List.set_cons_succ]
                  refine tqY 27 eO27 (some 40) ?vk3h27 rfl rfl (by kernel_rfl) (fun _ _ _ h => h) ?hk3h27 (by assumption) ?rk3h27
                  case hk3h27 => (unfold eO27; intro w hSw; (try dsimp only at hSw); go_simp <;> with_reducible rfl)
                  try simp only [Act.put, List.setIfInBounds_toArray, List.set_cons_zero, List.set_cons_succ]
                  refine tqY 28 eO28 (some 41) ?vk3h28 rfl rfl (by kernel_rfl) (fun _ _ _ h => h) ?hk3h28 (by assumption) ?rk3h28
                  case hk3h28 => (unfold eO28; intro w hSw; (try dsimp only at hSw); go_simp <;> with_reducible rfl)
                  try simp only [Act.put, List.setIfInBounds_toArray, List.set_cons_zero, List.set_cons_succ]
                  refine tqY 29 eO29 (some 42) ?vk3h29 rfl rfl (by kernel_rfl) (fun _ _ _ h => h) ?hk3h29 (by assumption) ?rk3h29
                  case hk3h29 => (unfold eO29; intro w hSw; (try dsimp only at hSw); go_simp <;> with_reducible rfl)
                  try simp only [Act.put, List.setIfInBounds_toArray, List.set_cons_zero, List.set_cons_succ]
                  refine tqY 30 eO30 (some 43) ?vk3h30 rfl rfl (by kernel_rfl) (fun _ _ _ h => h) ?hk3h30 (by assumption) ?rk3h30
                  case hk3h30 => (unfold eO30; intro w hSw; (try dsimp only at hSw); go_simp <;> with_reducible rfl)
                  try simp only [Act.put, List.setIfInBounds_toArray, List.set_cons_zero, List.set_cons_succ]
                  refine tqY 31 eO31 (some 44) ?vk3h31 rfl rfl (by kernel_rfl) (fun _ _ _ h => h) ?hk3h31 (by assumption) ?rk3h31
                  case hk3h31 => (unfold eO31; intro w hSw; (try dsimp only at hSw); go_simp <;> with_reducible rfl)
                  try simp only [Act.put, List.setIfInBounds_toArray, List.set_cons_zero, List.set_cons_succ]
                  refine tqY 32 eO32 (some 45) ?vk3h32 rfl rfl (by kernel_rfl) (fun _ _ _ h => h) ?hk3h32 (by assumption) ?rk3h32
                  case hk3h32 => (unfold eO32; intro w hSw; (try dsimp only at hSw); go_simp <;> with_reducible rfl)
                  try simp only [Act.put, List.setIfInBounds_toArray, List.set_cons_zero, List.set_cons_succ]
                  refine wpAnyH_done (by kernel_rfl) ?_ _
                  try go_wp2_with fail
                  go_meet
                  exact ⟨true, rfl, ⟨fun h => (by cases h), fun h => absurd (HOk.out.1 h) (by intro hh; rcases hh.2.2 with h | h; exact absurd h (by decide); exact hx0 h)⟩, hHeld.1⟩
          · have t6 : ((len : Int) != P) = true := by simpa using hpl
            refine wp_region_held_drew (S := (fun X => XB W W.heap.size #[.int .i64 3, .int .u64 x, .string s, .slice ad len cap] X ∧ X.cell? ⟨W.heap.size, 0, none⟩ = some (.int .i64 3) ∧ X.cell? ⟨W.heap.size, 1, none⟩ = some (.int .u64 x) ∧ X.cell? ⟨W.heap.size, 2, none⟩ = some (.string s) ∧ X.cell? ⟨W.heap.size, 3, none⟩ = some (.slice ad len cap))) (by kernel_rfl) (XS.of HX.out.drew) (fun hHeld => ?_)
            refine tqY 0 eO0 (some 13) ?vk3i0 rfl rfl (by kernel_rfl) (fun _ _ _ h => h) ?hk3i0 (by assumption) ?rk3i0
            case hk3i0 => (unfold eO0; intro w hSw; (try dsimp only at hSw); go_simp <;> with_reducible rfl)
            try simp only [Act.put, List.setIfInBounds_toArray, List.set_cons_zero, List.set_cons_succ]
            refine tqY 1 eO1 (some 14) ?vk3i1 rfl rfl (by kernel_rfl) (fun _ _ _ h => h) ?hk3i1 (by assumption) ?rk3i1
            case hk3i1 => (unfold eO1; intro w hSw; (try dsimp only at hSw); go_simp <;> with_reducible rfl)
            try simp only [Act.put, List.setIfInBounds_toArray, List.set_cons_zero, List.set_cons_succ]
            refine tqY 2 eO2 (some 15) ?vk3i2 rfl rfl (by kernel_rfl) (fun _ _ _ h => h) ?hk3i2 (by assumption) ?rk3i2
            case hk3i2 => (unfold eO2; intro w hSw; (try dsimp only at hSw); go_simp <;> with_reducible rfl)
            try simp only [Act.put, List.setIfInBounds_toArray, List.set_cons_zero, List.set_cons_succ]
            refine tqY 3 eO3 (some 16) ?vk3i3 rfl rfl (by kernel_rfl) (fun _ _ _ h => h) ?hk3i3 (by assumption) ?rk3i3
            case hk3i3 => (unfold eO3; intro w hSw; (try dsimp only at hSw); go_simp <;> with_reducible rfl)
            try simp only [Act.put, List.setIfInBounds_toArray, List.set_cons_zero, List.set_cons_succ]
            refine tqY 4 eO4 (some 17) ?vk3i4 rfl rfl (by kernel_rfl) (fun _ _ _ h => h) ?hk3i4 (by assumption) ?rk3i4
            case hk3i4 => (unfold eO4; intro w hSw; (try dsimp only at hSw); go_simp <;> with_reducible rfl)
            try simp only [Act.put, List.setIfInBounds_toArray, List.set_cons_zero, List.set_cons_succ]
            refine wpAnyH_ready (rs := [5]) (by kernel_rfl) (by simp) ?_
            refine AllReadyH.cons (o := { dst := some 18, op := Op.call { callee := Callee.value (Operand.func 30), args := #[Operand.tmp 17], argTypes := #[3] }, type := 3, pos := "print.go:28", after := #[{ on := 4, ground := Ground.data }], guard := none }) rfl (fun K hK => ?_) AllReadyH.nil
            go_simp
            go_at_call 30; refine (HPa.out _).mono ?_; rintro e w9 ⟨rfl, hw⟩; obtain rfl := hw.symm
            refine hK.out _ _ hHeld (fun _ => ?_)
            clear hK K
            try simp only [Act.put, List.setIfInBounds_toArray, List.set_cons_zero, List.set_cons_succ]
            refine tqY 6 eO6 (some 19) ?vk3i6 rfl rfl (by kernel_rfl) (fun _ _ _ h => h) ?hk3i6 (by assumption) ?rk3i6
            case hk3i6 => (unfold eO6; intro w hSw; (try dsimp only at hSw); go_simp <;> with_reducible rfl)
            try simp only [Act.put, List.setIfInBounds_toArray, List.set_cons_zero, List.set_cons_succ]
            refine tqY 7 eO7 (some 20) ?vk3i7 rfl rfl (by kernel_rfl) (fun _ _ _ h => h) ?hk3i7 (by assumption) ?rk3i7
            case hk3i7 => (unfold eO7; intro w hSw; (try dsimp only at hSw); go_simp <;> with_reducible rfl)
            try simp only [Act.put, List.setIfInBounds_toArray, List.set_cons_zero, List.set_cons_succ]
            refine tqN 8 eO8 (some 21) rfl rfl (by kernel_rfl) (fun _ _ _ h => h) (by assumption) ?rk3i8
            try simp only [Act.put, List.setIfInBounds_toArray, List.set_cons_zero, List.set_cons_succ]
            refine tqN 9 eO9 (some 22) rfl rfl (by kernel_rfl) (fun _ _ _ h => h) (by assumption) ?rk3i9
            try simp only [Act.put, List.setIfInBounds_toArray, List.set_cons_zero, List.set_cons_succ]
            refine tqN 10 eO10 (some 23) rfl rfl (by kernel_rfl) (fun _ _ _ h => h) (by assumption) ?rk3i10
            try simp only [Act.put, List.setIfInBounds_toArray, List.set_cons_zero, List.set_cons_succ]
            refine tqN 11 eO11 (some 24) rfl rfl (by kernel_rfl) (fun _ _ _ h => h) (by assumption) ?rk3i11
            try simp only [Act.put, List.setIfInBounds_toArray, List.set_cons_zero, List.set_cons_succ]
            refine tqN 12 eO12 (some 25) rfl rfl (by kernel_rfl) (fun _ _ _ h => h) (by assumption) ?rk3i12
            try simp only [Act.put, List.setIfInBounds_toArray, List.set_cons_zero, List.set_cons_succ]
            refine tqY 13 eO13 (some 26) ?vk3i13 rfl rfl (by kernel_rfl) (fun _ _ _ h => h) ?hk3i13 (by assumption) ?rk3i13
            case hk3i13 => (unfold eO13; intro w hSw; (try dsimp only at hSw); go_simp <;> with_reducible rfl)
            try simp only [Act.put, List.setIfInBounds_toArray, List.set_cons_zero, List.set_cons_succ]
            refine tqY 14 eO14 (some 27) ?vk3i14 rfl rfl (by kernel_rfl) (fun _ _ _ h => h) ?hk3i14 (by assumption) ?rk3i14
            case hk3i14 => (unfold eO14; intro w hSw; (try dsimp only at hSw); go_simp <;> with_reducible rfl)
            try simp only [Act.put, List.setIfInBounds_toArray, List.set_cons_zero, List.set_cons_succ]
            refine tqN 15 eO15 (some 28) rfl rfl (by kernel_rfl) (fun _ _ _ h => h) (by assumption) ?rk3i15
            try simp only [Act.put, List.setIfInBounds_toArray, List.set_cons_zero, List.set_cons_succ]
            refine tqN 16 eO16 (some 29) rfl rfl (by kernel_rfl) (fun _ _ _ h => h) (by assumption) ?rk3i16
            try simp only [Act.put, List.setIfInBounds_toArray, List.set_cons_zero, List.set_cons_succ]
            refine tqN 17 eO17 (some 30) rfl rfl (by kernel_rfl) (fun _ _ _ h => h) (by assumption) ?rk3i17
            try simp only [Act.put, List.setIfInBounds_toArray, List.set_cons_zero, List.set_cons_succ]
            refine tqN 18 eO18 (some 31) rfl rfl (by kernel_rfl) (fun _ _ _ h => h) (by assumption) ?rk3i18
            try simp only [Act.put, List.setIfInBounds_toArray, List.set_cons_zero, List.set_cons_succ]
            refine tqN 19 eO19 (some 32) rfl rfl (by kernel_rfl) (fun _ _ _ h => h) (by assumption) ?rk3i19
            try simp only [Act.put, List.setIfInBounds_toArray, List.set_cons_zero, List.set_cons_succ]
            refine tqN 20 eO20 (some 33) rfl rfl (by kernel_rfl) (fun _ _ _ h => h) (by assumption) ?rk3i20
            try simp only [Act.put, List.setIfInBounds_toArray, List.set_cons_zero, List.set_cons_succ]
            refine tqN 21 eO21 (some 34) rfl rfl (by kernel_rfl) (fun _ _ _ h => h) (by assumption) ?rk3i21
            try simp only [Act.put, List.setIfInBounds_toArray, List.set_cons_zero, List.set_cons_succ]
            refine tqY 22 eO22 (some 35) ?vk3i22 rfl rfl (by kernel_rfl) (fun _ _ _ h => h) ?hk3i22 (by assumption) ?rk3i22
            case hk3i22 => (unfold eO22; intro w hSw; (try dsimp only at hSw); go_simp <;> with_reducible rfl)
            try simp only [Act.put, List.setIfInBounds_toArray, List.set_cons_zero, List.set_cons_succ]
            refine tqY 23 eO23 (some 36) ?vk3i23 rfl rfl (by kernel_rfl) (fun _ _ _ h => h) ?hk3i23 (by assumption) ?rk3i23
            case hk3i23 => (unfold eO23; intro w hSw; (try dsimp only at hSw); go_simp <;> with_reducible rfl)
            try simp only [Act.put, List.setIfInBounds_toArray, List.set_cons_zero, List.set_cons_succ]
            refine tqN 24 eO24 (some 37) rfl rfl (by kernel_rfl) (fun _ _ _ h => h) (by assumption) ?rk3i24
            try simp only [Act.put, List.setIfInBounds_toArray, List.set_cons_zero, List.set_cons_succ]
            refine tqN 25 eO25 (some 38) rfl rfl (by kernel_rfl) (fun _ _ _ h => h) (by assumption) ?rk3i25
            try simp only [Act.put, List.setIfInBounds_toArray, List.set_cons_zero, List.set_cons_succ]
            refine tqN 26 eO26 (some 39) rfl rfl (by kernel_rfl) (fun _ _ _ h => h) (by assumption) ?rk3i26
            try simp only [Act.put, List.setIfInBounds_toArray, List.set_cons_zero, List.set_cons_succ]
            refine tqN 27 eO27 (some 40) rfl rfl (by kernel_rfl) (fun _ _ _ h => h) (by assumption) ?rk3i27
            try simp only [Act.put, List.setIfInBounds_toArray, List.set_cons_zero, List.set_cons_succ]
            refine tqN 28 eO28 (some 41) rfl rfl (by kernel_rfl) (fun _ _ _ h => h) (by assumption) ?rk3i28
            try simp only [Act.put, List.setIfInBounds_toArray, List.set_cons_zero, List.set_cons_succ]
            refine tqN 29 eO29 (some 42) rfl rfl (by kernel_rfl) (fun _ _ _ h => h) (by assumption) ?rk3i29
            try simp only [Act.put, List.setIfInBounds_toArray, List.set_cons_zero, List.set_cons_succ]
            refine tqN 30 eO30 (some 43) rfl rfl (by kernel_rfl) (fun _ _ _ h => h) (by assumption) ?rk3i30
            try simp only [Act.put, List.setIfInBounds_toArray, List.set_cons_zero, List.set_cons_succ]
            refine tqN 31 eO31 (some 44) rfl rfl (by kernel_rfl) (fun _ _ _ h => h) (by assumption) ?rk3i31
            try simp only [Act.put, List.setIfInBounds_toArray, List.set_cons_zero, List.set_cons_succ]
            refine tqY 32 eO32 (some 45) ?vk3i32 rfl rfl (by kernel_rfl) (fun _ _ _ h => h) ?hk3i32 (by assumption) ?rk3i32
            case hk3i32 => (unfold eO32; intro w hSw; (try dsimp only at hSw); go_simp <;> with_reducible rfl)
            try simp only [Act.put, List.setIfInBounds_toArray, List.set_cons_zero, List.set_cons_succ]
            refine wpAnyH_done (by kernel_rfl) ?_ _
            try go_wp2_with fail
            go_meet
            exact ⟨true, rfl, ⟨fun h => (by cases h), fun h => absurd (HOk.out.1 h) (by intro hh; exact hpl hh.1)⟩, hHeld.1⟩
        case rest =>
          obtain ⟨bd, rfl, hok, hxb⟩ := hcut
          have HXc : Hid (XB W W.heap.size #[.int .i64 3, .int .u64 x, .string s, .slice ad len cap] wc) := hxb
          have HOb : Hid (bd = false ↔ okX) := hok
          clear hok hxb HX HOk HPa HNm
          cases bd with
          | true =>
            have HB9 : Hid (Below W.heap.size W wc) := HXc.out.out.2
            go_wp2
            go_ret
            exact BP.f (fun h => absurd (HOb.out.2 (HFE.out.1 h).1) (by decide)) HB9.out
          | false =>
            have HO2 : Hid okX := HOb.out.1 rfl
            have c3 : wc.cell? ⟨W.heap.size, 3, none⟩ = some (.slice ad len cap) := lc HXc.out.out.1 3
            go_wp2_with fail
            go_loopg [4] len (fun gk v4 wr => ∃ j : Nat, v4 = .int .i64 (j : Int) ∧ j + gk = len ∧ Aside (XB W W.heap.size #[.int .i64 3, .int .u64 x, .string s, .slice ad len cap] wr ∧ ∀ i, i < j → KO w0 (FE w0 n) ad i))
            case atStart => exact ⟨0, rfl, by omega, ⟨HXc.out, fun i hi => absurd hi (by omega)⟩⟩
            case round =>
              clear HXc c3
              obtain ⟨j, rfl, hj, HR⟩ := hrel
              have HR2 : Hid (XB W W.heap.size #[.int .i64 3, .int .u64 x, .string s, .slice ad len cap] wr ∧ ∀ i, i < j → KO w0 (FE w0 n) ad i) := HR.out
              clear HR
              have c3 : wr.cell? ⟨W.heap.size, 3, none⟩ = some (.slice ad len cap) := lc HR2.out.1.out.1 3
              by_cases hlt : j < len
              · have q1 : (j : Int) < (len : Int) := by omega
                obtain ⟨b, o, rfl, hb, hel⟩ := HSX.out (by omega)
                obtain ⟨v0, v1, v2, v3, h0, h1, h2, h3, hex⟩ := hel j hlt
                have HB0 : Hid (Below w0.heap.size w0 wr) := bnext HW.out HR2.out.1.out.2
                have y0 := (HB0.out.cell (p := ⟨b, o + j * 4, none⟩) hb).trans h0
                have y1 := (HB0.out.cell (p := ⟨b, o + j * 4 + 1, none⟩) hb).trans h1
                have y2 := (HB0.out.cell (p := ⟨b, o + j * 4 + 2, none⟩) hb).trans h2
                have y3 := (HB0.out.cell (p := ⟨b, o + j * 4 + 3, none⟩) hb).trans h3
                have HKo : Hid (KO w0 (FE w0 n) (some ⟨b, o, none⟩) j ↔ FE w0 n [v0, v1, v2, v3]) := KO_at h0 h1 h2 h3
                have HCl : Hid (Calls Tryd.prog 27 #[.agg #[v0, v1, v2, v3]] wr (BP (FE w0 n [v0, v1, v2, v3]) wr)) := IH.out [v0, v1, v2, v3] wr hex HB0.out
                clear hel h0 h1 h2 h3 hex hb
                go_wp2_with fail
                refine HCl.out.mono ?_
                rintro e w1 ⟨bb, rfl, hiff, hbl⟩
                have HB1 : Hid (Below wr.heap.size wr w1 ∧ (bb = true ↔ FE w0 n [v0, v1, v2, v3])) := ⟨hbl, hiff⟩
                clear hbl hiff y0 y1 y2 y3 c3 HCl
                cases bb with
                | false =>
                  have HE : Hid (Below W.heap.size W w1 ∧ ¬ SF w0 (FE w0 n) (.slice (some ⟨b, o, none⟩) len cap)) := ⟨bnext HR2.out.1.out.2 HB1.out.1, fun h => absurd (HB1.out.2.2 (HKo.out.1 (SF_iff.1 h j hlt))) (by decide)⟩
                  go_wp2
                  go_ret
                  exact BP.f (fun h => absurd (HFE.out.1 h).2 HE.out.2) HE.out.1
                | true =>
                  have HN : Aside (XB W W.heap.size #[.int .i64 3, .int .u64 x, .string s, .slice (some ⟨b, o, none⟩) len cap] w1 ∧ ∀ i, i < j + 1 → KO w0 (FE w0 n) (some ⟨b, o, none⟩) i) := ⟨HR2.out.1.next HB1.out.1, fun i hi => by
                    by_cases e : i = j
                    · subst e
                      exact HKo.out.2 (HB1.out.2.1 rfl)
                    · exact HR2.out.2 i (by omega)⟩
                  go_wp2_with fail
                  go_roundg (gk - 1)
                  case measure => omega
                  case rel => exact ⟨j + 1, by simp, by omega, HN⟩
              · obtain rfl : j = len := by omega
                have q1 : ¬ (j : Int) < (j : Int) := by omega
                have HE : Hid (Below W.heap.size W wr ∧ SF w0 (FE w0 n) (.slice ad j cap)) := ⟨HR2.out.1.out.2, SF_iff.2 HR2.out.2⟩
                go_wp2
                go_ret
                exact BP.t (HFE.out.2 ⟨HO2.out, HE.out.2⟩) HE.out.1
      · have t2 : (k == 2) = false := by simpa using hk2
        have t3 : (k == 3) = false := by simpa using hk3
        obtain ⟨okX, hokX⟩ : ∃ okX : Prop, okX ↔ ((len : Int) = P ∧ s.size = 0 ∧ (k = 1 ∨ x = 0)) := ⟨_, Iff.rfl⟩
        have HOk : Hid (okX ↔ ((len : Int) = P ∧ s.size = 0 ∧ (k = 1 ∨ x = 0))) := hokX
        rw [if_neg (by omega), ← hokX] at HFE
        clear hokX
        go_enter Tryd.func27, Tryd.ntmps27
        go_wp2_with fail
        generalize W.alloc (.cells #[.int .i64 k, .int .u64 x, .string s, .slice ad len cap] 40) = W1 at *
        go_cut [45] (fun s45 wx => ∃ bd, s45 = .bool bd ∧ Aside ((bd = false ↔ okX) ∧ XB W W.heap.size #[.int .i64 k, .int .u64 x, .string s, .slice ad len cap] wx))
        case first =>
          by_cases hpl : (len : Int) = P
          · have t6 : ((len : Int) != P) = false := by simp [hpl]
            replace hpl : Hid ((len : Int) = P) := hpl
            by_cases hs0 : s.size = 0
            · have e0 := empty_yes s hs0
              by_cases hk1 : k = 1
              · have t1 : (k != 1) = false := by simp [hk1]
                replace hk1 : Hid (k = 1) := hk1
                refine wp_region_held_drew (S := (fun X => XB W W.heap.size #[.int .i64 k, .int .u64 x, .string s, .slice ad len cap] X ∧ X.cell? ⟨W.heap.size, 0, none⟩ = some (.int .i64 k) ∧ X.cell? ⟨W.heap.size, 1, none⟩ = some (.int .u64 x) ∧ X.cell? ⟨W.heap.size, 2, none⟩ = some (.string s) ∧ X.cell? ⟨W.heap.size, 3, none⟩ = some (.slice ad len cap))) (by kernel_rfl) (XS.of HX.out.drew) (fun hHeld => ?_)
                refine tqY 0 eO0 (some 13) ?vkkb0 rfl rfl (by kernel_rfl) (fun _ _ _ h => h) ?hkkb0 (by assumption) ?rkkb0
                case hkkb0 => (unfold eO0; intro w hSw; (try dsimp only at hSw); go_simp <;> with_reducible rfl)
                try simp only [Act.put, List.setIfInBounds_toArray, List.set_cons_zero, List.set_cons_succ]
                refine tqY 1 eO1 (some 14) ?vkkb1 rfl rfl (by kernel_rfl) (fun _ _ _ h => h) ?hkkb1 (by assumption) ?rkkb1
                case hkkb1 => (unfold eO1; intro w hSw; (try dsimp only at hSw); go_simp <;> with_reducible rfl)
                try simp only [Act.put, List.setIfInBounds_toArray, List.set_cons_zero, List.set_cons_succ]
                refine tqY 2 eO2 (some 15) ?vkkb2 rfl rfl (by kernel_rfl) (fun _ _ _ h => h) ?hkkb2 (by assumption) ?rkkb2
                case hkkb2 => (unfold eO2; intro w hSw; (try dsimp only at hSw); go_simp <;> with_reducible rfl)
                try simp only [Act.put, List.setIfInBounds_toArray, List.set_cons_zero, List.set_cons_succ]
                refine tqY 3 eO3 (some 16) ?vkkb3 rfl rfl (by kernel_rfl) (fun _ _ _ h => h) ?hkkb3 (by assumption) ?rkkb3
                case hkkb3 => (unfold eO3; intro w hSw; (try dsimp only at hSw); go_simp <;> with_reducible rfl)
                try simp only [Act.put, List.setIfInBounds_toArray, List.set_cons_zero, List.set_cons_succ]
                refine tqY 4 eO4 (some 17) ?vkkb4 rfl rfl (by kernel_rfl) (fun _ _ _ h => h) ?hkkb4 (by assumption) ?rkkb4
                case hkkb4 => (unfold eO4; intro w hSw; (try dsimp only at hSw); go_simp <;> with_reducible rfl)
                try simp only [Act.put, List.setIfInBounds_toArray, List.set_cons_zero, List.set_cons_succ]
                refine wpAnyH_ready (rs := [5]) (by kernel_rfl) (by simp) ?_
                refine AllReadyH.cons (o := { dst := some 18, op := Op.call { callee := Callee.value (Operand.func 30), args := #[Operand.tmp 17], argTypes := #[3] }, type := 3, pos := "print.go:28", after := #[{ on := 4, ground := Ground.data }], guard := none }) rfl (fun K hK => ?_) AllReadyH.nil
                go_simp
                go_at_call 30; refine (HPa.out _).mono ?_; rintro e w9 ⟨rfl, hw⟩; obtain rfl := hw.symm
                refine hK.out _ _ hHeld (fun _ => ?_)
                clear hK K
                try simp only [Act.put, List.setIfInBounds_toArray, List.set_cons_zero, List.set_cons_succ]
                refine tqY 6 eO6 (some 19) ?vkkb6 rfl rfl (by kernel_rfl) (fun _ _ _ h => h) ?hkkb6 (by assumption) ?rkkb6
                case hkkb6 => (unfold eO6; intro w hSw; (try dsimp only at hSw); go_simp <;> with_reducible rfl)
                try simp only [Act.put, List.setIfInBounds_toArray, List.set_cons_zero, List.set_cons_succ]
                refine tqY 7 eO7 (some 20) ?vkkb7 rfl rfl (by kernel_rfl) (fun _ _ _ h => h) ?hkkb7 (by assumption) ?rkkb7
                case hkkb7 => (unfold eO7; intro w hSw; (try dsimp only at hSw); go_simp <;> with_reducible rfl)
                try simp only [Act.put, List.setIfInBounds_toArray, List.set_cons_zero, List.set_cons_succ]
                refine tqY 8 eO8 (some 21) ?vkkb8 rfl rfl (by kernel_rfl) (fun _ _ _ h => h) ?hkkb8 (by assumption) ?rkkb8
                case hkkb8 => (unfold eO8; intro w hSw; (try dsimp only at hSw); go_simp <;> with_reducible rfl)
                try simp only [Act.put, List.setIfInBounds_toArray, List.set_cons_zero, List.set_cons_succ]
                refine tqY 9 eO9 (some 22) ?vkkb9 rfl rfl (by kernel_rfl) (fun _ _ _ h => h) ?hkkb9 (by assumption) ?rkkb9
                case hkkb9 => (unfold eO9; intro w hSw; (try dsimp only at hSw); go_simp <;> with_reducible rfl)
                try simp only [Act.put, List.setIfInBounds_toArray, List.set_cons_zero, List.set_cons_succ]
                refine tqY 10 eO10 (some 23) ?vkkb10 rfl rfl (by kernel_rfl) (fun _ _ _ h => h) ?hkkb10 (by assumption) ?rkkb10
                case hkkb10 => (unfold eO10; intro w hSw; (try dsimp only at hSw); go_simp <;> with_reducible rfl)
                try simp only [Act.put, List.setIfInBounds_toArray, List.set_cons_zero, List.set_cons_succ]
                refine tqY 11 eO11 (some 24) ?vkkb11 rfl rfl (by kernel_rfl) (fun _ _ _ h => h) ?hkkb11 (by assumption) ?rkkb11
                case hkkb11 => (unfold eO11; intro w hSw; (try dsimp only at hSw); go_simp <;> with_reducible rfl)
                try simp only [Act.put, List.setIfInBounds_toArray, List.set_cons_zero, List.set_cons_succ]
                refine tqY 12 eO12 (some 25) ?vkkb12 rfl rfl (by kernel_rfl) (fun _ _ _ h => h) ?hkkb12 (by assumption) ?rkkb12
                case hkkb12 => (unfold eO12; intro w hSw; (try dsimp only at hSw); go_simp <;> with_reducible rfl)
                try simp only [Act.put, List.setIfInBounds_toArray, List.set_cons_zero, List.set_cons_succ]
                refine tqY 13 eO13 (some 26) ?vkkb13 rfl rfl (by kernel_rfl) (fun _ _ _ h => h) ?hkkb13 (by assumption) ?rkkb13
                case hkkb13 => (unfold eO13; intro w hSw; (try dsimp only at hSw); go_simp <;> with_reducible rfl)
                try simp only [Act.put, List.setIfInBounds_toArray, List.set_cons_zero, List.set_cons_succ]
                refine tqY 14 eO14 (some 27) ?vkkb14 rfl rfl (by kernel_rfl) (fun _ _ _ h => h) ?hkkb14 (by assumption) ?rkkb14
                case hkkb14 => (unfold eO14; intro w hSw; (try dsimp only at hSw); go_simp <;> with_reducible rfl)
                try simp only [Act.put, List.setIfInBounds_toArray, List.set_cons_zero, List.set_cons_succ]
                refine tqY 15 eO15 (some 28) ?vkkb15 rfl rfl (by kernel_rfl) (fun _ _ _ h => h) ?hkkb15 (by assumption) ?rkkb15
                case hkkb15 => (unfold eO15; intro w hSw; (try dsimp only at hSw); go_simp <;> with_reducible rfl)
                try simp only [Act.put, List.setIfInBounds_toArray, List.set_cons_zero, List.set_cons_succ]
                refine tqY 16 eO16 (some 29) ?vkkb16 rfl rfl (by kernel_rfl) (fun _ _ _ h => h) ?hkkb16 (by assumption) ?rkkb16
                case hkkb16 => (unfold eO16; intro w hSw; (try dsimp only at hSw); go_simp <;> with_reducible rfl)
                try simp only [Act.put, List.setIfInBounds_toArray, List.set_cons_zero, List.set_cons_succ]
                refine tqN 17 eO17 (some 30) rfl rfl (by kernel_rfl) (fun _ _ _ h => h) (by assumption) ?rkkb17
                try simp only [Act.put, List.setIfInBounds_toArray, List.set_cons_zero, List.set_cons_succ]
                refine tqN 18 eO18 (some 31) rfl rfl (by kernel_rfl) (fun _ _ _ h => h) (by assumption) ?rkkb18
                try simp only [Act.put, List.setIfInBounds_toArray, List.set_cons_zero, List.set_cons_succ]
                refine tqN 19 eO19 (some 32) rfl rfl (by kernel_rfl) (fun _ _ _ h => h) (by assumption) ?rkkb19
                try simp only [Act.put, List.setIfInBounds_toArray, List.set_cons_zero, List.set_cons_succ]
                refine tqN 20 eO20 (some 33) rfl rfl (by kernel_rfl) (fun _ _ _ h => h) (by assumption) ?rkkb20
                try simp only [Act.put, List.setIfInBounds_toArray, List.set_cons_zero, List.set_cons_succ]
                refine tqY 21 eO21 (some 34) ?vkkb21 rfl rfl (by kernel_rfl) (fun _ _ _ h => h) ?hkkb21 (by assumption) ?rkkb21
                case hkkb21 => (unfold eO21; intro w hSw; (try dsimp only at hSw); go_simp <;> with_reducible rfl)
                try simp only [Act.put, List.setIfInBounds_toArray, List.set_cons_zero, List.set_cons_succ]
                refine tqY 22 eO22 (some 35) ?vkkb22 rfl rfl (by kernel_rfl) (fun _ _ _ h => h) ?hkkb22 (by assumption) ?rkkb22
                case hkkb22 => (unfold eO22; intro w hSw; (try dsimp only at hSw); go_simp <;> with_reducible rfl)
                try simp only [Act.put, List.setIfInBounds_toArray, List.set_cons_zero, List.set_cons_succ]
                refine tqY 23 eO23 (some 36) ?vkkb23 rfl rfl (by kernel_rfl) (fun _ _ _ h => h) ?hkkb23 (by assumption) ?rkkb23
                case hkkb23 => (unfold eO23; intro w hSw; (try dsimp only at hSw); go_simp <;> with_reducible rfl)
                try simp only [Act.put, List.setIfInBounds_toArray, List.set_cons_zero, List.set_cons_succ]
                refine tqY 24 eO24 (some 37) ?vkkb24 rfl rfl (by kernel_rfl) (fun _ _ _ h => h) ?hkkb24 (by assumption) ?rkkb24
                case hkkb24 => (unfold eO24; intro w hSw; (try dsimp only at hSw); go_simp <;> with_reducible rfl)
                try simp only [Act.put, List.setIfInBounds_toArray, List.set_cons_zero, List.set_cons_succ]
                refine tqY 25 eO25 (some 38) ?vkkb25 rfl rfl (by kernel_rfl) (fun _ _ _ h => h) ?hkkb25 (by assumption) ?rkkb25
                case hkkb25 => (unfold eO25; intro w hSw; (try dsimp only at hSw); go_simp <;> with_reducible rfl)
                try simp only [Act.put, List.setIfInBounds_toArray, List.set_cons_zero, List.set_cons_succ]
                refine tqY 26 eO26 (some 39) ?vkkb26 rfl rfl (by kernel_rfl) (fun _ _ _ h => h) ?hkkb26 (by assumption) ?rkkb26
                case hkkb26 => (unfold eO26; intro w hSw; (try dsimp only at hSw); go_simp <;> with_reducible rfl)
                try simp only [Act.put, List.setIfInBounds_toArray, List.set_cons_zero, List.set_cons_succ]
                refine tqY 27 eO27 (some 40) ?vkkb27 rfl rfl (by kernel_rfl) (fun _ _ _ h => h) ?hkkb27 (by assumption) ?rkkb27
                case hkkb27 => (unfold eO27; intro w hSw; (try dsimp only at hSw); go_simp <;> with_reducible rfl)
                try simp only [Act.put, List.setIfInBounds_toArray, List.set_cons_zero, List.set_cons_succ]
                refine tqN 28 eO28 (some 41) rfl rfl (by kernel_rfl) (fun _ _ _ h => h) (by assumption) ?rkkb28
                try simp only [Act.put, List.setIfInBounds_toArray, List.set_cons_zero, List.set_cons_succ]
                refine tqN 29 eO29 (some 42) rfl rfl (by kernel_rfl) (fun _ _ _ h => h) (by assumption) ?rkkb29
                try simp only [Act.put, List.setIfInBounds_toArray, List.set_cons_zero, List.set_cons_succ]
                refine tqN 30 eO30 (some 43) rfl rfl (by kernel_rfl) (fun _ _ _ h => h) (by assumption) ?rkkb30
                try simp only [Act.put, List.setIfInBounds_toArray, List.set_cons_zero, List.set_cons_succ]
                refine tqY 31 eO31 (some 44) ?vkkb31 rfl rfl (by kernel_rfl) (fun _ _ _ h => h) ?hkkb31 (by assumption) ?rkkb31
                case hkkb31 => (unfold eO31; intro w hSw; (try dsimp only at hSw); go_simp <;> with_reducible rfl)
                try simp only [Act.put, List.setIfInBounds_toArray, List.set_cons_zero, List.set_cons_succ]
                refine tqY 32 eO32 (some 45) ?vkkb32 rfl rfl (by kernel_rfl) (fun _ _ _ h => h) ?hkkb32 (by assumption) ?rkkb32
                case hkkb32 => (unfold eO32; intro w hSw; (try dsimp only at hSw); go_simp <;> with_reducible rfl)
                try simp only [Act.put, List.setIfInBounds_toArray, List.set_cons_zero, List.set_cons_succ]
                refine wpAnyH_done (by kernel_rfl) ?_ _
                try go_wp2_with fail
                go_meet
                exact ⟨false, rfl, ⟨fun _ => HOk.out.2 (by exact ⟨hpl.out, hs0, Or.inl hk1.out⟩), fun _ => rfl⟩, hHeld.1⟩
              · have t1 : (k != 1) = true := by simpa using hk1
                by_cases hx0 : x = 0
                · have tx : (x != 0) = false := by simp [hx0]
                  replace hx0 : Hid (x = 0) := hx0
                  refine wp_region_held_drew (S := (fun X => XB W W.heap.size #[.int .i64 k, .int .u64 x, .string s, .slice ad len cap] X ∧ X.cell? ⟨W.heap.size, 0, none⟩ = some (.int .i64 k) ∧ X.cell? ⟨W.heap.size, 1, none⟩ = some (.int .u64 x) ∧ X.cell? ⟨W.heap.size, 2, none⟩ = some (.string s) ∧ X.cell? ⟨W.heap.size, 3, none⟩ = some (.slice ad len cap))) (by kernel_rfl) (XS.of HX.out.drew) (fun hHeld => ?_)
                  refine tqY 0 eO0 (some 13) ?vkkc0 rfl rfl (by kernel_rfl) (fun _ _ _ h => h) ?hkkc0 (by assumption) ?rkkc0
                  case hkkc0 => (unfold eO0; intro w hSw; (try dsimp only at hSw); go_simp <;> with_reducible rfl)
                  try simp only [Act.put, List.setIfInBounds_toArray, List.set_cons_zero, List.set_cons_succ]
                  refine tqY 1 eO1 (some 14) ?vkkc1 rfl rfl (by kernel_rfl) (fun _ _ _ h => h) ?hkkc1 (by assumption) ?rkkc1
                  case hkkc1 => (unfold eO1; intro w hSw; (try dsimp only at hSw); go_simp <;> with_reducible rfl)
                  try simp only [Act.put, List.setIfInBounds_toArray, List.set_cons_zero, List.set_cons_succ]
                  refine tqY 2 eO2 (some 15) ?vkkc2 rfl rfl (by kernel_rfl) (fun _ _ _ h => h) ?hkkc2 (by assumption) ?rkkc2
                  case hkkc2 => (unfold eO2; intro w hSw; (try dsimp only at hSw); go_simp <;> with_reducible rfl)
                  try simp only [Act.put, List.setIfInBounds_toArray, List.set_cons_zero, List.set_cons_succ]
                  refine tqY 3 eO3 (some 16) ?vkkc3 rfl rfl (by kernel_rfl) (fun _ _ _ h => h) ?hkkc3 (by assumption) ?rkkc3
                  case hkkc3 => (unfold eO3; intro w hSw; (try dsimp only at hSw); go_simp <;> with_reducible rfl)
                  try simp only [Act.put, List.setIfInBounds_toArray, List.set_cons_zero, List.set_cons_succ]
                  refine tqY 4 eO4 (some 17) ?vkkc4 rfl rfl (by kernel_rfl) (fun _ _ _ h => h) ?hkkc4 (by assumption) ?rkkc4
                  case hkkc4 => (unfold eO4; intro w hSw; (try dsimp only at hSw); go_simp <;> with_reducible rfl)
                  try simp only [Act.put, List.setIfInBounds_toArray, List.set_cons_zero, List.set_cons_succ]
                  refine wpAnyH_ready (rs := [5]) (by kernel_rfl) (by simp) ?_
                  refine AllReadyH.cons (o := { dst := some 18, op := Op.call { callee := Callee.value (Operand.func 30), args := #[Operand.tmp 17], argTypes := #[3] }, type := 3, pos := "print.go:28", after := #[{ on := 4, ground := Ground.data }], guard := none }) rfl (fun K hK => ?_) AllReadyH.nil
                  go_simp
                  go_at_call 30; refine (HPa.out _).mono ?_; rintro e w9 ⟨rfl, hw⟩; obtain rfl := hw.symm
                  refine hK.out _ _ hHeld (fun _ => ?_)
                  clear hK K
                  try simp only [Act.put, List.setIfInBounds_toArray, List.set_cons_zero, List.set_cons_succ]
                  refine tqY 6 eO6 (some 19) ?vkkc6 rfl rfl (by kernel_rfl) (fun _ _ _ h => h) ?hkkc6 (by assumption) ?rkkc6
                  case hkkc6 => (unfold eO6; intro w hSw; (try dsimp only at hSw); go_simp <;> with_reducible rfl)
                  try simp only [Act.put, List.setIfInBounds_toArray, List.set_cons_zero, List.set_cons_succ]
                  refine tqY 7 eO7 (some 20) ?vkkc7 rfl rfl (by kernel_rfl) (fun _ _ _ h => h) ?hkkc7 (by assumption) ?rkkc7
                  case hkkc7 => (unfold eO7; intro w hSw; (try dsimp only at hSw); go_simp <;> with_reducible rfl)
                  try simp only [Act.put, List.setIfInBounds_toArray, List.set_cons_zero, List.set_cons_succ]
                  refine tqY 8 eO8 (some 21) ?vkkc8 rfl rfl (by kernel_rfl) (fun _ _ _ h => h) ?hkkc8 (by assumption) ?rkkc8
                  case hkkc8 => (unfold eO8; intro w hSw; (try dsimp only at hSw); go_simp <;> with_reducible rfl)
                  try simp only [Act.put, List.setIfInBounds_toArray, List.set_cons_zero, List.set_cons_succ]
                  refine tqY 9 eO9 (some 22) ?vkkc9 rfl rfl (by kernel_rfl) (fun _ _ _ h => h) ?hkkc9 (by assumption) ?rkkc9
                  case hkkc9 => (unfold eO9; intro w hSw; (try dsimp only at hSw); go_simp <;> with_reducible rfl)
                  try simp only [Act.put, List.setIfInBounds_toArray, List.set_cons_zero, List.set_cons_succ]
                  refine tqY 10 eO10 (some 23) ?vkkc10 rfl rfl (by kernel_rfl) (fun _ _ _ h => h) ?hkkc10 (by assumption) ?rkkc10
                  case hkkc10 => (unfold eO10; intro w hSw; (try dsimp only at hSw); go_simp <;> with_reducible rfl)
                  try simp only [Act.put, List.setIfInBounds_toArray, List.set_cons_zero, List.set_cons_succ]
                  refine tqY 11 eO11 (some 24) ?vkkc11 rfl rfl (by kernel_rfl) (fun _ _ _ h => h) ?hkkc11 (by assumption) ?rkkc11
                  case hkkc11 => (unfold eO11; intro w hSw; (try dsimp only at hSw); go_simp <;> with_reducible rfl)
                  try simp only [Act.put, List.setIfInBounds_toArray, List.set_cons_zero, List.set_cons_succ]
                  refine tqY 12 eO12 (some 25) ?vkkc12 rfl rfl (by kernel_rfl) (fun _ _ _ h => h) ?hkkc12 (by assumption) ?rkkc12
                  case hkkc12 => (unfold eO12; intro w hSw; (try dsimp only at hSw); go_simp <;> with_reducible rfl)
                  try simp only [Act.put, List.setIfInBounds_toArray, List.set_cons_zero, List.set_cons_succ]
                  refine tqY 13 eO13 (some 26) ?vkkc13 rfl rfl (by kernel_rfl) (fun _ _ _ h => h) ?hkkc13 (by assumption) ?rkkc13
                  case hkkc13 => (unfold eO13; intro w hSw; (try dsimp only at hSw); go_simp <;> with_reducible rfl)
                  try simp only [Act.put, List.setIfInBounds_toArray, List.set_cons_zero, List.set_cons_succ]
                  refine tqY 14 eO14 (some 27) ?vkkc14 rfl rfl (by kernel_rfl) (fun _ _ _ h => h) ?hkkc14 (by assumption) ?rkkc14
                  case hkkc14 => (unfold eO14; intro w hSw; (try dsimp only at hSw); go_simp <;> with_reducible rfl)
                  try simp only [Act.put, List.setIfInBounds_toArray, List.set_cons_zero, List.set_cons_succ]
                  refine tqY 15 eO15 (some 28) ?vkkc15 rfl rfl (by kernel_rfl) (fun _ _ _ h => h) ?hkkc15 (by assumption) ?rkkc15
                  case hkkc15 => (unfold eO15; intro w hSw; (try dsimp only at hSw); go_simp <;> with_reducible rfl)
                  try simp only [Act.put, List.setIfInBounds_toArray, List.set_cons_zero, List.set_cons_succ]
                  refine tqY 16 eO16 (some 29) ?vkkc16 rfl rfl (by kernel_rfl) (fun _ _ _ h => h) ?hkkc16 (by assumption) ?rkkc16
                  case hkkc16 => (unfold eO16; intro w hSw; (try dsimp only at hSw); go_simp <;> with_reducible rfl)
                  try simp only [Act.put, List.setIfInBounds_toArray, List.set_cons_zero, List.set_cons_succ]
                  refine tqN 17 eO17 (some 30) rfl rfl (by kernel_rfl) (fun _ _ _ h => h) (by assumption) ?rkkc17
                  try simp only [Act.put, List.setIfInBounds_toArray, List.set_cons_zero, List.set_cons_succ]
                  refine tqN 18 eO18 (some 31) rfl rfl (by kernel_rfl) (fun _ _ _ h => h) (by assumption) ?rkkc18
                  try simp only [Act.put, List.setIfInBounds_toArray, List.set_cons_zero, List.set_cons_succ]
                  refine tqN 19 eO19 (some 32) rfl rfl (by kernel_rfl) (fun _ _ _ h => h) (by assumption) ?rkkc19
                  try simp only [Act.put, List.setIfInBounds_toArray, List.set_cons_zero, List.set_cons_succ]
                  refine tqN 20 eO20 (some 33) rfl rfl (by kernel_rfl) (fun _ _ _ h => h) (by assumption) ?rkkc20
                  try simp only [Act.put, List.setIfInBounds_toArray, List.set_cons_zero, List.set_cons_succ]
                  refine tqY 21 eO21 (some 34) ?vkkc21 rfl rfl (by kernel_rfl) (fun _ _ _ h => h) ?hkkc21 (by assumption) ?rkkc21
                  case hkkc21 => (unfold eO21; intro w hSw; (try dsimp only at hSw); go_simp <;> with_reducible rfl)
                  try simp only [Act.put, List.setIfInBounds_toArray, List.set_cons_zero, List.set_cons_succ]
                  refine tqY 22 eO22 (some 35) ?vkkc22 rfl rfl (by kernel_rfl) (fun _ _ _ h => h) ?hkkc22 (by assumption) ?rkkc22
                  case hkkc22 => (unfold eO22; intro w hSw; (try dsimp only at hSw); go_simp <;> with_reducible rfl)
                  try simp only [Act.put, List.setIfInBounds_toArray, List.set_cons_zero, List.set_cons_succ]
                  refine tqY 23 eO23 (some 36) ?vkkc23 rfl rfl (by kernel_rfl) (fun _ _ _ h => h) ?hkkc23 (by assumption) ?rkkc23
                  case hkkc23 => (unfold eO23; intro w hSw; (try dsimp only at hSw); go_simp <;> with_reducible rfl)
                  try simp only [Act.put, List.setIfInBounds_toArray, List.set_cons_zero, List.set_cons_succ]
                  refine tqY 24 eO24 (some 37) ?vkkc24 rfl rfl (by kernel_rfl) (fun _ _ _ h => h) ?hkkc24 (by assumption) ?rkkc24
                  case hkkc24 => (unfold eO24; intro w hSw; (try dsimp only at hSw); go_simp <;> with_reducible rfl)
                  try simp only [Act.put, List.setIfInBounds_toArray, List.set_cons_zero, List.set_cons_succ]
                  refine tqY 25 eO25 (some 38) ?vkkc25 rfl rfl (by kernel_rfl) (fun _ _ _ h => h) ?hkkc25 (by assumption) ?rkkc25
                  case hkkc25 => (unfold eO25; intro w hSw; (try dsimp only at hSw); go_simp <;> with_reducible rfl)
                  try simp only [Act.put, List.setIfInBounds_toArray, List.set_cons_zero, List.set_cons_succ]
                  refine tqY 26 eO26 (some 39) ?vkkc26 rfl rfl (by kernel_rfl) (fun _ _ _ h => h) ?hkkc26 (by assumption) ?rkkc26
                  case hkkc26 => (unfold eO26; intro w hSw; (try dsimp only at hSw); go_simp <;> with_reducible rfl)
                  try simp only [Act.put, List.setIfInBounds_toArray, List.set_cons_zero, List.set_cons_succ]
                  refine tqY 27 eO27 (some 40) ?vkkc27 rfl rfl (by kernel_rfl) (fun _ _ _ h => h) ?hkkc27 (by assumption) ?rkkc27
                  case hkkc27 => (unfold eO27; intro w hSw; (try dsimp only at hSw); go_simp <;> with_reducible rfl)
                  try simp only [Act.put, List.setIfInBounds_toArray, List.set_cons_zero, List.set_cons_succ]
                  refine tqY 28 eO28 (some 41) ?vkkc28 rfl rfl (by kernel_rfl) (fun _ _ _ h => h) ?hkkc28 (by assumption) ?rkkc28
                  case hkkc28 => (unfold eO28; intro w hSw; (try dsimp only at hSw); go_simp <;> with_reducible rfl)
                  try simp only [Act.put, List.setIfInBounds_toArray, List.set_cons_zero, List.set_cons_succ]
                  refine tqY 29 eO29 (some 42) ?vkkc29 rfl rfl (by kernel_rfl) (fun _ _ _ h => h) ?hkkc29 (by assumption) ?rkkc29
                  case hkkc29 => (unfold eO29; intro w hSw; (try dsimp only at hSw); go_simp <;> with_reducible rfl)
                  try simp only [Act.put, List.setIfInBounds_toArray, List.set_cons_zero, List.set_cons_succ]
                  refine tqY 30 eO30 (some 43) ?vkkc30 rfl rfl (by kernel_rfl) (fun _ _ _ h => h) ?hkkc30 (by assumption) ?rkkc30
                  case hkkc30 => (unfold eO30; intro w hSw; (try dsimp only at hSw); go_simp <;> with_reducible rfl)
                  try simp only [Act.put, List.setIfInBounds_toArray, List.set_cons_zero, List.set_cons_succ]
                  refine tqY 31 eO31 (some 44) ?vkkc31 rfl rfl (by kernel_rfl) (fun _ _ _ h => h) ?hkkc31 (by assumption) ?rkkc31
                  case hkkc31 => (unfold eO31; intro w hSw; (try dsimp only at hSw); go_simp <;> with_reducible rfl)
                  try simp only [Act.put, List.setIfInBounds_toArray, List.set_cons_zero, List.set_cons_succ]
                  refine tqY 32 eO32 (some 45) ?vkkc32 rfl rfl (by kernel_rfl) (fun _ _ _ h => h) ?hkkc32 (by assumption) ?rkkc32
                  case hkkc32 => (unfold eO32; intro w hSw; (try dsimp only at hSw); go_simp <;> with_reducible rfl)
                  try simp only [Act.put, List.setIfInBounds_toArray, List.set_cons_zero, List.set_cons_succ]
                  refine wpAnyH_done (by kernel_rfl) ?_ _
                  try go_wp2_with fail
                  go_meet
                  exact ⟨false, rfl, ⟨fun _ => HOk.out.2 (by exact ⟨hpl.out, hs0, Or.inr hx0.out⟩), fun _ => rfl⟩, hHeld.1⟩
                · have tx : (x != 0) = true := by simpa using hx0
                  refine wp_region_held_drew (S := (fun X => XB W W.heap.size #[.int .i64 k, .int .u64 x, .string s, .slice ad len cap] X ∧ X.cell? ⟨W.heap.size, 0, none⟩ = some (.int .i64 k) ∧ X.cell? ⟨W.heap.size, 1, none⟩ = some (.int .u64 x) ∧ X.cell? ⟨W.heap.size, 2, none⟩ = some (.string s) ∧ X.cell? ⟨W.heap.size, 3, none⟩ = some (.slice ad len cap))) (by kernel_rfl) (XS.of HX.out.drew) (fun hHeld => ?_)
                  refine tqY 0 eO0 (some 13) ?vkkd0 rfl rfl (by kernel_rfl) (fun _ _ _ h => h) ?hkkd0 (by assumption) ?rkkd0
                  case hkkd0 => (unfold eO0; intro w hSw; (try dsimp only at hSw); go_simp <;> with_reducible rfl)
                  try simp only [Act.put, List.setIfInBounds_toArray, List.set_cons_zero, List.set_cons_succ]
                  refine tqY 1 eO1 (some 14) ?vkkd1 rfl rfl (by kernel_rfl) (fun _ _ _ h => h) ?hkkd1 (by assumption) ?rkkd1
                  case hkkd1 => (unfold eO1; intro w hSw; (try dsimp only at hSw); go_simp <;> with_reducible rfl)
                  try simp only [Act.put, List.setIfInBounds_toArray, List.set_cons_zero, List.set_cons_succ]
                  refine tqY 2 eO2 (some 15) ?vkkd2 rfl rfl (by kernel_rfl) (fun _ _ _ h => h) ?hkkd2 (by assumption) ?rkkd2
                  case hkkd2 => (unfold eO2; intro w hSw; (try dsimp only at hSw); go_simp <;> with_reducible rfl)
                  try simp only [Act.put, List.setIfInBounds_toArray, List.set_cons_zero, List.set_cons_succ]
                  refine tqY 3 eO3 (some 16) ?vkkd3 rfl rfl (by kernel_rfl) (fun _ _ _ h => h) ?hkkd3 (by assumption) ?rkkd3
                  case hkkd3 => (unfold eO3; intro w hSw; (try dsimp only at hSw); go_simp <;> with_reducible rfl)
                  try simp only [Act.put, List.setIfInBounds_toArray, List.set_cons_zero, List.set_cons_succ]
                  refine tqY 4 eO4 (some 17) ?vkkd4 rfl rfl (by kernel_rfl) (fun _ _ _ h => h) ?hkkd4 (by assumption) ?rkkd4
                  case hkkd4 => (unfold eO4; intro w hSw; (try dsimp only at hSw); go_simp <;> with_reducible rfl)
                  try simp only [Act.put, List.setIfInBounds_toArray, List.set_cons_zero, List.set_cons_succ]
                  refine wpAnyH_ready (rs := [5]) (by kernel_rfl) (by simp) ?_
                  refine AllReadyH.cons (o := { dst := some 18, op := Op.call { callee := Callee.value (Operand.func 30), args := #[Operand.tmp 17], argTypes := #[3] }, type := 3, pos := "print.go:28", after := #[{ on := 4, ground := Ground.data }], guard := none }) rfl (fun K hK => ?_) AllReadyH.nil
                  go_simp
                  go_at_call 30; refine (HPa.out _).mono ?_; rintro e w9 ⟨rfl, hw⟩; obtain rfl := hw.symm
                  refine hK.out _ _ hHeld (fun _ => ?_)
                  clear hK K
                  try simp only [Act.put, List.setIfInBounds_toArray, List.set_cons_zero, List.set_cons_succ]
                  refine tqY 6 eO6 (some 19) ?vkkd6 rfl rfl (by kernel_rfl) (fun _ _ _ h => h) ?hkkd6 (by assumption) ?rkkd6
                  case hkkd6 => (unfold eO6; intro w hSw; (try dsimp only at hSw); go_simp <;> with_reducible rfl)
                  try simp only [Act.put, List.setIfInBounds_toArray, List.set_cons_zero, List.set_cons_succ]
                  refine tqY 7 eO7 (some 20) ?vkkd7 rfl rfl (by kernel_rfl) (fun _ _ _ h => h) ?hkkd7 (by assumption) ?rkkd7
                  case hkkd7 => (unfold eO7; intro w hSw; (try dsimp only at hSw); go_simp <;> with_reducible rfl)
                  try simp only [Act.put, List.setIfInBounds_toArray, List.set_cons_zero, List.set_cons_succ]
                  refine tqY 8 eO8 (some 21) ?vkkd8 rfl rfl (by kernel_rfl) (fun _ _ _ h => h) ?hkkd8 (by assumption) ?rkkd8
                  case hkkd8 => (unfold eO8; intro w hSw; (try dsimp only at hSw); go_simp <;> with_reducible rfl)
                  try simp only [Act.put, List.setIfInBounds_toArray, List.set_cons_zero, List.set_cons_succ]
                  refine tqY 9 eO9 (some 22) ?vkkd9 rfl rfl (by kernel_rfl) (fun _ _ _ h => h) ?hkkd9 (by assumption) ?rkkd9
                  case hkkd9 => (unfold eO9; intro w hSw; (try dsimp only at hSw); go_simp <;> with_reducible rfl)
                  try simp only [Act.put, List.setIfInBounds_toArray, List.set_cons_zero, List.set_cons_succ]
                  refine tqY 10 eO10 (some 23) ?vkkd10 rfl rfl (by kernel_rfl) (fun _ _ _ h => h) ?hkkd10 (by assumption) ?rkkd10
                  case hkkd10 => (unfold eO10; intro w hSw; (try dsimp only at hSw); go_simp <;> with_reducible rfl)
                  try simp only [Act.put, List.setIfInBounds_toArray, List.set_cons_zero, List.set_cons_succ]
                  refine tqY 11 eO11 (some 24) ?vkkd11 rfl rfl (by kernel_rfl) (fun _ _ _ h => h) ?hkkd11 (by assumption) ?rkkd11
                  case hkkd11 => (unfold eO11; intro w hSw; (try dsimp only at hSw); go_simp <;> with_reducible rfl)
                  try simp only [Act.put, List.setIfInBounds_toArray, List.set_cons_zero, List.set_cons_succ]
                  refine tqY 12 eO12 (some 25) ?vkkd12 rfl rfl (by kernel_rfl) (fun _ _ _ h => h) ?hkkd12 (by assumption) ?rkkd12
                  case hkkd12 => (unfold eO12; intro w hSw; (try dsimp only at hSw); go_simp <;> with_reducible rfl)
                  try simp only [Act.put, List.setIfInBounds_toArray, List.set_cons_zero, List.set_cons_succ]
                  refine tqY 13 eO13 (some 26) ?vkkd13 rfl rfl (by kernel_rfl) (fun _ _ _ h => h) ?hkkd13 (by assumption) ?rkkd13
                  case hkkd13 => (unfold eO13; intro w hSw; (try dsimp only at hSw); go_simp <;> with_reducible rfl)
                  try simp only [Act.put, List.setIfInBounds_toArray, List.set_cons_zero, List.set_cons_succ]
                  refine tqY 14 eO14 (some 27) ?vkkd14 rfl rfl (by kernel_rfl) (fun _ _ _ h => h) ?hkkd14 (by assumption) ?rkkd14
                  case hkkd14 => (unfold eO14; intro w hSw; (try dsimp only at hSw); go_simp <;> with_reducible rfl)
                  try simp only [Act.put, List.setIfInBounds_toArray, List.set_cons_zero, List.set_cons_succ]
                  refine tqY 15 eO15 (some 28) ?vkkd15 rfl rfl (by kernel_rfl) (fun _ _ _ h => h) ?hkkd15 (by assumption) ?rkkd15
                  case hkkd15 => (unfold eO15; intro w hSw; (try dsimp only at hSw); go_simp <;> with_reducible rfl)
                  try simp only [Act.put, List.setIfInBounds_toArray, List.set_cons_zero, List.set_cons_succ]
                  refine tqY 16 eO16 (some 29) ?vkkd16 rfl rfl (by kernel_rfl) (fun _ _ _ h => h) ?hkkd16 (by assumption) ?rkkd16
                  case hkkd16 => (unfold eO16; intro w hSw; (try dsimp only at hSw); go_simp <;> with_reducible rfl)
                  try simp only [Act.put, List.setIfInBounds_toArray, List.set_cons_zero, List.set_cons_succ]
                  refine tqN 17 eO17 (some 30) rfl rfl (by kernel_rfl) (fun _ _ _ h => h) (by assumption) ?rkkd17
                  try simp only [Act.put, List.setIfInBounds_toArray, List.set_cons_zero, List.set_cons_succ]
                  refine tqN 18 eO18 (some 31) rfl rfl (by kernel_rfl) (fun _ _ _ h => h) (by assumption) ?rkkd18
                  try simp only [Act.put, List.setIfInBounds_toArray, List.set_cons_zero, List.set_cons_succ]
                  refine tqN 19 eO19 (some 32) rfl rfl (by kernel_rfl) (fun _ _ _ h => h) (by assumption) ?rkkd19
                  try simp only [Act.put, List.setIfInBounds_toArray, List.set_cons_zero, List.set_cons_succ]
                  refine tqN 20 eO20 (some 33) rfl rfl (by kernel_rfl) (fun _ _ _ h => h) (by assumption) ?rkkd20
                  try simp only [Act.put, List.setIfInBounds_toArray, List.set_cons_zero, List.set_cons_succ]
                  refine tqY 21 eO21 (some 34) ?vkkd21 rfl rfl (by kernel_rfl) (fun _ _ _ h => h) ?hkkd21 (by assumption) ?rkkd21
                  case hkkd21 => (unfold eO21; intro w hSw; (try dsimp only at hSw); go_simp <;> with_reducible rfl)
                  try simp only [Act.put, List.setIfInBounds_toArray, List.set_cons_zero, List.set_cons_succ]
                  refine tqY 22 eO22 (some 35) ?vkkd22 rfl rfl (by kernel_rfl) (fun _ _ _ h => h) ?hkkd22 (by assumption) ?rkkd22
                  case hkkd22 => (unfold eO22; intro w hSw; (try dsimp only at hSw); go_simp <;> with_reducible rfl)
                  try simp only [Act.put, List.setIfInBounds_toArray, List.set_cons_zero, List.set_cons_succ]
                  refine tqY 23 eO23 (some 36) ?vkkd23 rfl rfl (by kernel_rfl) (fun _ _ _ h => h) ?hkkd23 (by assumption) ?rkkd23
                  case hkkd23 => (unfold eO23; intro w hSw; (try dsimp only at hSw); go_simp <;> with_reducible rfl)
                  try simp only [Act.put, List.setIfInBounds_toArray, List.set_cons_zero, List.set_cons_succ]
                  refine tqY 24 eO24 (some 37) ?vkkd24 rfl rfl (by kernel_rfl) (fun _ _ _ h => h) ?hkkd24 (by assumption) ?rkkd24
                  case hkkd24 => (unfold eO24; intro w hSw; (try dsimp only at hSw); go_simp <;> with_reducible rfl)
                  try simp only [Act.put, List.setIfInBounds_toArray, List.set_cons_zero, List.set_cons_succ]
                  refine tqY 25 eO25 (some 38) ?vkkd25 rfl rfl (by kernel_rfl) (fun _ _ _ h => h) ?hkkd25 (by assumption) ?rkkd25
                  case hkkd25 => (unfold eO25; intro w hSw; (try dsimp only at hSw); go_simp <;> with_reducible rfl)
                  try simp only [Act.put, List.setIfInBounds_toArray, List.set_cons_zero, List.set_cons_succ]
                  refine tqY 26 eO26 (some 39) ?vkkd26 rfl rfl (by kernel_rfl) (fun _ _ _ h => h) ?hkkd26 (by assumption) ?rkkd26
                  case hkkd26 => (unfold eO26; intro w hSw; (try dsimp only at hSw); go_simp <;> with_reducible rfl)
                  try simp only [Act.put, List.setIfInBounds_toArray, List.set_cons_zero, List.set_cons_succ]
                  refine tqY 27 eO27 (some 40) ?vkkd27 rfl rfl (by kernel_rfl) (fun _ _ _ h => h) ?hkkd27 (by assumption) ?rkkd27
                  case hkkd27 => (unfold eO27; intro w hSw; (try dsimp only at hSw); go_simp <;> with_reducible rfl)
                  try simp only [Act.put, List.setIfInBounds_toArray, List.set_cons_zero, List.set_cons_succ]
                  refine tqY 28 eO28 (some 41) ?vkkd28 rfl rfl (by kernel_rfl) (fun _ _ _ h => h) ?hkkd28 (by assumption) ?rkkd28
                  case hkkd28 => (unfold eO28; intro w hSw; (try dsimp only at hSw); go_simp <;> with_reducible rfl)
                  try simp only [Act.put, List.setIfInBounds_toArray, List.set_cons_zero, List.set_cons_succ]
                  refine tqY 29 eO29 (some 42) ?vkkd29 rfl rfl (by kernel_rfl) (fun _ _ _ h => h) ?hkkd29 (by assumption) ?rkkd29
                  case hkkd29 => (unfold eO29; intro w hSw; (try dsimp only at hSw); go_simp <;> with_reducible rfl)
                  try simp only [Act.put, List.setIfInBounds_toArray, List.set_cons_zero, List.set_cons_succ]
                  refine tqY 30 eO30 (some 43) ?vkkd30 rfl rfl (by kernel_rfl) (fun _ _ _ h => h) ?hkkd30 (by assumption) ?rkkd30
                  case hkkd30 => (unfold eO30; intro w hSw; (try dsimp only at hSw); go_simp <;> with_reducible rfl)
                  try simp only [Act.put, List.setIfInBounds_toArray, List.set_cons_zero, List.set_cons_succ]
                  refine tqY 31 eO31 (some 44) ?vkkd31 rfl rfl (by kernel_rfl) (fun _ _ _ h => h) ?hkkd31 (by assumption) ?rkkd31
                  case hkkd31 => (unfold eO31; intro w hSw; (try dsimp only at hSw); go_simp <;> with_reducible rfl)
                  try simp only [Act.put, List.setIfInBounds_toArray, List.set_cons_zero, List.set_cons_succ]
                  refine tqY 32 eO32 (some 45) ?vkkd32 rfl rfl (by kernel_rfl) (fun _ _ _ h => h) ?hkkd32 (by assumption) ?rkkd32
                  case hkkd32 => (unfold eO32; intro w hSw; (try dsimp only at hSw); go_simp <;> with_reducible rfl)
                  try simp only [Act.put, List.setIfInBounds_toArray, List.set_cons_zero, List.set_cons_succ]
                  refine wpAnyH_done (by kernel_rfl) ?_ _
                  try go_wp2_with fail
                  go_meet
                  exact ⟨true, rfl, ⟨fun h => (by cases h), fun h => absurd (HOk.out.1 h) (by intro hh; rcases hh.2.2 with h | h; exact hk1 h; exact hx0 h)⟩, hHeld.1⟩
            · have e0 := empty_no s hs0
              refine wp_region_held_drew (S := (fun X => XB W W.heap.size #[.int .i64 k, .int .u64 x, .string s, .slice ad len cap] X ∧ X.cell? ⟨W.heap.size, 0, none⟩ = some (.int .i64 k) ∧ X.cell? ⟨W.heap.size, 1, none⟩ = some (.int .u64 x) ∧ X.cell? ⟨W.heap.size, 2, none⟩ = some (.string s) ∧ X.cell? ⟨W.heap.size, 3, none⟩ = some (.slice ad len cap))) (by kernel_rfl) (XS.of HX.out.drew) (fun hHeld => ?_)
              refine tqY 0 eO0 (some 13) ?vkke0 rfl rfl (by kernel_rfl) (fun _ _ _ h => h) ?hkke0 (by assumption) ?rkke0
              case hkke0 => (unfold eO0; intro w hSw; (try dsimp only at hSw); go_simp <;> with_reducible rfl)
              try simp only [Act.put, List.setIfInBounds_toArray, List.set_cons_zero, List.set_cons_succ]
              refine tqY 1 eO1 (some 14) ?vkke1 rfl rfl (by kernel_rfl) (fun _ _ _ h => h) ?hkke1 (by assumption) ?rkke1
              case hkke1 => (unfold eO1; intro w hSw; (try dsimp only at hSw); go_simp <;> with_reducible rfl)
              try simp only [Act.put, List.setIfInBounds_toArray, List.set_cons_zero, List.set_cons_succ]
              refine tqY 2 eO2 (some 15) ?vkke2 rfl rfl (by kernel_rfl) (fun _ _ _ h => h) ?hkke2 (by assumption) ?rkke2
              case hkke2 => (unfold eO2; intro w hSw; (try dsimp only at hSw); go_simp <;> with_reducible rfl)
              try simp only [Act.put, List.setIfInBounds_toArray, List.set_cons_zero, List.set_cons_succ]
              refine tqY 3 eO3 (some 16) ?vkke3 rfl rfl (by kernel_rfl) (fun _ _ _ h => h) ?hkke3 (by assumption) ?rkke3
              case hkke3 => (unfold eO3; intro w hSw; (try dsimp only at hSw); go_simp <;> with_reducible rfl)
              try simp only [Act.put, List.setIfInBounds_toArray, List.set_cons_zero, List.set_cons_succ]
              refine tqY 4 eO4 (some 17) ?vkke4 rfl rfl (by kernel_rfl) (fun _ _ _ h => h) ?hkke4 (by assumption) ?rkke4
              case hkke4 => (unfold eO4; intro w hSw; (try dsimp only at hSw); go_simp <;> with_reducible rfl)
              try simp only [Act.put, List.setIfInBounds_toArray, List.set_cons_zero, List.set_cons_succ]
              refine wpAnyH_ready (rs := [5]) (by kernel_rfl) (by simp) ?_
              refine AllReadyH.cons (o := { dst := some 18, op := Op.call { callee := Callee.value (Operand.func 30), args := #[Operand.tmp 17], argTypes := #[3] }, type := 3, pos := "print.go:28", after := #[{ on := 4, ground := Ground.data }], guard := none }) rfl (fun K hK => ?_) AllReadyH.nil
              go_simp
              go_at_call 30; refine (HPa.out _).mono ?_; rintro e w9 ⟨rfl, hw⟩; obtain rfl := hw.symm
              refine hK.out _ _ hHeld (fun _ => ?_)
              clear hK K
              try simp only [Act.put, List.setIfInBounds_toArray, List.set_cons_zero, List.set_cons_succ]
              refine tqY 6 eO6 (some 19) ?vkke6 rfl rfl (by kernel_rfl) (fun _ _ _ h => h) ?hkke6 (by assumption) ?rkke6
              case hkke6 => (unfold eO6; intro w hSw; (try dsimp only at hSw); go_simp <;> with_reducible rfl)
              try simp only [Act.put, List.setIfInBounds_toArray, List.set_cons_zero, List.set_cons_succ]
              refine tqY 7 eO7 (some 20) ?vkke7 rfl rfl (by kernel_rfl) (fun _ _ _ h => h) ?hkke7 (by assumption) ?rkke7
              case hkke7 => (unfold eO7; intro w hSw; (try dsimp only at hSw); go_simp <;> with_reducible rfl)
              try simp only [Act.put, List.setIfInBounds_toArray, List.set_cons_zero, List.set_cons_succ]
              refine tqY 8 eO8 (some 21) ?vkke8 rfl rfl (by kernel_rfl) (fun _ _ _ h => h) ?hkke8 (by assumption) ?rkke8
              case hkke8 => (unfold eO8; intro w hSw; (try dsimp only at hSw); go_simp <;> with_reducible rfl)
              try simp only [Act.put, List.setIfInBounds_toArray, List.set_cons_zero, List.set_cons_succ]
              refine tqY 9 eO9 (some 22) ?vkke9 rfl rfl (by kernel_rfl) (fun _ _ _ h => h) ?hkke9 (by assumption) ?rkke9
              case hkke9 => (unfold eO9; intro w hSw; (try dsimp only at hSw); go_simp <;> with_reducible rfl)
              try simp only [Act.put, List.setIfInBounds_toArray, List.set_cons_zero, List.set_cons_succ]
              refine tqY 10 eO10 (some 23) ?vkke10 rfl rfl (by kernel_rfl) (fun _ _ _ h => h) ?hkke10 (by assumption) ?rkke10
              case hkke10 => (unfold eO10; intro w hSw; (try dsimp only at hSw); go_simp <;> with_reducible rfl)
              try simp only [Act.put, List.setIfInBounds_toArray, List.set_cons_zero, List.set_cons_succ]
              refine tqY 11 eO11 (some 24) ?vkke11 rfl rfl (by kernel_rfl) (fun _ _ _ h => h) ?hkke11 (by assumption) ?rkke11
              case hkke11 => (unfold eO11; intro w hSw; (try dsimp only at hSw); go_simp <;> with_reducible rfl)
              try simp only [Act.put, List.setIfInBounds_toArray, List.set_cons_zero, List.set_cons_succ]
              refine tqY 12 eO12 (some 25) ?vkke12 rfl rfl (by kernel_rfl) (fun _ _ _ h => h) ?hkke12 (by assumption) ?rkke12
              case hkke12 => (unfold eO12; intro w hSw; (try dsimp only at hSw); go_simp <;> with_reducible rfl)
              try simp only [Act.put, List.setIfInBounds_toArray, List.set_cons_zero, List.set_cons_succ]
              refine tqY 13 eO13 (some 26) ?vkke13 rfl rfl (by kernel_rfl) (fun _ _ _ h => h) ?hkke13 (by assumption) ?rkke13
              case hkke13 => (unfold eO13; intro w hSw; (try dsimp only at hSw); go_simp <;> with_reducible rfl)
              try simp only [Act.put, List.setIfInBounds_toArray, List.set_cons_zero, List.set_cons_succ]
              refine tqY 14 eO14 (some 27) ?vkke14 rfl rfl (by kernel_rfl) (fun _ _ _ h => h) ?hkke14 (by assumption) ?rkke14
              case hkke14 => (unfold eO14; intro w hSw; (try dsimp only at hSw); go_simp <;> with_reducible rfl)
              try simp only [Act.put, List.setIfInBounds_toArray, List.set_cons_zero, List.set_cons_succ]
              refine tqN 15 eO15 (some 28) rfl rfl (by kernel_rfl) (fun _ _ _ h => h) (by assumption) ?rkke15
              try simp only [Act.put, List.setIfInBounds_toArray, List.set_cons_zero, List.set_cons_succ]
              refine tqN 16 eO16 (some 29) rfl rfl (by kernel_rfl) (fun _ _ _ h => h) (by assumption) ?rkke16
              try simp only [Act.put, List.setIfInBounds_toArray, List.set_cons_zero, List.set_cons_succ]
              refine tqN 17 eO17 (some 30) rfl rfl (by kernel_rfl) (fun _ _ _ h => h) (by assumption) ?rkke17
              try simp only [Act.put, List.setIfInBounds_toArray, List.set_cons_zero, List.set_cons_succ]
              refine tqN 18 eO18 (some 31) rfl rfl (by kernel_rfl) (fun _ _ _ h => h) (by assumption) ?rkke18
              try simp only [Act.put, List.setIfInBounds_toArray, List.set_cons_zero, List.set_cons_succ]
              refine tqN 19 eO19 (some 32) rfl rfl (by kernel_rfl) (fun _ _ _ h => h) (by assumption) ?rkke19
              try simp only [Act.put, List.setIfInBounds_toArray, List.set_cons_zero, List.set_cons_succ]
              refine tqN 20 eO20 (some 33) rfl rfl (by kernel_rfl) (fun _ _ _ h => h) (by assumption) ?rkke20
              try simp only [Act.put, List.setIfInBounds_toArray, List.set_cons_zero, List.set_cons_succ]
              refine tqN 21 eO21 (some 34) rfl rfl (by kernel_rfl) (fun _ _ _ h => h) (by assumption) ?rkke21
              try simp only [Act.put, List.setIfInBounds_toArray, List.set_cons_zero, List.set_cons_succ]
              refine tqY 22 eO22 (some 35) ?vkke22 rfl rfl (by kernel_rfl) (fun _ _ _ h => h) ?hkke22 (by assumption) ?rkke22
              case hkke22 => (unfold eO22; intro w hSw; (try dsimp only at hSw); go_simp <;> with_reducible rfl)
              try simp only [Act.put, List.setIfInBounds_toArray, List.set_cons_zero, List.set_cons_succ]
              refine tqY 23 eO23 (some 36) ?vkke23 rfl rfl (by kernel_rfl) (fun _ _ _ h => h) ?hkke23 (by assumption) ?rkke23
              case hkke23 => (unfold eO23; intro w hSw; (try dsimp only at hSw); go_simp <;> with_reducible rfl)
              try simp only [Act.put, List.setIfInBounds_toArray, List.set_cons_zero, List.set_cons_succ]
              refine tqN 24 eO24 (some 37) rfl rfl (by kernel_rfl) (fun _ _ _ h => h) (by assumption) ?rkke24
              try simp only [Act.put, List.setIfInBounds_toArray, List.set_cons_zero, List.set_cons_succ]
              refine tqN 25 eO25 (some 38) rfl rfl (by kernel_rfl) (fun _ _ _ h => h) (by assumption) ?rkke25
              try simp only [Act.put, List.setIfInBounds_toArray, List.set_cons_zero, List.set_cons_succ]
              refine tqN 26 eO26 (some 39) rfl rfl (by kernel_rfl) (fun _ _ _ h => h) (by assumption) ?rkke26
              try simp only [Act.put, List.setIfInBounds_toArray, List.set_cons_zero, List.set_cons_succ]
              refine tqN 27 eO27 (some 40) rfl rfl (by kernel_rfl) (fun _ _ _ h => h) (by assumption) ?rkke27
              try simp only [Act.put, List.setIfInBounds_toArray, List.set_cons_zero, List.set_cons_succ]
              refine tqN 28 eO28 (some 41) rfl rfl (by kernel_rfl) (fun _ _ _ h => h) (by assumption) ?rkke28
              try simp only [Act.put, List.setIfInBounds_toArray, List.set_cons_zero, List.set_cons_succ]
              refine tqN 29 eO29 (some 42) rfl rfl (by kernel_rfl) (fun _ _ _ h => h) (by assumption) ?rkke29
              try simp only [Act.put, List.setIfInBounds_toArray, List.set_cons_zero, List.set_cons_succ]
              refine tqN 30 eO30 (some 43) rfl rfl (by kernel_rfl) (fun _ _ _ h => h) (by assumption) ?rkke30
              try simp only [Act.put, List.setIfInBounds_toArray, List.set_cons_zero, List.set_cons_succ]
              refine tqN 31 eO31 (some 44) rfl rfl (by kernel_rfl) (fun _ _ _ h => h) (by assumption) ?rkke31
              try simp only [Act.put, List.setIfInBounds_toArray, List.set_cons_zero, List.set_cons_succ]
              refine tqY 32 eO32 (some 45) ?vkke32 rfl rfl (by kernel_rfl) (fun _ _ _ h => h) ?hkke32 (by assumption) ?rkke32
              case hkke32 => (unfold eO32; intro w hSw; (try dsimp only at hSw); go_simp <;> with_reducible rfl)
              try simp only [Act.put, List.setIfInBounds_toArray, List.set_cons_zero, List.set_cons_succ]
              refine wpAnyH_done (by kernel_rfl) ?_ _
              try go_wp2_with fail
              go_meet
              exact ⟨true, rfl, ⟨fun h => (by cases h), fun h => absurd (HOk.out.1 h) (by intro hh; exact hs0 hh.2.1)⟩, hHeld.1⟩
          · have t6 : ((len : Int) != P) = true := by simpa using hpl
            refine wp_region_held_drew (S := (fun X => XB W W.heap.size #[.int .i64 k, .int .u64 x, .string s, .slice ad len cap] X ∧ X.cell? ⟨W.heap.size, 0, none⟩ = some (.int .i64 k) ∧ X.cell? ⟨W.heap.size, 1, none⟩ = some (.int .u64 x) ∧ X.cell? ⟨W.heap.size, 2, none⟩ = some (.string s) ∧ X.cell? ⟨W.heap.size, 3, none⟩ = some (.slice ad len cap))) (by kernel_rfl) (XS.of HX.out.drew) (fun hHeld => ?_)
            refine tqY 0 eO0 (some 13) ?vkki0 rfl rfl (by kernel_rfl) (fun _ _ _ h => h) ?hkki0 (by assumption) ?rkki0
            case hkki0 => (unfold eO0; intro w hSw; (try dsimp only at hSw); go_simp <;> with_reducible rfl)
            try simp only [Act.put, List.setIfInBounds_toArray, List.set_cons_zero, List.set_cons_succ]
            refine tqY 1 eO1 (some 14) ?vkki1 rfl rfl (by kernel_rfl) (fun _ _ _ h => h) ?hkki1 (by assumption) ?rkki1
            case hkki1 => (unfold eO1; intro w hSw; (try dsimp only at hSw); go_simp <;> with_reducible rfl)
            try simp only [Act.put, List.setIfInBounds_toArray, List.set_cons_zero, List.set_cons_succ]
            refine tqY 2 eO2 (some 15) ?vkki2 rfl rfl (by kernel_rfl) (fun _ _ _ h => h) ?hkki2 (by assumption) ?rkki2
            case hkki2 => (unfold eO2; intro w hSw; (try dsimp only at hSw); go_simp <;> with_reducible rfl)
            try simp only [Act.put, List.setIfInBounds_toArray, List.set_cons_zero, List.set_cons_succ]
            refine tqY 3 eO3 (some 16) ?vkki3 rfl rfl (by kernel_rfl) (fun _ _ _ h => h) ?hkki3 (by assumption) ?rkki3
            case hkki3 => (unfold eO3; intro w hSw; (try dsimp only at hSw); go_simp <;> with_reducible rfl)
            try simp only [Act.put, List.setIfInBounds_toArray, List.set_cons_zero, List.set_cons_succ]
            refine tqY 4 eO4 (some 17) ?vkki4 rfl rfl (by kernel_rfl) (fun _ _ _ h => h) ?hkki4 (by assumption) ?rkki4
            case hkki4 => (unfold eO4; intro w hSw; (try dsimp only at hSw); go_simp <;> with_reducible rfl)
            try simp only [Act.put, List.setIfInBounds_toArray, List.set_cons_zero, List.set_cons_succ]
            refine wpAnyH_ready (rs := [5]) (by kernel_rfl) (by simp) ?_
            refine AllReadyH.cons (o := { dst := some 18, op := Op.call { callee := Callee.value (Operand.func 30), args := #[Operand.tmp 17], argTypes := #[3] }, type := 3, pos := "print.go:28", after := #[{ on := 4, ground := Ground.data }], guard := none }) rfl (fun K hK => ?_) AllReadyH.nil
            go_simp
            go_at_call 30; refine (HPa.out _).mono ?_; rintro e w9 ⟨rfl, hw⟩; obtain rfl := hw.symm
            refine hK.out _ _ hHeld (fun _ => ?_)
            clear hK K
            try simp only [Act.put, List.setIfInBounds_toArray, List.set_cons_zero, List.set_cons_succ]
            refine tqY 6 eO6 (some 19) ?vkki6 rfl rfl (by kernel_rfl) (fun _ _ _ h => h) ?hkki6 (by assumption) ?rkki6
            case hkki6 => (unfold eO6; intro w hSw; (try dsimp only at hSw); go_simp <;> with_reducible rfl)
            try simp only [Act.put, List.setIfInBounds_toArray, List.set_cons_zero, List.set_cons_succ]
            refine tqY 7 eO7 (some 20) ?vkki7 rfl rfl (by kernel_rfl) (fun _ _ _ h => h) ?hkki7 (by assumption) ?rkki7
            case hkki7 => (unfold eO7; intro w hSw; (try dsimp only at hSw); go_simp <;> with_reducible rfl)
            try simp only [Act.put, List.setIfInBounds_toArray, List.set_cons_zero, List.set_cons_succ]
            refine tqN 8 eO8 (some 21) rfl rfl (by kernel_rfl) (fun _ _ _ h => h) (by assumption) ?rkki8
            try simp only [Act.put, List.setIfInBounds_toArray, List.set_cons_zero, List.set_cons_succ]
            refine tqN 9 eO9 (some 22) rfl rfl (by kernel_rfl) (fun _ _ _ h => h) (by assumption) ?rkki9
            try simp only [Act.put, List.setIfInBounds_toArray, List.set_cons_zero, List.set_cons_succ]
            refine tqN 10 eO10 (some 23) rfl rfl (by kernel_rfl) (fun _ _ _ h => h) (by assumption) ?rkki10
            try simp only [Act.put, List.setIfInBounds_toArray, List.set_cons_zero, List.set_cons_succ]
            refine tqN 11 eO11 (some 24) rfl rfl (by kernel_rfl) (fun _ _ _ h => h) (by assumption) ?rkki11
            try simp only [Act.put, List.setIfInBounds_toArray, List.set_cons_zero, List.set_cons_succ]
            refine tqN 12 eO12 (some 25) rfl rfl (by kernel_rfl) (fun _ _ _ h => h) (by assumption) ?rkki12
            try simp only [Act.put, List.setIfInBounds_toArray, List.set_cons_zero, List.set_cons_succ]
            refine tqY 13 eO13 (some 26) ?vkki13 rfl rfl (by kernel_rfl) (fun _ _ _ h => h) ?hkki13 (by assumption) ?rkki13
            case hkki13 => (unfold eO13; intro w hSw; (try dsimp only at hSw); go_simp <;> with_reducible rfl)
            try simp only [Act.put, List.setIfInBounds_toArray, List.set_cons_zero, List.set_cons_succ]
            refine tqY 14 eO14 (some 27) ?vkki14 rfl rfl (by kernel_rfl) (fun _ _ _ h => h) ?hkki14 (by assumption) ?rkki14
            case hkki14 => (unfold eO14; intro w hSw; (try dsimp only at hSw); go_simp <;> with_reducible rfl)
            try simp only [Act.put, List.setIfInBounds_toArray, List.set_cons_zero, List.set_cons_succ]
            refine tqN 15 eO15 (some 28) rfl rfl (by kernel_rfl) (fun _ _ _ h => h) (by assumption) ?rkki15
            try simp only [Act.put, List.setIfInBounds_toArray, List.set_cons_zero, List.set_cons_succ]
            refine tqN 16 eO16 (some 29) rfl rfl (by kernel_rfl) (fun _ _ _ h => h) (by assumption) ?rkki16
            try simp only [Act.put, List.setIfInBounds_toArray, List.set_cons_zero, List.set_cons_succ]
            refine tqN 17 eO17 (some 30) rfl rfl (by kernel_rfl) (fun _ _ _ h => h) (by assumption) ?rkki17
            try simp only [Act.put, List.setIfInBounds_toArray, List.set_cons_zero, List.set_cons_succ]
            refine tqN 18 eO18 (some 31) rfl rfl (by kernel_rfl) (fun _ _ _ h => h) (by assumption) ?rkki18
            try simp only [Act.put, List.setIfInBounds_toArray, List.set_cons_zero, List.set_cons_succ]
            refine tqN 19 eO19 (some 32) rfl rfl (by kernel_rfl) (fun _ _ _ h => h) (by assumption) ?rkki19
            try simp only [Act.put, List.setIfInBounds_toArray, List.set_cons_zero, List.set_cons_succ]
            refine tqN 20 eO20 (some 33) rfl rfl (by kernel_rfl) (fun _ _ _ h => h) (by assumption) ?rkki20
            try simp only [Act.put, List.setIfInBounds_toArray, List.set_cons_zero, List.set_cons_succ]
            refine tqN 21 eO21 (some 34) rfl rfl (by kernel_rfl) (fun _ _ _ h => h) (by assumption) ?rkki21
            try simp only [Act.put, List.setIfInBounds_toArray, List.set_cons_zero, List.set_cons_succ]
            refine tqY 22 eO22 (some 35) ?vkki22 rfl rfl (by kernel_rfl) (fun _ _ _ h => h) ?hkki22 (by assumption) ?rkki22
            case hkki22 => (unfold eO22; intro w hSw; (try dsimp only at hSw); go_simp <;> with_reducible rfl)
            try simp only [Act.put, List.setIfInBounds_toArray, List.set_cons_zero, List.set_cons_succ]
            refine tqY 23 eO23 (some 36) ?vkki23 rfl rfl (by kernel_rfl) (fun _ _ _ h => h) ?hkki23 (by assumption) ?rkki23
            case hkki23 => (unfold eO23; intro w hSw; (try dsimp only at hSw); go_simp <;> with_reducible rfl)
            try simp only [Act.put, List.setIfInBounds_toArray, List.set_cons_zero, List.set_cons_succ]
            refine tqN 24 eO24 (some 37) rfl rfl (by kernel_rfl) (fun _ _ _ h => h) (by assumption) ?rkki24
            try simp only [Act.put, List.setIfInBounds_toArray, List.set_cons_zero, List.set_cons_succ]
            refine tqN 25 eO25 (some 38) rfl rfl (by kernel_rfl) (fun _ _ _ h => h) (by assumption) ?rkki25
            try simp only [Act.put, List.setIfInBounds_toArray, List.set_cons_zero, List.set_cons_succ]
            refine tqN 26 eO26 (some 39) rfl rfl (by kernel_rfl) (fun _ _ _ h => h) (by assumption) ?rkki26
            try simp only [Act.put, List.setIfInBounds_toArray, List.set_cons_zero, List.set_cons_succ]
            refine tqN 27 eO27 (some 40) rfl rfl (by kernel_rfl) (fun _ _ _ h => h) (by assumption) ?rkki27
            try simp only [Act.put, List.setIfInBounds_toArray, List.set_cons_zero, List.set_cons_succ]
            refine tqN 28 eO28 (some 41) rfl rfl (by kernel_rfl) (fun _ _ _ h => h) (by assumption) ?rkki28
            try simp only [Act.put, List.setIfInBounds_toArray, List.set_cons_zero, List.set_cons_succ]
            refine tqN 29 eO29 (some 42) rfl rfl (by kernel_rfl) (fun _ _ _ h => h) (by assumption) ?rkki29
            try simp only [Act.put, List.setIfInBounds_toArray, List.set_cons_zero, List.set_cons_succ]
            refine tqN 30 eO30 (some 43) rfl rfl (by kernel_rfl) (fun _ _ _ h => h) (by assumption) ?rkki30
            try simp only [Act.put, List.setIfInBounds_toArray, List.set_cons_zero, List.set_cons_succ]
            refine tqN 31 eO31 (some 44) rfl rfl (by kernel_rfl) (fun _ _ _ h => h) (by assumption) ?rkki31
            try simp only [Act.put, List.setIfInBounds_toArray, List.set_cons_zero, List.set_cons_succ]
            refine tqY 32 eO32 (some 45) ?vkki32 rfl rfl (by kernel_rfl) (fun _ _ _ h => h) ?hkki32 (by assumption) ?rkki32
            case hkki32 => (unfold eO32; intro w hSw; (try dsimp only at hSw); go_simp <;> with_reducible rfl)
            try simp only [Act.put, List.setIfInBounds_toArray, List.set_cons_zero, List.set_cons_succ]
            refine wpAnyH_done (by kernel_rfl) ?_ _
            try go_wp2_with fail
            go_meet
            exact ⟨true, rfl, ⟨fun h => (by cases h), fun h => absurd (HOk.out.1 h) (by intro hh; exact hpl hh.1)⟩, hHeld.1⟩
        case rest =>
          obtain ⟨bd, rfl, hok, hxb⟩ := hcut
          have HXc : Hid (XB W W.heap.size #[.int .i64 k, .int .u64 x, .string s, .slice ad len cap] wc) := hxb
          have HOb : Hid (bd = false ↔ okX) := hok
          clear hok hxb HX HOk HPa HNm
          cases bd with
          | true =>
            have HB9 : Hid (Below W.heap.size W wc) := HXc.out.out.2
            go_wp2
            go_ret
            exact BP.f (fun h => absurd (HOb.out.2 (HFE.out.1 h).1) (by decide)) HB9.out
          | false =>
            have HO2 : Hid okX := HOb.out.1 rfl
            have c3 : wc.cell? ⟨W.heap.size, 3, none⟩ = some (.slice ad len cap) := lc HXc.out.out.1 3
            go_wp2_with fail
            go_loopg [4] len (fun gk v4 wr => ∃ j : Nat, v4 = .int .i64 (j : Int) ∧ j + gk = len ∧ Aside (XB W W.heap.size #[.int .i64 k, .int .u64 x, .string s, .slice ad len cap] wr ∧ ∀ i, i < j → KO w0 (FE w0 n) ad i))
            case atStart => exact ⟨0, rfl, by omega, ⟨HXc.out, fun i hi => absurd hi (by omega)⟩⟩
            case round =>
              clear HXc c3
              obtain ⟨j, rfl, hj, HR⟩ := hrel
              have HR2 : Hid (XB W W.heap.size #[.int .i64 k, .int .u64 x, .string s, .slice ad len cap] wr ∧ ∀ i, i < j → KO w0 (FE w0 n) ad i) := HR.out
              clear HR
              have c3 : wr.cell? ⟨W.heap.size, 3, none⟩ = some (.slice ad len cap) := lc HR2.out.1.out.1 3
              by_cases hlt : j < len
              · have q1 : (j : Int) < (len : Int) := by omega
                obtain ⟨b, o, rfl, hb, hel⟩ := HSX.out (by omega)
                obtain ⟨v0, v1, v2, v3, h0, h1, h2, h3, hex⟩ := hel j hlt
                have HB0 : Hid (Below w0.heap.size w0 wr) := bnext HW.out HR2.out.1.out.2
                have y0 := (HB0.out.cell (p := ⟨b, o + j * 4, none⟩) hb).trans h0
                have y1 := (HB0.out.cell (p := ⟨b, o + j * 4 + 1, none⟩) hb).trans h1
                have y2 := (HB0.out.cell (p := ⟨b, o + j * 4 + 2, none⟩) hb).trans h2
                have y3 := (HB0.out.cell (p := ⟨b, o + j * 4 + 3, none⟩) hb).trans h3
                have HKo : Hid (KO w0 (FE w0 n) (some ⟨b, o, none⟩) j ↔ FE w0 n [v0, v1, v2, v3]) := KO_at h0 h1 h2 h3
                have HCl : Hid (Calls Tryd.prog 27 #[.agg #[v0, v1, v2, v3]] wr (BP (FE w0 n [v0, v1, v2, v3]) wr)) := IH.out [v0, v1, v2, v3] wr hex HB0.out
                clear hel h0 h1 h2 h3 hex hb
                go_wp2_with fail
                refine HCl.out.mono ?_
                rintro e w1 ⟨bb, rfl, hiff, hbl⟩
                have HB1 : Hid (Below wr.heap.size wr w1 ∧ (bb = true ↔ FE w0 n [v0, v1, v2, v3])) := ⟨hbl, hiff⟩
                clear hbl hiff y0 y1 y2 y3 c3 HCl
                cases bb with
                | false =>
                  have HE : Hid (Below W.heap.size W w1 ∧ ¬ SF w0 (FE w0 n) (.slice (some ⟨b, o, none⟩) len cap)) := ⟨bnext HR2.out.1.out.2 HB1.out.1, fun h => absurd (HB1.out.2.2 (HKo.out.1 (SF_iff.1 h j hlt))) (by decide)⟩
                  go_wp2
                  go_ret
                  exact BP.f (fun h => absurd (HFE.out.1 h).2 HE.out.2) HE.out.1
                | true =>
                  have HN : Aside (XB W W.heap.size #[.int .i64 k, .int .u64 x, .string s, .slice (some ⟨b, o, none⟩) len cap] w1 ∧ ∀ i, i < j + 1 → KO w0 (FE w0 n) (some ⟨b, o, none⟩) i) := ⟨HR2.out.1.next HB1.out.1, fun i hi => by
                    by_cases e : i = j
                    · subst e
                      exact HKo.out.2 (HB1.out.2.1 rfl)
                    · exact HR2.out.2 i (by omega)⟩
                  go_wp2_with fail
                  go_roundg (gk - 1)
                  case measure => omega
                  case rel => exact ⟨j + 1, by simp, by omega, HN⟩
              · obtain rfl : j = len := by omega
                have q1 : ¬ (j : Int) < (j : Int) := by omega
                have HE : Hid (Below W.heap.size W wr ∧ SF w0 (FE w0 n) (.slice ad j cap)) := ⟨HR2.out.1.out.2, SF_iff.2 HR2.out.2⟩
                go_wp2
                go_ret
                exact BP.t (HFE.out.2 ⟨HO2.out, HE.out.2⟩) HE.out.1
end Go.Proofs.YtcmknjocmpdicaaDoor
