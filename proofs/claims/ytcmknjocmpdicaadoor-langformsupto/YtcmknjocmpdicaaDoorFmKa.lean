import Derived.Test.YtcmknjocmpdicaaDoorFmP
import Derived.Test.YtcmknjocmpdicaaDoorFmL
import Derived.Test.YtcmknjocmpdicaaDoorFmT
namespace Go.Proofs.YtcmknjocmpdicaaDoor
open Go.ChangeShapes Go.WideShapes Go.ChangeAt Go.RowKit Go.Bn
attribute [local go_sem] Oper.semAt_some

theorem formName_yes (s : ByteArray) (w : World) (hs : s.size ≤ maxLen) : Calls Tryd.prog 24 #[.string s, .bool true] w fun e w' => e = .returned (.bool (nameB s)) ∧ Below w.heap.size w w' := by
  have HN : Hid (Calls Tryd.prog 6 #[.string s] w fun e w' => e = .returned (.bool (nameB s)) ∧ Below w.heap.size w w') := isName_any s w hs
  go_enter Tryd.func24, Tryd.ntmps24
  go_wp2_with fail
  refine HN.out.mono ?_
  rintro e w' ⟨rfl, hb⟩
  have HB : Hid (Below w.heap.size w w') := hb
  clear hb
  go_wp2
  go_ret
  exact ⟨rfl, HB.out⟩
theorem formName_no (s : ByteArray) (w : World) : Calls Tryd.prog 24 #[.string s, .bool false] w fun e w' => e = .returned (.bool (decide (s.size = 0))) ∧ w' = w := by
  by_cases h : s.size = 0
  · rw [decide_eq_true h]
    have e0 := empty_yes s h
    go_enter Tryd.func24, Tryd.ntmps24
    go_wp2
    go_ret
    exact ⟨rfl, rfl⟩
  · rw [decide_eq_false h]
    have e0 := empty_no s h
    go_enter Tryd.func24, Tryd.ntmps24
    go_wp2
    go_ret
    exact ⟨rfl, rfl⟩
theorem allE_any (ad : Option Addr) (n c : Nat) (w : World) : Calls Tryd.prog 31 #[.slice ad n c, .func (.func 32) #[] #[]] w fun e w' => e = .returned (.func (.func 33) #[] #[.pointer (some ⟨w.heap.size, 0, none⟩), .pointer (some ⟨w.heap.size + 1, 0, none⟩)]) ∧ w' = (w.alloc (.cells #[.slice ad n c] 38)).alloc (.cells #[.func (.func 32) #[] #[]] 62) := by
  go_enter Tryd.func31, Tryd.ntmps31
  go_wp2
  go_ret
  exact ⟨rfl, rfl⟩
def kO0 : Oper := { dst := some 8, op := Op.move (Operand.tmp 3), type := 63, pos := "form.go:63", after := #[], guard := none }
def kO1 : Oper := { dst := some 9, op := Op.nilCheck (Operand.tmp 8), type := 0, pos := "form.go:63", after := #[{ on := 0, ground := Ground.data }], guard := none }
def kO2 : Oper := { dst := some 10, op := Op.fieldAddr 40 (Operand.tmp 9) 0, type := 0, pos := "form.go:63", after := #[{ on := 1, ground := Ground.data }], guard := none }
def kO3 : Oper := { dst := some 11, op := Op.load 3 (Operand.tmp 10), type := 3, pos := "form.go:63", after := #[{ on := 2, ground := Ground.data }], guard := none }
def kO4 : Oper := { dst := some 12, op := Op.binOp BinOp.lss 3 (Operand.tmp 11) (Operand.const (Value.int IntKind.i64 1)) 3, type := 4, pos := "form.go:63", after := #[{ on := 3, ground := Ground.data }], guard := none }
def kO5 : Oper := { dst := some 13, op := Op.move (Operand.tmp 12), type := 4, pos := "form.go:63", after := #[{ on := 4, ground := Ground.data }], guard := none }
def kO6 : Oper := { dst := some 14, op := Op.move (Operand.tmp 3), type := 63, pos := "form.go:63", after := #[{ on := 5, ground := Ground.guard }], guard := some (5, false) }
def kO7 : Oper := { dst := some 15, op := Op.nilCheck (Operand.tmp 14), type := 0, pos := "form.go:63", after := #[{ on := 6, ground := Ground.data }, { on := 5, ground := Ground.guard }], guard := some (5, false) }
def kO8 : Oper := { dst := some 16, op := Op.fieldAddr 40 (Operand.tmp 15) 0, type := 0, pos := "form.go:63", after := #[{ on := 7, ground := Ground.data }, { on := 5, ground := Ground.guard }], guard := some (5, false) }
def kO9 : Oper := { dst := some 17, op := Op.load 3 (Operand.tmp 16), type := 3, pos := "form.go:63", after := #[{ on := 8, ground := Ground.data }, { on := 5, ground := Ground.guard }], guard := some (5, false) }
def kO10 : Oper := { dst := some 18, op := Op.binOp BinOp.gtr 3 (Operand.tmp 17) (Operand.const (Value.int IntKind.i64 26)) 3, type := 4, pos := "form.go:63", after := #[{ on := 9, ground := Ground.data }, { on := 5, ground := Ground.guard }], guard := some (5, false) }
def kO11 : Oper := { dst := some 19, op := Op.pick (Operand.tmp 13) (Operand.const (Value.bool true)) (Operand.tmp 18), type := 4, pos := "form.go:63", after := #[{ on := 5, ground := Ground.data }, { on := 10, ground := Ground.data }], guard := none }
def kO12 : Oper := { dst := some 20, op := Op.move (Operand.tmp 19), type := 4, pos := "form.go:63", after := #[{ on := 11, ground := Ground.data }, { on := 5, ground := Ground.chain }], guard := none }
def kO13 : Oper := { dst := some 21, op := Op.move (Operand.tmp 3), type := 63, pos := "form.go:63", after := #[{ on := 12, ground := Ground.guard }], guard := some (12, false) }
def kO14 : Oper := { dst := some 22, op := Op.nilCheck (Operand.tmp 21), type := 0, pos := "form.go:63", after := #[{ on := 13, ground := Ground.data }, { on := 12, ground := Ground.guard }], guard := some (12, false) }
def kO15 : Oper := { dst := some 23, op := Op.fieldAddr 40 (Operand.tmp 22) 3, type := 0, pos := "form.go:63", after := #[{ on := 14, ground := Ground.data }, { on := 12, ground := Ground.guard }], guard := some (12, false) }
def kO16 : Oper := { dst := some 24, op := Op.load 38 (Operand.tmp 23), type := 38, pos := "form.go:63", after := #[{ on := 15, ground := Ground.data }, { on := 12, ground := Ground.guard }], guard := some (12, false) }
def kO17 : Oper := { dst := some 25, op := Op.call { callee := Callee.builtin Builtin.len, args := #[Operand.tmp 24], argTypes := #[38] }, type := 3, pos := "form.go:63", after := #[{ on := 16, ground := Ground.data }, { on := 12, ground := Ground.guard }], guard := some (12, false) }
def kO18 : Oper := { dst := some 26, op := Op.move (Operand.tmp 3), type := 63, pos := "form.go:63", after := #[{ on := 12, ground := Ground.guard }], guard := some (12, false) }
def kO19 : Oper := { dst := some 27, op := Op.nilCheck (Operand.tmp 26), type := 0, pos := "form.go:63", after := #[{ on := 18, ground := Ground.data }, { on := 12, ground := Ground.guard }], guard := some (12, false) }
def kO20 : Oper := { dst := some 28, op := Op.fieldAddr 40 (Operand.tmp 27) 0, type := 0, pos := "form.go:63", after := #[{ on := 19, ground := Ground.data }, { on := 12, ground := Ground.guard }], guard := some (12, false) }
def kO21 : Oper := { dst := some 29, op := Op.load 3 (Operand.tmp 28), type := 3, pos := "form.go:63", after := #[{ on := 20, ground := Ground.data }, { on := 12, ground := Ground.guard }], guard := some (12, false) }
def kO22 : Oper := { dst := some 30, op := Op.indexAddr 66 (Operand.global 1) (Operand.tmp 29), type := 0, pos := "form.go:63", after := #[{ on := 21, ground := Ground.data }, { on := 12, ground := Ground.guard }], guard := some (12, false) }
def kO23 : Oper := { dst := some 31, op := Op.fieldAddr 65 (Operand.tmp 30) 1, type := 0, pos := "form.go:63", after := #[{ on := 22, ground := Ground.data }, { on := 12, ground := Ground.guard }], guard := some (12, false) }
def kO24 : Oper := { dst := some 32, op := Op.load 3 (Operand.tmp 31), type := 3, pos := "form.go:63", after := #[{ on := 23, ground := Ground.data }, { on := 12, ground := Ground.guard }], guard := some (12, false) }
def kO25 : Oper := { dst := some 33, op := Op.binOp BinOp.neq 3 (Operand.tmp 25) (Operand.tmp 32) 3, type := 4, pos := "form.go:63", after := #[{ on := 17, ground := Ground.data }, { on := 24, ground := Ground.data }, { on := 12, ground := Ground.guard }], guard := some (12, false) }
def kO26 : Oper := { dst := some 34, op := Op.pick (Operand.tmp 20) (Operand.const (Value.bool true)) (Operand.tmp 33), type := 4, pos := "form.go:63", after := #[{ on := 12, ground := Ground.data }, { on := 25, ground := Ground.data }], guard := none }
def kO27 : Oper := { dst := some 35, op := Op.move (Operand.tmp 34), type := 4, pos := "form.go:63", after := #[{ on := 26, ground := Ground.data }, { on := 12, ground := Ground.chain }], guard := none }
def kO28 : Oper := { dst := some 36, op := Op.move (Operand.tmp 3), type := 63, pos := "form.go:63", after := #[{ on := 27, ground := Ground.guard }], guard := some (27, false) }
def kO29 : Oper := { dst := some 37, op := Op.nilCheck (Operand.tmp 36), type := 0, pos := "form.go:63", after := #[{ on := 28, ground := Ground.data }, { on := 27, ground := Ground.guard }], guard := some (27, false) }
def kO30 : Oper := { dst := some 38, op := Op.fieldAddr 40 (Operand.tmp 37) 2, type := 0, pos := "form.go:63", after := #[{ on := 29, ground := Ground.data }, { on := 27, ground := Ground.guard }], guard := some (27, false) }
def kO31 : Oper := { dst := some 39, op := Op.load 9 (Operand.tmp 38), type := 9, pos := "form.go:63", after := #[{ on := 30, ground := Ground.data }, { on := 27, ground := Ground.guard }], guard := some (27, false) }
def kO32 : Oper := { dst := some 40, op := Op.move (Operand.tmp 3), type := 63, pos := "form.go:63", after := #[{ on := 27, ground := Ground.guard }], guard := some (27, false) }
def kO33 : Oper := { dst := some 41, op := Op.nilCheck (Operand.tmp 40), type := 0, pos := "form.go:63", after := #[{ on := 32, ground := Ground.data }, { on := 27, ground := Ground.guard }], guard := some (27, false) }
def kO34 : Oper := { dst := some 42, op := Op.fieldAddr 40 (Operand.tmp 41) 0, type := 0, pos := "form.go:63", after := #[{ on := 33, ground := Ground.data }, { on := 27, ground := Ground.guard }], guard := some (27, false) }
def kO35 : Oper := { dst := some 43, op := Op.load 3 (Operand.tmp 42), type := 3, pos := "form.go:63", after := #[{ on := 34, ground := Ground.data }, { on := 27, ground := Ground.guard }], guard := some (27, false) }
def kO36 : Oper := { dst := some 44, op := Op.binOp BinOp.eql 3 (Operand.tmp 43) (Operand.const (Value.int IntKind.i64 2)) 3, type := 4, pos := "form.go:63", after := #[{ on := 35, ground := Ground.data }, { on := 27, ground := Ground.guard }], guard := some (27, false) }
def kO37 : Oper := { dst := some 45, op := Op.move (Operand.tmp 44), type := 4, pos := "form.go:63", after := #[{ on := 36, ground := Ground.data }, { on := 27, ground := Ground.chain }, { on := 27, ground := Ground.guard }], guard := some (27, false) }
def kO38 : Oper := { dst := some 46, op := Op.move (Operand.tmp 3), type := 63, pos := "form.go:63", after := #[{ on := 37, ground := Ground.guard }], guard := some (37, false) }
def kO39 : Oper := { dst := some 47, op := Op.nilCheck (Operand.tmp 46), type := 0, pos := "form.go:63", after := #[{ on := 38, ground := Ground.data }, { on := 37, ground := Ground.guard }], guard := some (37, false) }
def kO40 : Oper := { dst := some 48, op := Op.fieldAddr 40 (Operand.tmp 47) 0, type := 0, pos := "form.go:63", after := #[{ on := 39, ground := Ground.data }, { on := 37, ground := Ground.guard }], guard := some (37, false) }
def kO41 : Oper := { dst := some 49, op := Op.load 3 (Operand.tmp 48), type := 3, pos := "form.go:63", after := #[{ on := 40, ground := Ground.data }, { on := 37, ground := Ground.guard }], guard := some (37, false) }
def kO42 : Oper := { dst := some 50, op := Op.binOp BinOp.eql 3 (Operand.tmp 49) (Operand.const (Value.int IntKind.i64 3)) 3, type := 4, pos := "form.go:63", after := #[{ on := 41, ground := Ground.data }, { on := 37, ground := Ground.guard }], guard := some (37, false) }
def kO43 : Oper := { dst := some 51, op := Op.pick (Operand.tmp 45) (Operand.const (Value.bool true)) (Operand.tmp 50), type := 4, pos := "form.go:63", after := #[{ on := 37, ground := Ground.data }, { on := 42, ground := Ground.data }, { on := 27, ground := Ground.guard }], guard := some (27, false) }
def kO44 : Oper := { dst := some 52, op := Op.call { callee := Callee.value (Operand.func 24), args := #[Operand.tmp 39, Operand.tmp 51], argTypes := #[9, 4] }, type := 4, pos := "form.go:64", after := #[{ on := 31, ground := Ground.data }, { on := 43, ground := Ground.data }, { on := 37, ground := Ground.chain }, { on := 27, ground := Ground.guard }], guard := some (27, false) }
def kO45 : Oper := { dst := some 53, op := Op.unOp UnOp.not 4 (Operand.tmp 52), type := 4, pos := "form.go:63", after := #[{ on := 44, ground := Ground.data }, { on := 27, ground := Ground.guard }], guard := some (27, false) }
def kO46 : Oper := { dst := some 54, op := Op.pick (Operand.tmp 35) (Operand.const (Value.bool true)) (Operand.tmp 53), type := 4, pos := "form.go:63", after := #[{ on := 27, ground := Ground.data }, { on := 45, ground := Ground.data }], guard := none }
def kO47 : Oper := { dst := some 55, op := Op.move (Operand.tmp 54), type := 4, pos := "form.go:63", after := #[{ on := 46, ground := Ground.data }, { on := 44, ground := Ground.chain }], guard := none }
def kO48 : Oper := { dst := some 56, op := Op.move (Operand.tmp 3), type := 63, pos := "form.go:63", after := #[{ on := 47, ground := Ground.guard }], guard := some (47, false) }
def kO49 : Oper := { dst := some 57, op := Op.nilCheck (Operand.tmp 56), type := 0, pos := "form.go:63", after := #[{ on := 48, ground := Ground.data }, { on := 47, ground := Ground.guard }], guard := some (47, false) }
def kO50 : Oper := { dst := some 58, op := Op.fieldAddr 40 (Operand.tmp 57) 0, type := 0, pos := "form.go:63", after := #[{ on := 49, ground := Ground.data }, { on := 47, ground := Ground.guard }], guard := some (47, false) }
def kO51 : Oper := { dst := some 59, op := Op.load 3 (Operand.tmp 58), type := 3, pos := "form.go:63", after := #[{ on := 50, ground := Ground.data }, { on := 47, ground := Ground.guard }], guard := some (47, false) }
def kO52 : Oper := { dst := some 60, op := Op.binOp BinOp.neq 3 (Operand.tmp 59) (Operand.const (Value.int IntKind.i64 1)) 3, type := 4, pos := "form.go:63", after := #[{ on := 51, ground := Ground.data }, { on := 47, ground := Ground.guard }], guard := some (47, false) }
def kO53 : Oper := { dst := some 61, op := Op.move (Operand.tmp 60), type := 4, pos := "form.go:63", after := #[{ on := 52, ground := Ground.data }, { on := 47, ground := Ground.chain }, { on := 47, ground := Ground.guard }], guard := some (47, false) }
def kO54 : Oper := { dst := some 62, op := Op.move (Operand.tmp 3), type := 63, pos := "form.go:63", after := #[{ on := 53, ground := Ground.guard }], guard := some (53, true) }
def kO55 : Oper := { dst := some 63, op := Op.nilCheck (Operand.tmp 62), type := 0, pos := "form.go:63", after := #[{ on := 54, ground := Ground.data }, { on := 53, ground := Ground.guard }], guard := some (53, true) }
def kO56 : Oper := { dst := some 64, op := Op.fieldAddr 40 (Operand.tmp 63) 1, type := 0, pos := "form.go:63", after := #[{ on := 55, ground := Ground.data }, { on := 53, ground := Ground.guard }], guard := some (53, true) }
def kO57 : Oper := { dst := some 65, op := Op.load 37 (Operand.tmp 64), type := 37, pos := "form.go:63", after := #[{ on := 56, ground := Ground.data }, { on := 53, ground := Ground.guard }], guard := some (53, true) }
def kO58 : Oper := { dst := some 66, op := Op.binOp BinOp.neq 37 (Operand.tmp 65) (Operand.const (Value.int IntKind.u64 0)) 37, type := 4, pos := "form.go:63", after := #[{ on := 57, ground := Ground.data }, { on := 53, ground := Ground.guard }], guard := some (53, true) }
def kO59 : Oper := { dst := some 67, op := Op.pick (Operand.tmp 61) (Operand.tmp 66) (Operand.const (Value.bool false)), type := 4, pos := "form.go:63", after := #[{ on := 53, ground := Ground.data }, { on := 58, ground := Ground.data }, { on := 47, ground := Ground.guard }], guard := some (47, false) }
def kO60 : Oper := { dst := some 68, op := Op.pick (Operand.tmp 55) (Operand.const (Value.bool true)) (Operand.tmp 67), type := 4, pos := "form.go:63", after := #[{ on := 47, ground := Ground.data }, { on := 59, ground := Ground.data }], guard := none }
/-- the table of how many parts a kind takes -/
def TBL (GB : Nat) (W : World) : Prop := ∀ kn : Nat, 1 ≤ kn → kn ≤ 26 → W.cell? ⟨GB, kn * 3 + 1, none⟩ = some (.int .i64 (prt (kn : Int)))
theorem res_c1 {P : Program} {fn : Func} {p : Tmp} {ty : TypeId} (h : fn.results = #[.cell p ty]) (tmps : Array Value) (w : World) (a : Addr) (x : Value)
    (hp : tmps.getD p undef = .pointer (some a)) (hx : (loadVar ty a).run P w = .ok x w) : (results fn tmps).run P w = .ok x w := by
  simp only [results, h]
  simp [Sem.run_bind, Result.andThen]
  rw [show tmps[p]?.getD undef = tmps.getD p undef by simp, hp]
  simp [asAddr, hx]
end Go.Proofs.YtcmknjocmpdicaaDoor
