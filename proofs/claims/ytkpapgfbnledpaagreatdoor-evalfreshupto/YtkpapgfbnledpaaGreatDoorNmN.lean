import Derived.Test.YtkpapgfbnledpaaGreatDoorNmP
import Derived.Test.YtkpapgfbnledpaaGreatDoorShelfT
import Derived.Lib.AtoiErrMem
import Derived.Below
import Derived.ShutString
namespace Go.Proofs.YtkpapgfbnledpaaGreatDoor
open Go.ChangeShapes Go.WideShapes Go.ChangeAt Go.RowKit Go.Bd

/-- read whole -/
def pV (b : Nat) (l : List UInt8) : Option Nat := if l = [] then none else pU b 0 l
def ScEnd (o : Option Nat) (e : Ending) : Prop := match o with
  | some v => e = .returned (.tuple #[.int .u64 (v : Int), .nilIface])
  | none => ∃ (x : Int) (p : Nat), e = .returned (.tuple #[.int .u64 x, .iface 271 (.pointer (some ⟨p, 0, none⟩))])
theorem below_bytes (w : World) (t : ByteArray) : Below w.heap.size w (Lib.bytesWorld w 5 t) := ⟨rfl, rfl, rfl, by rw [Lib.bytesWorld_size]; omega, fun k hk => Lib.bytesWorld_at_old w 5 t k hk⟩
set_option maxRecDepth 100000 in
theorem ipu_empty (b : Int) (w : World) :
    Calls Tryz.prog 161 #[.string ⟨#[]⟩, .int .i64 b, .int .i64 64] w fun e w' => e = .returned (.tuple #[.int .u64 0, .iface 269 (.int .i64 2)]) ∧ w' = w := by
  go_enter Tryz.func161, Tryz.ntmps161
  go_wp2
  go_ret2
  exact ⟨rfl, rfl⟩
theorem to_syn (fn t : ByteArray) (b c : Int) (ev : Value) (w : World) (hlim : t.size ≤ 281474976710656) (hv : w.cell? ⟨8, 0, none⟩ = some ev) (hev : ev = .nilIface ∨ ∃ te pe, ev = .iface te pe) :
    Calls Tryz.prog 162 #[.string fn, .string t, .int .i64 b, .int .i64 c, .iface 269 (.int .i64 2)] w fun e w' => ∃ p : Nat, e = .returned (.iface 271 (.pointer (some ⟨p, 0, none⟩))) ∧ Below w.heap.size w w' := by
  have heq : ∀ W, (binOp .eql 84 (.iface 269 (.int .i64 2)) (.iface 269 (.int .i64 2))).run Tryz.prog W = .ok (.bool true) W := fun _ => by kernel_rfl
  have H : Hid (Calls Tryz.prog 168 #[.string fn, .string t] w fun e w' => ∃ N, e = .returned (.pointer (some ⟨N, 0, none⟩)) ∧ Below w.heap.size w w') := (Any.strconv_syntaxError Tryz.synL fn t ev w hlim hv hev).mono fun e w' ⟨N, h, _, _, hb⟩ => ⟨N, h, hb⟩
  clear hv hev
  go_enter Tryz.func162, Tryz.ntmps162
  go_wp2_with fail
  refine H.out.mono ?_
  rintro e w2 ⟨N, rfl, hb⟩
  have HB : Hid _ := hb
  clear hb
  go_wp2
  go_ret
  exact ⟨N, rfl, HB.out⟩
theorem to_err (t : ByteArray) (ev0 ev1 : Value) (w : World) (hlim : t.size ≤ 281474976710656)
    (hv0 : w.cell? ⟨8, 0, none⟩ = some ev0) (hv1 : w.cell? ⟨9, 0, none⟩ = some ev1) (he0 : ev0 = .nilIface ∨ ∃ te pe, ev0 = .iface te pe) (he1 : ev1 = .nilIface ∨ ∃ te pe, ev1 = .iface te pe)
    (fn : ByteArray) (b c k : Int) (hk : k = 1 ∨ k = 2) :
    Calls Tryz.prog 162 #[.string fn, .string t, .int .i64 b, .int .i64 c, .iface 269 (.int .i64 k)] w fun e w' => ∃ p : Nat, e = .returned (.iface 271 (.pointer (some ⟨p, 0, none⟩))) ∧ Below w.heap.size w w' := by
  rcases hk with rfl | rfl
  · exact (Any.strconv_toError_range Tryz.rngL fn t b c ev1 w hlim hv1 he1).mono fun e w' ⟨p, h, _, _, hb⟩ => ⟨p, h, hb⟩
  · exact to_syn fn t b c ev0 w hlim hv0 he0
theorem sc_pu (t : ByteArray) (ev0 ev1 : Value) (w : World) (hlim : t.size ≤ 281474976710656)
    (hv0 : w.cell? ⟨8, 0, none⟩ = some ev0) (hv1 : w.cell? ⟨9, 0, none⟩ = some ev1) (he0 : ev0 = .nilIface ∨ ∃ te pe, ev0 = .iface te pe) (he1 : ev1 = .nilIface ∨ ∃ te pe, ev1 = .iface te pe)
    (b : Nat) (hb : b = 10 ∨ b = 16) :
    Calls Tryz.prog 153 #[.string t, .int .i64 b, .int .i64 64] w fun e w' => ScEnd (pV b t.data.toList) e ∧ Below w.heap.size w w' := by
  have hG0 : 8 < w.heap.size := Lib.lt_of_cell hv0
  have hG1 : 9 < w.heap.size := Lib.lt_of_cell hv1
  by_cases h0 : t.size = 0
  · have hs : t = ⟨#[]⟩ := by
      apply ByteArray.ext
      exact Array.eq_empty_of_size_eq_zero h0
    have C := to_err t ev0 ev1 w hlim hv0 hv1 he0 he1
    subst hs
    have HC : Hid _ := C
    clear C hv0 hv1 hG0 hG1
    go_enter Tryz.func153, Tryz.ntmps153
    go_wp2_with fail
    refine (ipu_empty _ _).mono ?_
    rintro e w' ⟨rfl, rfl⟩
    go_wp2_with fail
    refine (HC.out _ _ _ _ (Or.inr rfl)).mono ?_
    rintro e w1 ⟨p, rfl, hbel⟩
    go_wp2
    go_ret2
    exact ⟨⟨_, p, rfl⟩, hbel⟩
  · have hne : t.data.toList ≠ [] := fun e => h0 (by rw [Lib.size_eq, e]; rfl)
    have eV : pV b t.data.toList = pU b 0 t.data.toList := by unfold pV; rw [if_neg hne]
    have hbel0 := below_bytes w t
    have C1 : ∀ w, Calls Tryz.prog 161 #[.string t, .int .i64 b, .int .i64 64] w fun e w' => PuEnd (pU b 0 t.data.toList) e ∧ w' = Lib.bytesWorld w 5 t := by
      rcases hb with rfl | rfl
      · exact fun w => pu_10 t h0 (by omega) w
      · exact fun w => pu_16 t h0 (by omega) w
    have C2 := to_err t ev0 ev1 (Lib.bytesWorld w 5 t) hlim (by rw [Lib.bytesWorld_old w 5 t _ hG0]; exact hv0) (by rw [Lib.bytesWorld_old w 5 t _ hG1]; exact hv1) he0 he1
    rw [eV]
    have H1' : Hid (Calls Tryz.prog 161 #[.string t, .int .i64 b, .int .i64 64] w fun e w' => PuEnd (pU b 0 t.data.toList) e ∧ w' = Lib.bytesWorld w 5 t) := C1 w
    have H2 : Hid _ := C2
    have HB : Hid _ := hbel0
    clear C1 C2 hbel0 hv0 hv1 eV hne
    generalize Lib.bytesWorld w 5 t = W1 at *
    cases ho : pU b 0 t.data.toList with
    | some v =>
      rw [ho] at H1'
      go_enter Tryz.func153, Tryz.ntmps153
      go_wp2_with fail
      refine H1'.out.mono ?_
      rintro e w' ⟨he, rfl⟩
      have he' : e = .returned (.tuple #[.int .u64 (v : Int), .nilIface]) := he
      subst he'
      go_wp2
      go_ret2
      exact ⟨rfl, HB.out⟩
    | none =>
      rw [ho] at H1'
      go_enter Tryz.func153, Tryz.ntmps153
      go_wp2_with fail
      refine H1'.out.mono ?_
      rintro e w' ⟨he, rfl⟩
      obtain ⟨x, k, rfl, hk⟩ : ∃ x k : Int, e = .returned (.tuple #[.int .u64 x, .iface 269 (.int .i64 k)]) ∧ (k = 1 ∨ k = 2) := he
      go_wp2_with fail
      refine (H2.out _ _ _ _ hk).mono ?_
      rintro e w1 ⟨p, rfl, hbel⟩
      go_wp2
      go_ret2
      exact ⟨⟨_, p, rfl⟩, HB.out.trans (hbel.mono HB.out.size)⟩
/-- the number of a text -/
def numO (l : List UInt8) : Option Nat := if Lib.hasPrefix l [48, 120] then pV 16 (Lib.trimPrefix l [48, 120]) else pV 10 l
def nV (o : Option Nat) : Int := match o with | some v => v | none => 0
def nE (o : Option Nat) : Int := match o with | some _ => 0 | none => 10
theorem trim_no (l p : List UInt8) (h : Lib.hasPrefix l p = false) : Lib.trimPrefix l p = l := by unfold Lib.trimPrefix; simp [h]
theorem number_any (s : ByteArray) (ev0 ev1 : Value) (w : World) (hlim : s.size ≤ 281474976710656)
    (hv0 : w.cell? ⟨8, 0, none⟩ = some ev0) (hv1 : w.cell? ⟨9, 0, none⟩ = some ev1) (he0 : ev0 = .nilIface ∨ ∃ te pe, ev0 = .iface te pe) (he1 : ev1 = .nilIface ∨ ∃ te pe, ev1 = .iface te pe) :
    Calls Tryz.prog 139 #[.string s] w fun e w' => e = .returned (.tuple #[.int .u64 (nV (numO s.data.toList)), .int .i64 (nE (numO s.data.toList))]) ∧ Below w.heap.size w w' := by
  have C1 := Any.strings_CutPrefix Tryz.cutpL s ⟨#[48, 120]⟩
  have e1 : (⟨#[48, 120]⟩ : ByteArray).data.toList = [48, 120] := rfl
  rw [e1] at C1
  cases hp : Lib.hasPrefix s.data.toList [48, 120] with
  | true =>
    have hn : numO s.data.toList = pV 16 (Lib.trimPrefix s.data.toList [48, 120]) := by unfold numO; rw [hp]; rfl
    rw [hp] at C1
    have hl : (⟨(Lib.trimPrefix s.data.toList [48, 120]).toArray⟩ : ByteArray).size ≤ 281474976710656 := by
      have := Lib.trimPrefix_le s.data.toList [48, 120]
      have h2 : (⟨(Lib.trimPrefix s.data.toList [48, 120]).toArray⟩ : ByteArray).size = (Lib.trimPrefix s.data.toList [48, 120]).length := size_of_list _
      rw [Lib.size_eq] at hlim; omega
    have C2 := sc_pu ⟨(Lib.trimPrefix s.data.toList [48, 120]).toArray⟩ ev0 ev1 w hl hv0 hv1 he0 he1 16 (Or.inr rfl)
    rw [hn]
    have e2 : (⟨(Lib.trimPrefix s.data.toList [48, 120]).toArray⟩ : ByteArray).data.toList = Lib.trimPrefix s.data.toList [48, 120] := by simp
    rw [e2] at C2
    clear hn hl e1 e2 hv0 hv1 hp
    generalize Lib.trimPrefix s.data.toList [48, 120] = l at *
    have H1 : Hid (∀ w, Calls Tryz.prog 152 #[.string s, .string ⟨#[48, 120]⟩] w fun e w' => e = .returned (.tuple #[.string ⟨l.toArray⟩, .bool true]) ∧ w' = w) := C1
    have H2 : Hid (Calls Tryz.prog 153 #[.string ⟨l.toArray⟩, .int .i64 16, .int .i64 64] w fun e w' => ScEnd (pV 16 l) e ∧ Below w.heap.size w w') := C2
    clear C1 C2
    cases ho : pV 16 l with
    | some v =>
      rw [ho] at H2
      go_enter Tryz.func139, Tryz.ntmps139
      go_wp2_with fail
      refine (H1.out _).mono ?_
      rintro e w' ⟨rfl, rfl⟩
      go_wp2_with fail
      refine H2.out.mono ?_
      rintro e w1 ⟨he, hb⟩
      have he' : e = .returned (.tuple #[.int .u64 (v : Int), .nilIface]) := he
      subst he'
      have HB : Hid _ := hb
      clear hb
      go_wp2
      go_ret2
      exact ⟨rfl, HB.out⟩
    | none =>
      rw [ho] at H2
      go_enter Tryz.func139, Tryz.ntmps139
      go_wp2_with fail
      refine (H1.out _).mono ?_
      rintro e w' ⟨rfl, rfl⟩
      go_wp2_with fail
      refine H2.out.mono ?_
      rintro e w1 ⟨he, hb⟩
      obtain ⟨x, p, rfl⟩ : ∃ (x : Int) (p : Nat), e = .returned (.tuple #[.int .u64 x, .iface 271 (.pointer (some ⟨p, 0, none⟩))]) := he
      have HB : Hid _ := hb
      clear hb
      go_wp2
      go_ret2
      exact ⟨rfl, HB.out⟩
  | false =>
    have hn : numO s.data.toList = pV 10 s.data.toList := by unfold numO; rw [hp]; rfl
    rw [hp, trim_no _ _ hp] at C1
    have C2 := sc_pu s ev0 ev1 w hlim hv0 hv1 he0 he1 10 (Or.inl rfl)
    rw [hn]
    have hs : (⟨s.data.toList.toArray⟩ : ByteArray) = s := Lib.mk_data s
    clear hn e1 hv0 hv1 hp
    obtain ⟨l, hl⟩ : ∃ l, s.data.toList = l := ⟨_, rfl⟩
    rw [hl] at C1 C2 hs ⊢
    clear hl
    subst hs
    have H1 : Hid (∀ w, Calls Tryz.prog 152 #[.string ⟨l.toArray⟩, .string ⟨#[48, 120]⟩] w fun e w' => e = .returned (.tuple #[.string ⟨l.toArray⟩, .bool false]) ∧ w' = w) := C1
    have H2 : Hid (Calls Tryz.prog 153 #[.string ⟨l.toArray⟩, .int .i64 10, .int .i64 64] w fun e w' => ScEnd (pV 10 l) e ∧ Below w.heap.size w w') := C2
    clear C1 C2
    cases ho : pV 10 l with
    | some v =>
      rw [ho] at H2
      go_enter Tryz.func139, Tryz.ntmps139
      go_wp2_with fail
      refine (H1.out _).mono ?_
      rintro e w' ⟨rfl, rfl⟩
      go_wp2_with fail
      refine H2.out.mono ?_
      rintro e w1 ⟨he, hb⟩
      have he' : e = .returned (.tuple #[.int .u64 (v : Int), .nilIface]) := he
      subst he'
      have HB : Hid _ := hb
      clear hb
      go_wp2
      go_ret2
      exact ⟨rfl, HB.out⟩
    | none =>
      rw [ho] at H2
      go_enter Tryz.func139, Tryz.ntmps139
      go_wp2_with fail
      refine (H1.out _).mono ?_
      rintro e w' ⟨rfl, rfl⟩
      go_wp2_with fail
      refine H2.out.mono ?_
      rintro e w1 ⟨he, hb⟩
      obtain ⟨x, p, rfl⟩ : ∃ (x : Int) (p : Nat), e = .returned (.tuple #[.int .u64 x, .iface 271 (.pointer (some ⟨p, 0, none⟩))]) := he
      have HB : Hid _ := hb
      clear hb
      go_wp2
      go_ret2
      exact ⟨rfl, HB.out⟩
end Go.Proofs.YtkpapgfbnledpaaGreatDoor
