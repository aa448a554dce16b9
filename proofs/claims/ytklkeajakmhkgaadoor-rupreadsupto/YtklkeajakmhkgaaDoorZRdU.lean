import Derived.Test.YtklkeajakmhkgaaDoorXR
import Derived.Test.YtklkeajakmhkgaaDoorXT
import Derived.Test.YtklkeajakmhkgaaDoorRows
import Derived.Test.YtklkeajakmhkgaaDoorCards
import Derived.Test.YtklkeajakmhkgaaDoorTie
import Derived.LaidMore
import Derived.ShutString
import Derived.SizedLaws
import Derived.ChangeOld
import Derived.Carry
import Derived.Stop.Joined
import Derived.Stop.LaidErr
import Derived.Lib.LaidTab
import Derived.SevenTiedAt
import Derived.Deep.Slices
import Derived.Deep.Strs
import Derived.Deep.DeepHandedRow
import Derived.Shelf.Vars
namespace Go.Proofs.YtklkeajakmhkgaaDoor
open Go.ChangeShapes Go.WideShapes Go.ChangeAt Go.RowKit Go.Lib
open Go.ChangeMaps (open_string shut_string)

/-! ### the bounds of the steps that are read -/
theorem sgo_len : ∀ (l cur : List UInt8), (sgo cur l).length ≤ l.length + 1 ∧ ∀ u ∈ sgo cur l, u.length ≤ cur.length + l.length
  | [], cur => by
    unfold sgo
    simp
  | c :: r, cur => by
    unfold sgo
    split
    · obtain ⟨h1, h2⟩ := sgo_len r []
      refine ⟨by simp; omega, fun u hu => ?_⟩
      rcases List.mem_cons.1 hu with e | e
      · rw [e]; simp
      · have := h2 u e
        simp at this ⊢
        omega
    · obtain ⟨h1, h2⟩ := sgo_len r (cur ++ [c])
      refine ⟨by simp; omega, fun u hu => ?_⟩
      have := h2 u hu
      simp at this ⊢
      omega
theorem lineGo_len : ∀ (ws : List (List UInt8)) (c : List Int), lineGo ws = some c → c.length ≤ ws.length
  | [], c, h => by cases h
  | w :: ws, c, h => by
    unfold lineGo at h
    split at h
    · split at h
      · cases h; simp
      · cases h
    · split at h
      · cases h
      · cases hl : lineGo ws with
        | none => rw [hl] at h; cases h
        | some c' =>
          rw [hl] at h
          cases h
          have := lineGo_len ws c' hl
          simp
          exact this
theorem rowOf_len {l : List UInt8} {st : Bool × List Int} (h : rowOf l = some (some st)) : st.2.length ≤ l.length + 1 := by
  have hw : (wordsOf l).length ≤ l.length + 1 := (wgo_len l []).1
  by_cases h1 : wordsOf l = [] ∨ (wordsOf l).headD [] = [99]
  · rw [rowOf_skip h1] at h
    cases h
  · rw [rowOf_line (fun e => h1 (Or.inl e)) (fun e => h1 (Or.inr e))] at h
    cases hl : lineGo (lnW (wordsOf l)) with
    | none => rw [hl] at h; cases h
    | some c =>
      rw [hl] at h
      cases h
      have h2 := lineGo_len _ _ hl
      have h3 : (lnW (wordsOf l)).length ≤ (wordsOf l).length := by
        unfold lnW
        split
        · simp
        · exact Nat.le_refl _
      show c.length ≤ _
      omega
theorem pgo_len (M : Nat) : ∀ (rs : List (List UInt8)) (k : Nat) (acc : List (Bool × List Int)), (∀ u ∈ rs, u.length ≤ M) → (∀ t ∈ acc, t.2.length ≤ M + 1) →
    (pgo rs k acc).1.length ≤ acc.length + rs.length ∧ ∀ t ∈ (pgo rs k acc).1, t.2.length ≤ M + 1
  | [], k, acc, _, ha => ⟨by simp [pgo], ha⟩
  | s :: r, k, acc, hr, ha => by
    unfold pgo
    cases hs : rowOf s with
    | none => exact ⟨by simp, fun t ht => by cases ht⟩
    | some o =>
      cases o with
      | none =>
        obtain ⟨h1, h2⟩ := pgo_len M r (k + 1) acc (fun u hu => hr u (List.mem_cons_of_mem _ hu)) ha
        exact ⟨by simp; omega, h2⟩
      | some st =>
        obtain ⟨h1, h2⟩ := pgo_len M r (k + 1) (acc ++ [st]) (fun u hu => hr u (List.mem_cons_of_mem _ hu)) (fun t ht => by
          rcases List.mem_append.1 ht with e | e
          · exact ha t e
          · simp at e
            subst e
            have h3 := rowOf_len hs
            have h4 := hr s (List.mem_cons_self ..)
            omega)
        refine ⟨?_, h2⟩
        simp at h1 ⊢
        omega
theorem reads_walk (s : ByteArray) (w : World) (hs : s.size ≤ 1048575) (hE : ENV w) :
    Calls Tryd.prog 3 #[.string s] w fun e w' => e = .returned (.bool true) ∧ Below w.heap.size w w' := by
  have hl : s.data.toList.length = s.size := (Lib.size_eq s).symm
  obtain ⟨g1, g2⟩ := sgo_len s.data.toList []
  obtain ⟨p1, p2⟩ := pgo_len s.size (sgo [] s.data.toList) 1 [] (fun u hu => by
    have := g2 u hu
    rw [hl] at this
    simp at this
    exact this) (fun t ht => by cases ht)
  rw [hl] at g1
  refine reads_of s w (pgo (sgo [] s.data.toList) 1 []) ?_ ?_ (fun W hb => parse_any s W (by omega) (hE.below hb)) (fun W hb => rparse_any s W hs)
  · simp at p1
    omega
  · intro t ht
    have := p2 t ht
    omega

/-! ### the frame -/
theorem own : ownKnob Tryd.prog.godebug = none := by kernel_rfl
theorem laidOut : laidOutB Tryd.prog = true := by kernel_rfl
theorem gSyn : Tryd.prog.globalNamed "strconv.ErrSyntax" = some 1 := by kernel_rfl
theorem gRan : Tryd.prog.globalNamed "strconv.ErrRange" = some 2 := by kernel_rfl
theorem tSyn : (Tryd.prog.globals[1]?).map (·.type) = some 52 := by kernel_rfl
theorem tRan : (Tryd.prog.globals[2]?).map (·.type) = some 52 := by kernel_rfl
theorem cellsES : Tryd.prog.cellsOf 77 = 1 := by kernel_rfl
theorem cells9 : Tryd.prog.cellsOf 9 = 1 := by kernel_rfl
theorem star : "*" ++ "errors.errorString" = "*errors.errorString" := by decide
theorem rowES (u : TypeId) (h : Tryd.prog.typeName? 3 u = some "*errors.errorString") : u = 75 :=
  typeName_ptr_named (nm := "errors.errorString") (by rw [star]; kernel_rfl) (by kernel_rfl) (by decide) u (by rw [star]; exact h)
/-- what the listed variables give, and the shape of the rest -/
theorem of_laid {W : World} (h : laidMetH Tryd.prog Rows.rupReadsUptoRow.laid W) (hsh : W.ShapedOpen Tryd.prog) : ENV W := by
  rw [MakeChecks.laidMetH_plain _ _ _ (by kernel_rfl)] at h
  have h3 := h.tail.tail.tail
  have h4 := h3.tail
  obtain ⟨a1, s1, hv1, -, -, -⟩ := laid_sentinel h3 gRan tRan Tryd.underlying52 rowES Tryd.underlying75 Tryd.underlying77 rfl rfl Tryd.underlying9 cellsES cells9
  obtain ⟨a0, s0, hv0, -, -, -⟩ := laid_sentinel h4 gSyn tSyn Tryd.underlying52 rowES Tryd.underlying75 Tryd.underlying77 rfl rfl Tryd.underlying9 cellsES cells9
  refine ⟨⟨⟨_, by have h0 := World.var?_cell gSyn hv0 0; simpa using h0, Or.inr ⟨_, _, rfl⟩⟩, ⟨_, by have h0 := World.var?_cell gRan hv1 0; simpa using h0, Or.inr ⟨_, _, rfl⟩⟩⟩, ?_⟩
  exact cell_of_shapedOpen_int (t := 3) (zero := #[.int .i64 0]) hsh (by decide +kernel) (by kernel_rfl) rfl (by kernel_rfl) (by kernel_rfl) Tryd.underlying3
theorem bulk_one {H : Type} {l : List UInt8} (hk : Rows.uptoSmall H [.lit (.string l)] = true) : l.length ≤ 1048575 := by
  have h : Rows.uptoBulkAll (H := H) [.lit (.string l)] ≤ 1048576 := of_decide_eq_true hk
  simp only [Rows.uptoBulkAll, Rows.uptoBulk] at h
  omega
end Go.Proofs.YtklkeajakmhkgaaDoor
namespace Go.Proofs.YtklkeajakmhkgaaDoor.rupReads
open Go.ChangeShapes Go.WideShapes Go.ChangeAt Go.RowKit
open Go.ChangeMaps (open_string shut_string)

set_option maxRecDepth 100000 in
/-- the door's own heap meets the condition -/
theorem door_met (os : Os) (args : Array Value) : laidMet Tryd.prog Rows.rupReadsUptoRow.laid ((World.doorLaid Tryd.prog 4000 os).forCall (fun _ _ => 0) ⟨#[], args, []⟩).memory :=
  laidMet_of_run' 8 (by kernel_rfl) (by kernel_rfl)
theorem contract (H : Type) (enc : TypeId × Value → H) (W : World) (base : Nat) (args : Array Value) (ds gs : List (DataW H)) (before : List MemPlace)
    (hval : ∀ (j : Nat) t v, Tryd.f3.params[j]? = some t → args[j]? = some v → Value.okWide Tryd.prog W .any base t v)
    (hW : DataW.Whole enc Tryd.prog Tryd.f3.params.toList Rows.rupReadsSpec.vars false W args.toList ds gs before) (hk : Rows.uptoSmall H (ds ++ gs) = true) (hL : laidMetH Tryd.prog Rows.rupReadsUptoRow.laid W) (hsh : W.ShapedOpen Tryd.prog) :
    Calls Tryd.prog 3 args W fun e W' => ∃ v, e = .returned v ∧ Rows.rupReadsSpec.post enc Tryd.prog Tryd.f3 false true false false W args v W' := by
  have hW' := hW
  obtain ⟨p, q, hA0, hV, rfl, hfz, hnd⟩ := hW
  have hA : DataW.TrodAll enc Tryd.prog W 0 (fun _ => true) true Tryd.f3.params.toList args.toList ds p := hA0
  rw [Tryd.params3] at hA hval
  obtain ⟨v0, vs0, d0, ds0, p0, q0, hargs, rfl, rfl, h0, r0⟩ := trodAll_cons hA
  obtain ⟨rfl, rfl, rfl⟩ := trodAll_nil r0
  obtain rfl : args = #[v0] := by cases args; simp_all
  obtain ⟨rfl, rfl⟩ := trodVars_none hV
  obtain ⟨a0, rfl, rfl, rfl, w0⟩ := open_string Tryd.underlying9 (hval 0 9 v0 rfl rfl) h0
  have hb0 : a0.size ≤ 1048575 := by
    have h5 := bulk_one hk
    rw [Lib.size_eq]
    exact h5
  clear hA0
  simp only [List.append_nil] at hW'
  refine (reads_walk a0 W hb0 (of_laid hL hsh)).mono fun e W' ⟨he, bel⟩ => ?_
  subst he
  exact ⟨_, rfl, _, _, _, [], [], [], hW', trodAll_mk1 (shut_bool Tryd.underlying4 _), trodAll_mk1 (shut_string Tryd.underlying9 w0), rfl, bel.frame _, fun h => by cases h⟩
theorem reads (os : Os) {H : Type} (enc : TypeId × Value → H) : ∃ places, DataW.whole enc Tryd.prog ((World.doorLaid Tryd.prog 4000 os).forCall (fun _ _ => 0) ⟨#[], #[.string ByteArray.empty], []⟩).memory Tryd.f3.params.toList Rows.rupReadsSpec.vars false #[Value.string ByteArray.empty].toList 8 = some ([.lit (.string [])], [], places) :=
  ⟨[], by kernel_rfl⟩
set_option maxRecDepth 100000 in
theorem liftedUpto (os : Os) (started : os.Started) (H : Type) (enc : TypeId × Value → H) (F : Stop.Interp) :
    ReturnsInHanded {} Tryd.checked os 3 .any ((Rows.OpenSpec.upto Rows.rupReadsSpec).preRow enc Tryd.prog Tryd.f3 Rows.rupReadsUptoRow.domain false Rows.rupReadsUptoRow.laid) (((Rows.OpenSpec.upto Rows.rupReadsSpec).at F).post enc Tryd.prog Tryd.f3 false true false false) := by
  obtain ⟨places, hx⟩ := reads os enc
  refine returnsInHanded_of_row (C := Tryd.checked) (s := Rows.OpenSpec.upto Rows.rupReadsSpec) own started (by kernel_rfl) Tryd.func3
    (witness_row_at (enc := enc) (C := Tryd.checked) false (World.doorLaid Tryd.prog 4000 os) #[.string ByteArray.empty] rfl (by kernel_rfl) (by kernel_rfl) (by kernel_rfl)
      (OpenSpec.preRow_of_cond 8 hx (by kernel_rfl) (fun k hk => by cases hk; kernel_rfl) (by kernel_rfl) (door_met os _))) ?_
  intro W base args ds gs before hval hW _ hcond _ hL hsh _
  exact contract H enc W base args ds gs before hval hW (hcond _ rfl) hL hsh
theorem saidUpto : Rows.RupReadsUptoSaid :=
  OpenClaim.holds_of_cond 3 Tryd.f3 rfl rfl rfl rfl rfl rfl rfl ⟨rfl, rfl, rfl, rfl, rfl⟩ rfl rfl rfl rfl rfl (by kernel_rfl) Tryd.func3 (by kernel_rfl)
    (of_decide_eq_true (by kernel_rfl)) (by unfold Func.isWrapper; first | (rw [if_pos (by decide +kernel)]; kernel_rfl) | (rw [if_neg (by decide +kernel)]; exact ⟨rfl, rfl⟩))
    (fun os started H enc _ F => by rw [OpenClaim.pre_eq_preRow]; exact liftedUpto os started H enc F)
theorem plain (f : FuncId) (fn : Func) (hf : Tryd.pinned.checked.prog.funcNamed "cadence/cadencelaw05.RupReads" = some f) (hfn : Tryd.pinned.checked.prog.funcs[f]? = some fn) :
    true = Tryd.pinned.checked.prog.looks [] ∧ ∀ (j : Nat) t, fn.params[j]? = some t → Tryd.pinned.checked.prog.wantsStandIn t = false := by
  obtain rfl : f = 3 := Option.some.inj ((show Tryd.prog.funcNamed "cadence/cadencelaw05.RupReads" = some 3 by kernel_rfl).symm.trans hf) |>.symm
  obtain rfl : fn = Tryd.f3 := (Option.some.inj (Tryd.func3.symm.trans hfn)).symm
  refine ⟨by kernel_rfl, fun j t ht => ?_⟩
  rw [Tryd.params3] at ht
  obtain rfl : t = 9 := by simpa using Array.mem_of_getElem? ht
  exact (show Tryd.prog.wantsStandIn 9 = false by kernel_rfl)
end Go.Proofs.YtklkeajakmhkgaaDoor.rupReads
namespace Go.Proofs.YtklkeajakmhkgaaDoor
theorem rupReads_holds : Rows.RupReadsUptoCardSaid :=
  Claim7.holds_tied_plain_at .later [] _ _ _ _ rupReads.saidUpto (fun _ h => by cases h) (by kernel_rfl) (fun _ h => by cases h) rupReadsUpto_row_tie rfl ⟨rfl, rfl⟩ (by kernel_rfl) rfl rupReads.plain (by kernel_rfl)
#print axioms rupReads_holds
end Go.Proofs.YtklkeajakmhkgaaDoor
