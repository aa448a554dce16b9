import Derived.Test.YtnknbijbhidpnaaGreatDoorAdd
import Derived.Shelf.SlSortCmp.NoneTotal
namespace Go.Proofs.YtnknbijbhidpnaaGreatDoor
open Go.ChangeShapes Go.WideShapes Go.ChangeAt Go.Shelf Go.RowKit Go.Lib Go.Sort Go.Cn

/-- a clause's slice and its place -/
abbrev Pl := (Option Addr × Nat × Nat) × Fin 4611686018427387904
def encP (p : Pl) : List Value := [.slice p.1.1 p.1.2.1 p.1.2.2, .int .i64 (p.2.val : Int)]
def cfP (x y : Pl) : Int := (x.2.val : Int) - (y.2.val : Int)
theorem closP_any (x y : Pl) (W : World) : Calls Tryz.prog 61 #[.agg #[.slice x.1.1 x.1.2.1 x.1.2.2, .int .i64 (x.2.val : Int)], .agg #[.slice y.1.1 y.1.2.1 y.1.2.2, .int .i64 (y.2.val : Int)]] W fun e w' => e = .returned (.int .i64 (cfP x y)) ∧ ∃ q os', w' = grow (W.drewN q) os' := by
  unfold cfP
  have h1 := x.2.isLt
  have h2 := y.2.isLt
  generalize x.2.val = p at *
  generalize y.2.val = q at *
  go_enter Tryz.func61, Tryz.ntmps61
  go_wp2
  go_ret
  exact ⟨rfl, 0, _, by rw [alloc_eq_grow, alloc_eq_grow, grow_grow]; rfl⟩
theorem cmpLaysP (blk off size : Nat) (w : World) : CmpLays Tryz.prog 61 #[] encP 2 cfP blk off size w := fun _ _ _ _ x y => closP_any x y _
theorem ltP (x y : Pl) : ltOf cfP x y = decide (x.2.val < y.2.val) := by
  unfold ltOf cfP
  by_cases h : x.2.val < y.2.val
  · rw [decide_eq_true h]; simp; omega
  · rw [decide_eq_false h]; simp; omega
theorem swoP : SWO (ltOf cfP) where
  irrefl x := by rw [ltP]; simp
  trans x y z h1 h2 := by rw [ltP] at *; simp at *; omega
  ntrans x y z h1 h2 := by rw [ltP] at *; simp at *; omega
theorem sortP_any (blk off cap : Nat) (d : Array Pl) (w : World) (hH : HoldsK encP 2 w blk off d) (hblk : blk < w.heap.size) (hsz : d.size < 4611686018427387904) :
    Calls Tryz.prog 60 #[.slice (some ⟨blk, off, none⟩) d.size cap, .func (.func 61) #[] #[]] w fun e w' => e = .returned (.tuple #[]) ∧ ∃ d' n os, PermIn 0 d.size d d' ∧ SortedIn (ltOf cfP) 0 d.size d' ∧ w' = sortWorldK encP 2 w blk off n d' os := by
  have eg : ∀ args w, (callFunc 61 args).run Tryz.prog w = .ok (.enter 61 args) w := enters_of Tryz.func61 (by kernel_rfl) rfl
  exact AnyQ.slices_SortFunc Tryz.sortP 2 Tryz.isAgg102 Tryz.sizeOf102 encP (fun _ => rfl) (fun x v hv => by simp [encP] at hv; rcases hv with rfl | rfl <;> rfl) cfP swoP 61 #[] blk off cap d w eg (cmpLaysP blk off d.size w) hH hblk hsz
/-- rising places: there is one order -/
theorem perm_rising {d d' : List Pl} (hp : d'.Perm d) (hs : d'.Pairwise fun a b => a.2.val ≤ b.2.val) (hd : d.Pairwise fun a b => a.2.val < b.2.val) : d' = d := by
  induction d generalizing d' with
  | nil => exact List.Perm.eq_nil hp
  | cons a l ih =>
    cases d' with
    | nil => exact absurd hp.symm.eq_nil (by simp)
    | cons b m =>
      rw [List.pairwise_cons] at hs hd
      have hab : b = a := by
        have h1 : b ∈ a :: l := hp.mem_iff.1 (List.mem_cons_self ..)
        have h2 : a ∈ b :: m := hp.mem_iff.2 (List.mem_cons_self ..)
        rcases List.mem_cons.1 h1 with e | e
        · exact e
        · rcases List.mem_cons.1 h2 with e2 | e2
          · exact e2.symm
          · have q1 := hd.1 b e
            have q2 := hs.1 a e2
            omega
      subst hab
      rw [ih (List.Perm.cons_inv hp) hs.2 hd.2]
theorem sortP_id (blk cap : Nat) (pl : List Pl) (w : World) (hH : HoldsK encP 2 w blk 0 pl.toArray) (hblk : blk < w.heap.size) (hsz : pl.length < 4611686018427387904) (hr : pl.Pairwise fun a b => a.2.val < b.2.val) :
    Calls Tryz.prog 60 #[.slice (some ⟨blk, 0, none⟩) pl.length cap, .func (.func 61) #[] #[]] w fun e w' => e = .returned (.tuple #[]) ∧ RowKit.Below w.heap.size w w' := by
  have h := sortP_any blk 0 cap pl.toArray w hH hblk (by simpa using hsz)
  simp only [List.size_toArray] at h
  refine h.mono fun e w' ⟨he, d', n, os, hp, hs, hw⟩ => ⟨he, ?_⟩
  have hsz' : d'.size = pl.length := by simpa using hp.1
  have hperm : d'.toList.Perm pl := by
    have h := hp.2.2
    rw [← hsz', Array.extract_size] at h
    have e : (pl.toArray.extract 0 d'.size).toList = pl := by rw [hsz']; simp
    rw [e] at h
    exact h
  have hsort : d'.toList.Pairwise fun a b => a.2.val ≤ b.2.val := by
    rw [List.pairwise_iff_getElem]
    intro i j hi hj hij
    have hi' : i < d'.size := by simpa using hi
    have hj' : j < d'.size := by simpa using hj
    have h1 := hs i j (Nat.zero_le _) hij (by omega)
    rw [ltP, getElem!_pos d' i hi', getElem!_pos d' j hj'] at h1
    simp at h1 ⊢
    omega
  have e : d' = pl.toArray := by
    have := perm_rising hperm hsort hr
    rw [← this]
  subst e
  rw [hw]
  unfold sortWorldK
  have hH2 : HoldsK encP 2 (Sort.ahead w n) blk 0 pl.toArray := hH
  rw [putRowK_self _ _ _ _ _ _ hH2]
  exact ⟨rfl, rfl, rfl, by simp, fun k hk => heap_grow_old _ _ hk⟩
end Go.Proofs.YtnknbijbhidpnaaGreatDoor
