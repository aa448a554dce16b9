import Derived.Below
namespace Go.Pr

/-- a kept clause: where it stands, where the next search begins, what it watches -/
structure CL where
  s : Nat
  e : Nat
  f : Nat
  a : Nat
  b : Nat
/-- what must be done again behind a way back -/
structure TK where
  cl : Option Nat
  lit : Nat
  since : Nat
  lv : Nat
/-- an engine -/
structure ES where
  n : Nat
  lits : List Nat
  cls : List CL
  met : Nat
  vals : List Int
  giv : List (Nat × Option Nat)
  wat : List (List (Nat × Nat))
  trail : List Nat
  head : Nat
  marks : List Nat
  tasks : List TK
  done : Nat
  clash : Option Nat
def cl0 : CL := ⟨0, 0, 0, 0, 0⟩
def tk0 : TK := ⟨none, 0, 0, 0⟩
/-- the opposite of a literal's code -/
def opp (c : Nat) : Nat := if c % 2 = 1 then c - 1 else c + 1
def never : Nat := 2147483647
namespace ES
def val (S : ES) (c : Nat) : Int := S.vals.getD c 0
def lvl (S : ES) (c : Nat) : Nat := (S.giv.getD (c / 2) (0, none)).1
def level (S : ES) : Nat := S.marks.length
/-- falseSince -/
def fs (S : ES) (c : Nat) : Nat := if 0 ≤ S.val c then never else S.lvl c
def clause (S : ES) (k : Nat) : CL := S.cls.getD k cl0
def inside (S : ES) (k : Nat) : List Nat := (S.lits.drop (S.clause k).s).take ((S.clause k).e - (S.clause k).s)
def watch (S : ES) (c : Nat) : List (Nat × Nat) := S.wat.getD c []
def set (S : ES) (l : Nat) (r : Option Nat) : ES := { S with vals := (S.vals.set l 1).set (opp l) (-1), giv := S.giv.set (l / 2) (S.marks.length, r), trail := S.trail ++ [l] }
def settle (S : ES) (k l : Nat) : ES := if S.val l = 0 then S.set l (some k) else if S.val l = -1 then { S with clash := some k } else S
def remember (S : ES) (k : Option Nat) (l since : Nat) : ES := if since < S.level then { S with tasks := S.tasks ++ [⟨k, l, since, S.level⟩], done := S.done + 1 } else S
def last2 (S : ES) : List Nat → Nat → Nat → Nat × Nat
  | [], f, s => (f, s)
  | l :: r, f, s => if l = f then last2 S r f s else if S.fs f < S.fs l then last2 S r l f else if S.fs s < S.fs l then last2 S r f l else if S.fs s = never then (f, s) else last2 S r f s
def addW (S : ES) (c k o : Nat) : ES := { S with wat := S.wat.set c (S.watch c ++ [(k, o)]) }
def setC (S : ES) (k : Nat) (c : CL) : ES := { S with cls := S.cls.set k c }
def meet1 (S : ES) (k f s : Nat) : ES := if s ≠ 0 then ((S.setC k { S.clause k with a := f, b := s }).addW f k s).addW s k f else S
def meet2 (S : ES) (k f s : Nat) : ES := if S.fs s = never then S else (S.settle k f).remember (some k) f (S.fs s)
def meet (S : ES) (k : Nat) : ES :=
  let p := S.last2 (S.inside k) 0 0
  (S.meet1 k p.1 p.2).meet2 k p.1 p.2
/-- the search for another literal to watch: from a place on, so many steps -/
def seek (S : ES) (all : List Nat) (o : Nat) : Nat → Nat → Option (Nat × Nat)
  | 0, _ => none
  | m + 1, i =>
    let i' := if all.length ≤ i then 0 else i
    if all.getD i' 0 ≠ o ∧ 0 ≤ S.val (all.getD i' 0) then some (i', all.getD i' 0) else seek S all o m (i' + 1)
def turned (c : CL) (l : Nat) : CL := if c.a = l then { c with a := c.b, b := l } else c
/-- a watcher's clause finds nothing: it is settled -/
def sift (l : Nat) : ES → List (Nat × Nat) → List (Nat × Nat) → ES × List (Nat × Nat)
  | S, [], kept => (S, kept)
  | S, (k, o) :: r, kept =>
    if 0 < S.val o then sift l S r (kept ++ [(k, o)]) else
    let c := turned (S.clause k) l
    let S1 := S.setC k c
    match S1.seek (S1.inside k) c.a (S1.inside k).length c.f with
    | some (i, x) => sift l ((S1.setC k { c with f := i, b := x }).addW x k c.a) r kept
    | none =>
      let S2 := S1.settle k c.a
      if S2.clash.isSome then (S2, kept ++ [(k, c.a)] ++ r) else sift l S2 r (kept ++ [(k, c.a)])
def visit (S : ES) (l : Nat) : ES :=
  let p := sift l S (S.watch l) []
  { p.1 with wat := p.1.wat.set l p.2 }
def tell (S : ES) (l : Nat) : ES :=
  let S1 := S.visit l
  if S1.watch l = [] then S1 else S1.remember none l (S1.lvl l)
def again (S : ES) : ES :=
  let t := S.tasks.getD S.done tk0
  let S1 : ES := { S with tasks := S.tasks.set S.done { t with lv := S.level }, done := S.done + 1 }
  match t.cl with
  | none => S1.visit t.lit
  | some k => S1.settle k t.lit
/-- one step of Propagate, where there is one -/
def step (S : ES) : Option ES :=
  if S.done < S.tasks.length then some S.again
  else if S.met < S.cls.length then some { S.meet S.met with met := S.met + 1 }
  else if S.head < S.trail.length then some { S.tell (opp (S.trail.getD S.head 0)) with head := S.head + 1 }
  else none
def unset (vs : List Int) : List Nat → List Int
  | [] => vs
  | l :: r => unset ((vs.set l 0).set (opp l) 0) r
def undone (ts : List TK) (m : Nat) : Nat → Nat
  | 0 => 0
  | d + 1 => if m < (ts.getD d tk0).lv then undone ts m d else d + 1
def back (S : ES) (m : Nat) : ES :=
  let left := S.marks.getD m 0
  let d := undone S.tasks m S.done
  { S with vals := unset S.vals (S.trail.drop left), trail := S.trail.take left, head := min S.head left, marks := S.marks.take m, clash := none, done := d, tasks := S.tasks.take d ++ (S.tasks.drop d).filter fun t => decide (t.since ≤ m) }
def decide (S : ES) (l : Nat) : ES := { S with marks := S.marks ++ [S.trail.length] }.set l none
def add (S : ES) (c : List Nat) : ES := { S with lits := S.lits ++ c, cls := S.cls ++ [⟨S.lits.length, S.lits.length + c.length, 0, 0, 0⟩] }
end ES
def code (S : ES) (c : Nat) : Prop := 2 ≤ c ∧ c < 2 * S.n + 2
/-- what always holds: all numbers name what is there -/
structure WF (S : ES) : Prop where
  n : S.n ≤ 1048576
  lits : ∀ c ∈ S.lits, 2 ≤ c ∧ c < 2 * S.n + 2
  litl : S.lits.length ≤ 4194304
  cls : ∀ c ∈ S.cls, c.s ≤ c.e ∧ c.e ≤ S.lits.length ∧ c.e - c.s ≤ 65536 ∧ c.f ≤ 65536 ∧ c.a < 2 * S.n + 2 ∧ c.b < 2 * S.n + 2 ∧ c.a ≠ 1 ∧ c.b ≠ 1
  cll : S.cls.length ≤ 1048576
  met : S.met ≤ S.cls.length
  vall : S.vals.length = 2 * S.n + 2
  val3 : ∀ x ∈ S.vals, x = -1 ∨ x = 0 ∨ x = 1
  val0 : S.val 0 = -1
  valx : ∀ c, 2 ≤ c → c < 2 * S.n + 2 → S.val (opp c) = -S.val c
  givl : S.giv.length = S.n + 1
  wtl : S.wat.length = 2 * S.n + 2
  wat : ∀ ws ∈ S.wat, ∀ e ∈ ws, e.1 < S.cls.length ∧ e.2 < 2 * S.n + 2 ∧ e.2 ≠ 1
  tr : ∀ c ∈ S.trail, 2 ≤ c ∧ c < 2 * S.n + 2 ∧ S.val c = 1
  trd : (S.trail.map fun c => c / 2).Nodup
  trv : ∀ c, 2 ≤ c → c < 2 * S.n + 2 → S.val c = 1 → c ∈ S.trail
  head : S.head ≤ S.trail.length
  mks : ∀ m ∈ S.marks, m < S.trail.length
  mkd : S.marks.Pairwise (· < ·)
  tks : ∀ t ∈ S.tasks, t.lit < 2 * S.n + 2 ∧ t.lit ≠ 1 ∧ ∀ k, t.cl = some k → k < S.cls.length
  dn : S.done ≤ S.tasks.length
  clash : ∀ k, S.clash = some k → k < S.cls.length
theorem getD_of {α : Type} (l : List α) (j : Nat) (d : α) (h : j < l.length) : l.getD j d = l[j] := by simp [List.getD_eq_getElem?_getD, h]
theorem opp_lt {n c : Nat} (h : 2 ≤ c) (h2 : c < 2 * n + 2) : 2 ≤ opp c ∧ opp c < 2 * n + 2 ∧ opp c ≠ c ∧ opp (opp c) = c ∧ opp c / 2 = c / 2 := by
  unfold opp
  split
  · refine ⟨by omega, by omega, by omega, ?_, by omega⟩
    rw [if_neg (by omega)]
    omega
  · refine ⟨by omega, by omega, by omega, ?_, by omega⟩
    rw [if_pos (by omega)]
    omega
theorem half_eq {c d : Nat} (h : c / 2 = d / 2) : d = c ∨ d = opp c := by
  unfold opp
  split <;> omega
theorem getD_set2 (vs : List Int) (i j k : Nat) (x y : Int) (hi : i < vs.length) (hj : j < vs.length) : ((vs.set i x).set j y).getD k 0 = if k = j then y else if k = i then x else vs.getD k 0 := by
  rw [List.getD_eq_getElem?_getD, List.getElem?_set]
  by_cases h1 : j = k
  · subst h1
    rw [if_pos rfl, if_pos (by simpa using hj), if_pos rfl]
    rfl
  · have h1' : ¬ k = j := fun e => h1 e.symm
    rw [if_neg h1, List.getElem?_set]
    by_cases h2 : i = k
    · subst h2
      simp [hi, h1']
    · have h2' : ¬ k = i := fun e => h2 e.symm
      simp [h2, h1', h2', List.getD_eq_getElem?_getD]
theorem mem_set2 {vs : List Int} {i j : Nat} {x y z : Int} (h : z ∈ (vs.set i x).set j y) : z ∈ vs ∨ z = x ∨ z = y := by
  rcases List.mem_or_eq_of_mem_set h with h | h
  · rcases List.mem_or_eq_of_mem_set h with h | h
    · exact Or.inl h
    · exact Or.inr (Or.inl h)
  · exact Or.inr (Or.inr h)
/-- a literal that is open gets true -/
theorem WF.set {S : ES} (h : WF S) {l : Nat} {r : Option Nat} (h1 : 2 ≤ l) (h2 : l < 2 * S.n + 2) (h0 : S.val l = 0) : WF (S.set l r) := by
  have ho := opp_lt h1 h2
  have hv : ∀ k, (S.set l r).val k = if k = opp l then -1 else if k = l then 1 else S.val k := fun k => getD_set2 S.vals l (opp l) k 1 (-1) (by rw [h.vall]; exact h2) (by rw [h.vall]; exact ho.2.1)
  have hvo : S.val (opp l) = 0 := by rw [h.valx l h1 h2, h0]; rfl
  have hnt : ∀ c ∈ S.trail, c ≠ l ∧ c ≠ opp l := fun c hc => by
    have h3 := h.tr c hc
    refine ⟨fun e => ?_, fun e => ?_⟩
    · rw [e, h0] at h3; exact absurd h3.2.2 (by decide)
    · rw [e, hvo] at h3; exact absurd h3.2.2 (by decide)
  refine { n := h.n, lits := h.lits, litl := h.litl, cls := h.cls, cll := h.cll, met := h.met, vall := by simp [ES.set, h.vall], val3 := fun x hx => ?_, val0 := ?_, valx := fun c hc hc2 => ?_, givl := by simp [ES.set, h.givl], wtl := h.wtl, wat := h.wat, tr := fun c hc => ?_, trd := ?_, trv := fun c hc hc2 hc3 => ?_, head := ?_, mks := fun m hm => ?_, mkd := h.mkd, tks := h.tks, dn := h.dn, clash := h.clash }
  · rcases mem_set2 hx with h3 | h3 | h3
    · exact h.val3 x h3
    · exact Or.inr (Or.inr h3)
    · exact Or.inl h3
  · rw [hv, if_neg (by omega), if_neg (by omega)]; exact h.val0
  · have hoc := opp_lt hc hc2
    rw [hv, hv]
    by_cases e1 : c = l
    · subst e1
      rw [if_pos rfl, if_neg (fun e => hoc.2.2.1 e.symm), if_pos rfl]
    · by_cases e2 : c = opp l
      · subst e2
        rw [ho.2.2.2.1, if_neg (fun e => ho.2.2.1 e.symm), if_pos rfl, if_pos rfl]
        rfl
      · have e3 : opp c ≠ opp l := fun e => e1 (by rw [← hoc.2.2.2.1, e, ho.2.2.2.1])
        have e4 : opp c ≠ l := fun e => e2 (by rw [← e, hoc.2.2.2.1])
        rw [if_neg e3, if_neg e4, if_neg e2, if_neg e1]
        exact h.valx c hc hc2
  · rcases List.mem_append.1 hc with hc | hc
    · have h3 := h.tr c hc
      refine ⟨h3.1, h3.2.1, ?_⟩
      rw [hv, if_neg (hnt c hc).2, if_neg (hnt c hc).1]
      exact h3.2.2
    · have e : c = l := by simpa using hc
      subst e
      exact ⟨h1, h2, by rw [hv, if_neg (fun e => ho.2.2.1 e.symm), if_pos rfl]⟩
  · show ((S.trail ++ [l]).map fun c => c / 2).Nodup
    rw [List.map_append, List.nodup_append]
    refine ⟨h.trd, by simp, fun a ha b hb e => ?_⟩
    obtain ⟨c, hc, rfl⟩ := List.mem_map.1 ha
    have e2 : b = l / 2 := by simpa using hb
    rcases half_eq (c := l) (d := c) (by omega) with e3 | e3
    · exact (hnt c hc).1 e3
    · exact (hnt c hc).2 e3
  · rw [hv] at hc3
    show c ∈ S.trail ++ [l]
    rw [List.mem_append]
    by_cases e1 : c = opp l
    · rw [if_pos e1] at hc3; exact absurd hc3 (by decide)
    · rw [if_neg e1] at hc3
      by_cases e2 : c = l
      · exact Or.inr (by simp [e2])
      · rw [if_neg e2] at hc3
        exact Or.inl (h.trv c hc hc2 hc3)
  · show S.head ≤ (S.trail ++ [l]).length
    have := h.head
    simp
    omega
  · show m < (S.trail ++ [l]).length
    have := h.mks m hm
    simp
    omega
end Go.Pr
