import Derived.Test.YtkpapgfbnledpaaGreatDoorTlA
import Derived.Test.YtkpapgfbnledpaaGreatDoorTmD
import Derived.BigQuiet
import Derived.WalkSmall
import Derived.OneCell
import Derived.Deep.Upon
import Derived.Test.YtkpapgfbnledpaaGreatDoorTmI0
set_option maxHeartbeats 8000000
set_option maxRecDepth 100000
namespace Go.Tm

def pA (L : List Nd) (t : Nat) : Nat := (L.getD (t - 1) z0).a.toNat
def pB (L : List Nd) (t : Nat) : Nat := (L.getD (t - 1) z0).b.toNat
def pC (L : List Nd) (t : Nat) : Nat := (L.getD (t - 1) z0).c.toNat
def opn (o : List Nat) (x : Nat) : Bool := decide (0 < x) && !(o.contains x)
def unt (L : List Nd) (o : List Nat) (t : Nat) : Nat :=
  if opn o (pA L t) = true then pA L t else if opn o (pB L t) = true then pB L t else if opn o (pC L t) = true then pC L t else 0
def fin (L : List Nd) : Nat -> List Nat -> List Nat -> List Nat
  | 0,o,_ => o
  | _ + 1,o,[] => o
  | k + 1,o,t :: p => if unt L o t = 0 then fin L k (o ++ [t]) p else fin L k o (unt L o t :: t :: p)
def mu (L : List Nd) (o p : List Nat) : Nat := 2 * (L.length - o.length) - p.length
def og1 (L : List Nd) (o : List Nat) (r : Nat) : List Nat := if o.contains r = true then o else fin L (mu L o [r]) o [r]
def og (L : List Nd) (o : List Nat) : List Nat -> List Nat
  | [] => o
  | r :: rs => og L (og1 L o r) rs
def PAR (L : List Nd) : Prop := ∀ i,i < L.length -> (0 <= (L.getD i z0).a /\ (L.getD i z0).a <= i) /\ (0 <= (L.getD i z0).b /\ (L.getD i z0).b <= i) /\ (0 <= (L.getD i z0).c /\ (L.getD i z0).c <= i)
def isP (L : List Nd) (t x : Nat) : Prop := 0 < x /\ (x = pA L t ∨ x = pB L t ∨ x = pC L t)
theorem PAR.lt {L : List Nd} (h : PAR L) {t x : Nat} (h1 : 1 <= t) (h2 : t <= L.length) (hx : isP L t x) : 1 <= x /\ x < t := by
  have := h (t - 1) (by omega); obtain ⟨h0,hx⟩ := hx; unfold pA pB pC at hx
  omega
theorem unt_isP {L : List Nd} {o : List Nat} {t : Nat} (h : unt L o t ≠ 0) : isP L t (unt L o t) /\ unt L o t ∉ o := by
  unfold unt at h ⊢; have ho : ∀ x,opn o x = true -> 0 < x /\ x ∉ o := fun x hx => by
    unfold opn at hx
    simpa using hx
  by_cases h1 : opn o (pA L t) = true
  · rw [if_pos h1]
    exact ⟨⟨(ho _ h1).1,Or.inl rfl⟩,(ho _ h1).2⟩
  rw [if_neg h1] at h ⊢
  by_cases h2 : opn o (pB L t) = true
  · rw [if_pos h2]
    exact ⟨⟨(ho _ h2).1,Or.inr (Or.inl rfl)⟩,(ho _ h2).2⟩
  rw [if_neg h2] at h ⊢
  by_cases h3 : opn o (pC L t) = true
  · rw [if_pos h3]
    exact ⟨⟨(ho _ h3).1,Or.inr (Or.inr rfl)⟩,(ho _ h3).2⟩
  rw [if_neg h3] at h; exact absurd rfl h
theorem unt_zero {L : List Nd} {o : List Nat} {t : Nat} (h : unt L o t = 0) {x : Nat} (hx : isP L t x) : x ∈ o := by
  obtain ⟨h0,hx⟩ := hx; have ho : ∀ y,0 < y -> opn o y ≠ true -> y ∈ o := fun y hy hn => by
    unfold opn at hn
    simp at hn
    exact hn hy
  unfold unt at h
  by_cases h1 : opn o (pA L t) = true
  · rw [if_pos h1] at h
    unfold opn at h1
    simp at h1
    omega
  rw [if_neg h1] at h
  by_cases h2 : opn o (pB L t) = true
  · rw [if_pos h2] at h
    unfold opn at h2
    simp at h2
    omega
  rw [if_neg h2] at h
  by_cases h3 : opn o (pC L t) = true
  · rw [if_pos h3] at h
    unfold opn at h3
    simp at h3
    omega
  rcases hx with rfl | rfl | rfl
  · exact ho _ h0 h1
  · exact ho _ h0 h2
  exact ho _ h0 h3
theorem nodup_len : ∀ (N : Nat) (l : List Nat),l.Nodup -> (∀ x ∈ l,1 <= x /\ x <= N) -> l.length <= N
  | 0,l,_,hb => by
    cases l with
    | nil => simp
    | cons x r => have := hb x (by simp); omega
  | N + 1,l,hn,hb => by
    have h1 : (l.erase (N + 1)).length <= N := nodup_len N _ (hn.erase _) (fun x hx => by
      rw [hn.mem_erase_iff] at hx; have := hb x hx.2
      omega)
    by_cases hm : N + 1 ∈ l
    · rw [List.length_erase_of_mem hm] at h1
      omega
    rw [List.erase_of_not_mem hm] at h1
    omega
structure PW (L : List Nd) (o p : List Nat) : Prop where
  ob : ∀ x ∈ o,1 <= x /\ x <= L.length
  pb : ∀ x ∈ p,1 <= x /\ x <= L.length
  on : o.Nodup
  ps : p.Pairwise (· < ·)
  di : ∀ x ∈ p,x ∉ o
  cl : ∀ a x b,o = a ++ x :: b -> ∀ y,isP L x y -> y ∈ a
theorem PW.nil (L : List Nd) : PW L [] [] := ⟨fun x h => (by cases h),fun x h => (by cases h),List.nodup_nil,List.Pairwise.nil,fun x h => (by cases h),fun a x b h => (by simp at h)⟩
theorem PW.len {L : List Nd} {o p : List Nat} (h : PW L o p) : o.length + p.length <= L.length := by
  have hn : (o ++ p).Nodup := by
    rw [List.nodup_append]; refine ⟨h.on,?_,fun a ha b hb e => h.di b hb (e ▸ ha)⟩; exact h.ps.imp (fun h => Nat.ne_of_lt h)
  have := nodup_len L.length (o ++ p) hn (fun x hx => by
    rcases List.mem_append.1 hx with e | e
    · exact h.ob x e
    exact h.pb x e)
  simpa using this
theorem PW.root {L : List Nd} {o : List Nat} (h : PW L o []) {r : Nat} (h1 : 1 <= r) (h2 : r <= L.length) (h3 : r ∉ o) : PW L o [r] :=
  ⟨h.ob,fun x hx => by simp at hx; omega,h.on,by simp,fun x hx => by simp at hx; rw [hx]; exact h3,h.cl⟩
theorem PW.push {L : List Nd} {o p : List Nat} {t : Nat} (hP : PAR L) (h : PW L o (t :: p)) (hu : unt L o t ≠ 0) : PW L o (unt L o t :: t :: p) := by
  obtain ⟨h1,h2⟩ := unt_isP hu; have ht := h.pb t (by simp); have h3 := hP.lt ht.1 ht.2 h1; refine ⟨h.ob,fun x hx => ?_,h.on,?_,fun x hx => ?_,h.cl⟩
  · rcases List.mem_cons.1 hx with e | e
    · rw [e]; omega
    exact h.pb x e
  · refine List.pairwise_cons.2 ⟨fun x hx => ?_,h.ps⟩
    rcases List.mem_cons.1 hx with e | e
    · rw [e]; exact h3.2
    have := (List.pairwise_cons.1 h.ps).1 x e
    omega
  rcases List.mem_cons.1 hx with e | e
  · rw [e]; exact h2
  exact h.di x e
theorem snoc_split {o a b : List Nat} {t x : Nat} (h : o ++ [t] = a ++ x :: b) : (a = o /\ x = t /\ b = []) ∨ ∃ b',o = a ++ x :: b' /\ b = b' ++ [t] := by
  rcases List.eq_nil_or_concat b with e | ⟨b',z,e⟩
  · subst e
    have h2 : o ++ [t] = a ++ [x] := h; have := List.append_inj' h2 rfl
    left
    exact ⟨this.1.symm,by simpa using this.2.symm,rfl⟩
  subst e; rw [List.concat_eq_append] at h ⊢; have h2 : o ++ [t] = (a ++ x :: b') ++ [z] := by rw [h]; simp
  have := List.append_inj' h2 rfl
  right
  have e : t = z := by simpa using this.2
  exact ⟨b',this.1,by rw [e]⟩
theorem PW.tell {L : List Nd} {o p : List Nat} {t : Nat} (h : PW L o (t :: p)) (hu : unt L o t = 0) : PW L (o ++ [t]) p := by
  have ht := h.pb t (by simp); have hd := h.di t (by simp); refine ⟨fun x hx => ?_,fun x hx => h.pb x (by simp [hx]),?_,(List.pairwise_cons.1 h.ps).2,fun x hx hx2 => ?_,fun a x b he y hy => ?_⟩
  · rcases List.mem_append.1 hx with e | e
    · exact h.ob x e
    simp at e; rw [e]; exact ht
  · rw [List.nodup_append]
    exact ⟨h.on,by simp,fun a ha b hb e => by simp at hb; subst hb; exact hd (e ▸ ha)⟩
  · rcases List.mem_append.1 hx2 with e | e
    · exact h.di x (by simp [hx]) e
    simp at e
    subst e; have := (List.pairwise_cons.1 h.ps).1 x hx
    omega
  rcases snoc_split he with ⟨e1,e2,_⟩ | ⟨b',e1,_⟩
  · subst e1 e2
    exact unt_zero hu hy
  exact h.cl a x b' e1 y hy
theorem mu_push {L : List Nd} {o p : List Nat} {t x : Nat} (h : PW L o (t :: p)) : mu L o (t :: p) = mu L o (x :: t :: p) + 1 := by
  have := h.len; unfold mu
  simp at this ⊢
  omega
theorem mu_tell {L : List Nd} {o p : List Nat} {t : Nat} (h : PW L o (t :: p)) : mu L o (t :: p) = mu L (o ++ [t]) p + 1 := by
  have := h.len; unfold mu
  simp at this ⊢
  omega
theorem fin_nil (L : List Nd) (k : Nat) (o : List Nat) : fin L k o [] = o := by cases k <;> rfl
theorem fin_push {L : List Nd} {o p : List Nat} {t : Nat} (h : PW L o (t :: p)) (hu : unt L o t ≠ 0) : fin L (mu L o (t :: p)) o (t :: p) = fin L (mu L o (unt L o t :: t :: p)) o (unt L o t :: t :: p) := by
  rw [mu_push (x := unt L o t) h]
  show (if unt L o t = 0 then _ else _) = _
  rw [if_neg hu]
theorem fin_tell {L : List Nd} {o p : List Nat} {t : Nat} (h : PW L o (t :: p)) (hu : unt L o t = 0) : fin L (mu L o (t :: p)) o (t :: p) = fin L (mu L (o ++ [t]) p) (o ++ [t]) p := by
  rw [mu_tell h]
  show (if unt L o t = 0 then _ else _) = _
  rw [if_pos hu]
theorem PW.told {L : List Nd} {o p : List Nat} (h : PW L o p) {t : Nat} (ht : t ∈ o) : unt L o t = 0 := by
  apply Classical.byContradiction
  intro hu; obtain ⟨h1,h2⟩ := unt_isP hu; obtain ⟨a,b,e⟩ := List.append_of_mem ht; have := h.cl a t b e _ h1; have h3 : unt L o t ∈ a ++ t :: b := List.mem_append_left _ this; rw [<- e] at h3; exact h2 h3
structure LD (L : List Nd) (R : Nat -> Prop) (o p : List Nat) : Prop where
  old : ∀ a x b,o = a ++ x :: b -> R x ∨ ∃ y,(y ∈ b ∨ y ∈ p) /\ isP L y x
  pth : ∀ a x b,p = a ++ x :: b -> R x ∨ ∃ y ∈ b,isP L y x
theorem LD.push {L : List Nd} {R : Nat -> Prop} {o p : List Nat} {t : Nat} (h : LD L R o (t :: p)) (hu : unt L o t ≠ 0) : LD L R o (unt L o t :: t :: p) := by
  refine ⟨fun a x b e => ?_,fun a x b e => ?_⟩
  · rcases h.old a x b e with h1 | ⟨y,h1,h2⟩
    · exact Or.inl h1
    exact Or.inr ⟨y,h1.imp id (fun h => by simp [List.mem_cons.1 h]),h2⟩
  cases a with
  | nil =>
    simp at e
    exact Or.inr ⟨t,by rw [<- e.2]; simp,by rw [<- e.1]; exact (unt_isP hu).1⟩
  | cons z a =>
    simp at e
    exact h.pth a x b e.2
theorem LD.tell {L : List Nd} {R : Nat -> Prop} {o p : List Nat} {t : Nat} (h : LD L R o (t :: p)) : LD L R (o ++ [t]) p := by
  refine ⟨fun a x b e => ?_,fun a x b e => ?_⟩
  · rcases snoc_split e with ⟨e1,e2,e3⟩ | ⟨b',e1,e2⟩
    · subst e2
      rcases h.pth [] x p rfl with h1 | ⟨y,h1,h2⟩
      · exact Or.inl h1
      exact Or.inr ⟨y,Or.inr h1,h2⟩
    rcases h.old a x b' e1 with h1 | ⟨y,h1,h2⟩
    · exact Or.inl h1
    refine Or.inr ⟨y,?_,h2⟩; rw [e2]
    rcases h1 with h1 | h1
    · exact Or.inl (by simp [h1])
    rcases List.mem_cons.1 h1 with h1 | h1
    · exact Or.inl (by simp [h1])
    exact Or.inr h1
  exact h.pth (t :: a) x b (by rw [e]; rfl)
theorem fin_ok {L : List Nd} {R : Nat -> Prop} (hP : PAR L) : ∀ (k : Nat) (o p : List Nat),PW L o p -> LD L R o p -> k = mu L o p -> PW L (fin L k o p) [] /\ LD L R (fin L k o p) [] /\ ∀ x,x ∈ o ∨ x ∈ p -> x ∈ fin L k o p
  | k,o,[],h,hl,_ => by
    rw [fin_nil]; exact ⟨h,hl,fun x hx => by simpa using hx⟩
  | 0,o,t :: p,h,hl,hk => by
    have := h.len; unfold mu at hk
    simp at this hk
    omega
  | k + 1,o,t :: p,h,hl,hk => by
    show PW L (if unt L o t = 0 then fin L k (o ++ [t]) p else fin L k o (unt L o t :: t :: p)) [] /\ LD L R (if unt L o t = 0 then fin L k (o ++ [t]) p else fin L k o (unt L o t :: t :: p)) [] /\ ∀ x,x ∈ o ∨ x ∈ t :: p -> x ∈ (if unt L o t = 0 then fin L k (o ++ [t]) p else fin L k o (unt L o t :: t :: p))
    by_cases hu : unt L o t = 0
    · rw [if_pos hu]
      obtain ⟨h1,h2,h3⟩ := fin_ok hP k (o ++ [t]) p (h.tell hu) hl.tell (by have := mu_tell h; omega); refine ⟨h1,h2,fun x hx => h3 x ?_⟩
      rcases hx with hx | hx
      · exact Or.inl (by simp [hx])
      rcases List.mem_cons.1 hx with hx | hx
      · exact Or.inl (by simp [hx])
      exact Or.inr hx
    rw [if_neg hu]; obtain ⟨h1,h2,h3⟩ := fin_ok hP k o (unt L o t :: t :: p) (h.push hP hu) (hl.push hu) (by have := mu_push (x := unt L o t) h; omega); exact ⟨h1,h2,fun x hx => h3 x (hx.imp id (fun h => by simp [List.mem_cons.1 h]))⟩
theorem LD.mono {L : List Nd} {R S : Nat -> Prop} {o p : List Nat} (h : LD L R o p) (hs : ∀ x,R x -> S x) : LD L S o p :=
  ⟨fun a x b e => (h.old a x b e).imp (hs x) id,fun a x b e => (h.pth a x b e).imp (hs x) id⟩
theorem og1_ok {L : List Nd} {R : Nat -> Prop} {o : List Nat} {r : Nat} (hP : PAR L) (h : PW L o []) (hl : LD L R o []) (h1 : 1 <= r) (h2 : r <= L.length) (hr : R r) : PW L (og1 L o r) [] /\ LD L R (og1 L o r) [] /\ r ∈ og1 L o r /\ ∀ x ∈ o,x ∈ og1 L o r := by
  unfold og1
  by_cases hc : o.contains r = true
  · rw [if_pos hc]
    exact ⟨h,hl,by simpa using hc,fun x hx => hx⟩
  rw [if_neg hc]; have hn : r ∉ o := by simpa using hc
  obtain ⟨h5,h6,h7⟩ := fin_ok (R := R) hP (mu L o [r]) o [r] (h.root h1 h2 hn) ⟨fun a x b e => (hl.old a x b e).imp id (fun ⟨y,hy,hp⟩ => ⟨y,hy.imp id (fun h => by cases h),hp⟩),fun a x b e => Or.inl (by
    cases a with
    | nil => simp at e; rw [<- e.1]; exact hr
    | cons z a => simp at e)⟩ rfl
  exact ⟨h5,h6,h7 r (by simp),fun x hx => h7 x (Or.inl hx)⟩
theorem og_ok {L : List Nd} {R : Nat -> Prop} (hP : PAR L) : ∀ (rs o : List Nat),PW L o [] -> LD L R o [] -> (∀ r ∈ rs,1 <= r /\ r <= L.length /\ R r) -> PW L (og L o rs) [] /\ LD L R (og L o rs) [] /\ (∀ r ∈ rs,r ∈ og L o rs) /\ ∀ x ∈ o,x ∈ og L o rs
  | [],o,h,hl,_ => ⟨h,hl,fun r hr => (by cases hr),fun x hx => hx⟩
  | r :: rs,o,h,hl,hr => by
    obtain ⟨h0,h00,h000⟩ := hr r (by simp); obtain ⟨h1,h2,h3,h4⟩ := og1_ok hP h hl h0 h00 h000; obtain ⟨h5,h6,h7,h8⟩ := og_ok hP rs (og1 L o r) h1 h2 (fun x hx => hr x (by simp [hx])); refine ⟨h5,h6,fun x hx => ?_,fun x hx => h8 x (h4 x hx)⟩
    rcases List.mem_cons.1 hx with e | e
    · rw [e]
      exact h8 r h3
    exact h7 x e
theorem og_snoc (L : List Nd) : ∀ (rs o : List Nat) (r : Nat),og L o (rs ++ [r]) = og1 L (og L o rs) r
  | [],_,_ => rfl
  | x :: rs,o,r => og_snoc L rs (og1 L o x) r
end Go.Tm
namespace Go.Proofs.YtkpapgfbnledpaaGreatDoor
open Go.ChangeShapes Go.WideShapes Go.ChangeAt Go.RowKit Go.Lib Go.Tm Go.Bw Go.Bn Go.WideMaps Go.Maps Go.ChangeMaps

def natV (l : List Nat) : List Value := l.map fun x : Nat => Value.int .i64 (x : Int)
def wrdV (l : List Nat) : List Value := l.map fun x : Nat => Value.int .u64 (x : Int)
structure BT (o us : List Nat) : Prop where
  lo : ∀ u ∈ us,u < 18446744073709551616
  bit : ∀ t,t / 64 < us.length -> (us.getD (t / 64) 0).testBit (t % 64) = o.contains t
structure WK (w : World) (H0 Q B : Nat) (us o p : List Nat) (vT vO vP : Value) : Prop where
  blk : w.heap[Q]? = some (.cells #[.pointer (some ⟨B,0,none⟩),vT,vO,vP] 163 (0,0))
  q0 : H0 <= Q
  tl : w.ownsRow H0 36 1 vT us.length (wrdV us)
  ol : w.ownsRow H0 3 1 vO o.length (natV o)
  pl : w.ownsRow H0 3 1 vP p.length (natV p.reverse)
  ne : ∀ k,vO.ownBlock = some k -> vP.ownBlock ≠ some k
theorem getD_of {α : Type} (l : List α) (i : Nat) (d : α) (h : i < l.length) : l.getD i d = l[i] := by simp [List.getD_eq_getElem?_getD,List.getElem?_eq_getElem h]
theorem wrdV_at {us : List Nat} {i : Nat} (h : i < us.length) : (wrdV us)[i]? = some (.int .u64 ((us.getD i 0 : Nat) : Int)) := by
  unfold wrdV; rw [List.getElem?_map,List.getElem?_eq_getElem h,getD_of _ _ _ h]
  rfl
theorem natV_at {us : List Nat} {i : Nat} (h : i < us.length) : (natV us)[i]? = some (.int .i64 ((us.getD i 0 : Nat) : Int)) := by
  unfold natV; rw [List.getElem?_map,List.getElem?_eq_getElem h,getD_of _ _ _ h]
  rfl
theorem isTold_any (H0 Q B : Nat) (us o p : List Nat) (vT vO vP : Value) (t : Nat) (w : World) (h : WK w H0 Q B us o p vT vO vP) (hbt : BT o us) (ht : t / 64 < us.length) (htl : t < 1099511627776) :
    Calls Tryz.prog 106 #[.pointer (some ⟨Q,0,none⟩),.int .i64 (t : Int)] w fun e w' => e = .returned (.bool (o.contains t)) /\ w' = w := by
  obtain ⟨g,cap,hv,hg0,hgl⟩ := h.tl.form (by omega); subst hv; have c1 : w.cell? ⟨Q,1,none⟩ = some (.slice (some ⟨g,0,none⟩) us.length cap) := blk_cell h.blk 1; have d1 := h.tl.cellAt (t / 64) (by omega); rw [wrdV_at ht] at d1; have hlo : us.getD (t / 64) 0 < 18446744073709551616 := hbt.lo _ (by rw [getD_of _ _ _ ht]; exact List.getElem_mem _); have hbit := hbt.bit t ht
  generalize us.getD (t / 64) 0 = u at *
  clear h hbt
  generalize us.length = m at *
  go_enter Tryz.func106,Tryz.ntmps106
  go_wp2
  go_ret
  refine ⟨ret_bool ?_,rfl⟩; have e1 : ((u : Int) / 2 ^ (t % 64)) = ((u / 2 ^ (t % 64) : Nat) : Int) := by simp
  have hle : u / 2 ^ (t % 64) <= u := Nat.div_le_self _ _; have hlt : u / 2 ^ (t % 64) < 18446744073709551616 := Nat.lt_of_le_of_lt hle hlo; rw [e1,<- hbit,Nat.testBit_eq_decide_div_mod_eq]; clear hbit e1 hle
  generalize u / 2 ^ (t % 64) = z at *
  rw [and_one_u64 _ (by omega) (by omega),Bool.eq_iff_iff]
  simp
  omega
theorem WK.drewN {w : World} {H0 Q B n : Nat} {us o p : List Nat} {vT vO vP : Value} (h : WK w H0 Q B us o p vT vO vP) : WK (w.drewN n) H0 Q B us o p vT vO vP := ⟨h.blk,h.q0,h.tl,h.ol,h.pl,h.ne⟩
theorem idx3 (x y z : Int) (W : World) : (Instr.index 168 (.agg #[.int .i64 x,.int .i64 y,.int .i64 z]) (.int .i64 0)).run Tryz.prog W = .ok (.int .i64 x) W /\ (Instr.index 168 (.agg #[.int .i64 x,.int .i64 y,.int .i64 z]) (.int .i64 1)).run Tryz.prog W = .ok (.int .i64 y) W /\ (Instr.index 168 (.agg #[.int .i64 x,.int .i64 y,.int .i64 z]) (.int .i64 2)).run Tryz.prog W = .ok (.int .i64 z) W := by
  have h1 := Tryz.sizeOf3 W; have h2 := Tryz.isAgg3; refine ⟨?_,?_,?_⟩
  all_goals simp [Instr.index,run_underlying Tryz.underlying168,asIntOf,h1,part,h2]
theorem opn_yes {o : List Nat} {x : Nat} (h : 0 < x) (h2 : o.contains x = false) : opn o x = true := by unfold opn; rw [h2,decide_eq_true h]; rfl
theorem opn_told {o : List Nat} {x : Nat} (h2 : o.contains x = true) : opn o x = false := by unfold opn; rw [h2]; simp
theorem opn_zero {o : List Nat} {x : Nat} (h : ¬ 0 < x) : opn o x = false := by unfold opn; rw [decide_eq_false h]; rfl
def STD (H0 : Nat) (w0 : World) (B : Nat) (L : List Nd) : Prop := ∃ B0 lim v M1 M2,H0 = w0.heap.size /\ SM 78 w0 B0 B lim L v M1 M2
theorem STD.row {H0 : Nat} {w0 : World} {B : Nat} {L : List Nd} (h : STD H0 w0 B L) (w : World) (hb : Below H0 w0 w) (hp : 0 < L.length) :
    ∃ g c,B < w.heap.size /\ g < w.heap.size /\ g < H0 /\ B < H0 /\ w.cell? ⟨B,1,none⟩ = some (.slice (some ⟨g,0,none⟩) L.length c) /\ ∀ i j,i < L.length -> j < 7 -> w.cell? ⟨g,i * 7 + j,none⟩ = (ndC (L.getD i z0))[j]? := by
  obtain ⟨B0,lim,v,M1,M2,rfl,hS⟩ := h; have hB : B < w0.heap.size := (Array.getElem?_eq_some_iff.1 hS.blk).1; have hS' := hS.below hb; obtain ⟨ad,c,rfl,hc,hcell⟩ := hS'.form; obtain ⟨g,rfl,hg⟩ := hcell hp; have hgl : g < w0.heap.size := ((hS.row).lt g rfl).2; exact ⟨g,c,Nat.lt_of_lt_of_le hB hb.size,Nat.lt_of_lt_of_le hgl hb.size,hgl,hB,blk_cell hS'.blk 1,hg⟩
theorem untold_any (H0 Q B : Nat) (us o p : List Nat) (vT vO vP : Value) (t : Nat) (w0 w : World) (L : List Nd) (hs : STD H0 w0 B L) (hb : Below H0 w0 w) (hP : PAR L) (h : WK w H0 Q B us o p vT vO vP) (hbt : BT o us) (h1 : 1 <= t) (h2 : t <= L.length) (ht : t / 64 < us.length) (htl : t < 1099511627776) :
    Calls Tryz.prog 107 #[.pointer (some ⟨Q,0,none⟩),.int .i64 (t : Int)] w fun e w' => e = .returned (.int .i64 ((unt L o t : Nat) : Int)) /\ ∃ n,w' = w.drewN n := by
  obtain ⟨g,c,hBl,hgl,hgH,hBH,cB,hg⟩ := hs.row w hb (by omega); have hpar := hP (t - 1) (by omega); have c0 : w.cell? ⟨Q,0,none⟩ = some (.pointer (some ⟨B,0,none⟩)) := blk_cell h.blk 0; have d2 := hg (t - 1) 2 (by omega) (by omega); have d3 := hg (t - 1) 3 (by omega) (by omega); have d4 := hg (t - 1) 4 (by omega) (by omega); have eA : (L.getD (t - 1) z0).a = ((pA L t : Nat) : Int) := by unfold pA; omega
  have eB : (L.getD (t - 1) z0).b = ((pB L t : Nat) : Int) := by unfold pB; omega
  have eC : (L.getD (t - 1) z0).c = ((pC L t : Nat) : Int) := by unfold pC; omega
  have bA : pA L t < t := by unfold pA; omega
  have bB : pB L t < t := by unfold pB; omega
  have bC : pC L t < t := by unfold pC; omega
  simp only [ndC,eA,eB,eC,List.getElem?_cons_succ,List.getElem?_cons_zero] at d2 d3 d4; have HTo : Hid (∀ W x,(∃ n,W = w.drewN n) -> x < t -> Calls Tryz.prog 106 #[.pointer (some ⟨Q,0,none⟩),.int .i64 ((x : Nat) : Int)] W fun e w' => e = .returned (.bool (o.contains x)) /\ w' = W) := fun W x hW hx => by
    obtain ⟨n,rfl⟩ := hW; exact isTold_any H0 Q B us o p vT vO vP x _ h.drewN hbt (Nat.lt_of_le_of_lt (Nat.div_le_div_right (Nat.le_of_lt hx)) ht) (by omega)
  obtain ⟨k,rfl⟩ : ∃ k,t = k + 1 := ⟨t - 1,by omega⟩; simp only [Nat.add_sub_cancel] at d2 d3 d4; have hu : unt L o (k + 1) = if opn o (pA L (k + 1)) = true then pA L (k + 1) else if opn o (pB L (k + 1)) = true then pB L (k + 1) else if opn o (pC L (k + 1)) = true then pC L (k + 1) else 0 := rfl
  generalize pA L (k + 1) = a at *
  generalize pB L (k + 1) = b at *
  generalize pC L (k + 1) = cc at *
  rw [hu]; clear hu hg hpar eA eB eC h; have HP : Hid (∀ n x,(if opn o a = true then a else if opn o b = true then b else if opn o cc = true then cc else 0) = x -> (fun (e : Ending) (w' : World) => e = .returned (.int .i64 ((if opn o a = true then a else if opn o b = true then b else if opn o cc = true then cc else 0 : Nat) : Int)) /\ ∃ n,w' = w.drewN n) (.returned (.int .i64 (x : Int))) (w.drewN n)) := fun n x hx => by rw [hx]; exact ⟨rfl,n,rfl⟩
  generalize (fun (e : Ending) (w' : World) => e = .returned (.int .i64 ((if opn o a = true then a else if opn o b = true then b else if opn o cc = true then cc else 0 : Nat) : Int)) /\ ∃ n,w' = w.drewN n) = PP at *
  go_enter Tryz.func107,Tryz.ntmps107
  go_wp2_with fail
  go_quiet (fail)
  go_wp2_with fail
  go_loopg [31] 3 (fun gk s31 wr => ∃ i : Nat,s31 = .int .i64 (i : Int) /\ i + gk = 3 /\ Aside ((∃ n,wr = w.drewN n) /\ (1 <= i -> opn o a = false) /\ (2 <= i -> opn o b = false) /\ (3 <= i -> opn o cc = false)))
  case atStart => exact ⟨0,rfl,rfl,⟨_,rfl⟩,fun h => absurd h (by omega),fun h => absurd h (by omega),fun h => absurd h (by omega)⟩
  case round =>
    obtain ⟨i,rfl,hi2,HJ⟩ := hrel; have hi : i = 0 ∨ i = 1 ∨ i = 2 ∨ i = 3 := by omega
    obtain ⟨j0,j1,j2⟩ := idx3 (a : Int) (b : Int) (cc : Int) wr
    rcases hi with rfl | rfl | rfl | rfl
    · have hE := HJ.out.1
      by_cases hx : 0 < a
      · have q1 : decide (0 < a) = true := decide_eq_true hx
        have HT1 : Hid (Calls Tryz.prog 106 #[.pointer (some ⟨Q,0,none⟩),.int .i64 ((a : Nat) : Int)] wr fun e w' => e = .returned (.bool (o.contains a)) /\ w' = wr) := HTo.out wr a HJ.out.1 bA; cases ho : o.contains a with
        | true =>
          have hox := opn_told ho; rw [ho] at HT1
          go_wp2_with (go_at_call 106; refine HT1.out.mono ?_; rintro e w' ⟨rfl,hw⟩; obtain rfl := hw.symm)
          go_roundg (gk - 1)
          case measure => omega
          case rel => exact ⟨1,rfl,by omega,hE,fun _ => hox,fun h => absurd h (by omega),fun h => absurd h (by omega)⟩
        | false =>
          rw [ho] at HT1
          go_wp2_with (go_at_call 106; refine HT1.out.mono ?_; rintro e w' ⟨rfl,hw⟩; obtain rfl := hw.symm)
          have hfin := fun n => HP.out n a (by rw [if_pos (opn_yes hx ho)])
          obtain ⟨n,rfl⟩ := hE
          first | exact hfin n | (go_ret; exact hfin n)
      have q1 : decide (0 < a) = false := decide_eq_false hx; have hox : opn o a = false := opn_zero hx
      go_wp2_with fail
      go_roundg (gk - 1)
      case measure => omega
      case rel => exact ⟨1,rfl,by omega,hE,fun _ => hox,fun h => absurd h (by omega),fun h => absurd h (by omega)⟩
    · have hE := HJ.out.1
      have o1 : opn o a = false := HJ.out.2.1 (by omega)
      by_cases hx : 0 < b
      · have q1 : decide (0 < b) = true := decide_eq_true hx
        have HT1 : Hid (Calls Tryz.prog 106 #[.pointer (some ⟨Q,0,none⟩),.int .i64 ((b : Nat) : Int)] wr fun e w' => e = .returned (.bool (o.contains b)) /\ w' = wr) := HTo.out wr b HJ.out.1 bB; cases ho : o.contains b with
        | true =>
          have hox := opn_told ho; rw [ho] at HT1
          go_wp2_with (go_at_call 106; refine HT1.out.mono ?_; rintro e w' ⟨rfl,hw⟩; obtain rfl := hw.symm)
          go_roundg (gk - 1)
          case measure => omega
          case rel => exact ⟨2,rfl,by omega,hE,fun _ => o1,fun _ => hox,fun h => absurd h (by omega)⟩
        | false =>
          rw [ho] at HT1
          go_wp2_with (go_at_call 106; refine HT1.out.mono ?_; rintro e w' ⟨rfl,hw⟩; obtain rfl := hw.symm)
          have hfin := fun n => HP.out n b (by rw [if_neg (by rw [o1]; simp),if_pos (opn_yes hx ho)])
          obtain ⟨n,rfl⟩ := hE
          first | exact hfin n | (go_ret; exact hfin n)
      have q1 : decide (0 < b) = false := decide_eq_false hx; have hox : opn o b = false := opn_zero hx
      go_wp2_with fail
      go_roundg (gk - 1)
      case measure => omega
      case rel => exact ⟨2,rfl,by omega,hE,fun _ => o1,fun _ => hox,fun h => absurd h (by omega)⟩
    · have hE := HJ.out.1
      have o1 : opn o a = false := HJ.out.2.1 (by omega); have o2 : opn o b = false := HJ.out.2.2.1 (by omega)
      by_cases hx : 0 < cc
      · have q1 : decide (0 < cc) = true := decide_eq_true hx
        have HT1 : Hid (Calls Tryz.prog 106 #[.pointer (some ⟨Q,0,none⟩),.int .i64 ((cc : Nat) : Int)] wr fun e w' => e = .returned (.bool (o.contains cc)) /\ w' = wr) := HTo.out wr cc HJ.out.1 bC; cases ho : o.contains cc with
        | true =>
          have hox := opn_told ho; rw [ho] at HT1
          go_wp2_with (go_at_call 106; refine HT1.out.mono ?_; rintro e w' ⟨rfl,hw⟩; obtain rfl := hw.symm)
          go_roundg (gk - 1)
          case measure => omega
          case rel => exact ⟨3,rfl,by omega,hE,fun _ => o1,fun _ => o2,fun _ => hox⟩
        | false =>
          rw [ho] at HT1
          go_wp2_with (go_at_call 106; refine HT1.out.mono ?_; rintro e w' ⟨rfl,hw⟩; obtain rfl := hw.symm)
          have hfin := fun n => HP.out n cc (by rw [if_neg (by rw [o1]; simp),if_neg (by rw [o2]; simp),if_pos (opn_yes hx ho)])
          obtain ⟨n,rfl⟩ := hE
          first | exact hfin n | (go_ret; exact hfin n)
      have q1 : decide (0 < cc) = false := decide_eq_false hx; have hox : opn o cc = false := opn_zero hx
      go_wp2_with fail
      go_roundg (gk - 1)
      case measure => omega
      case rel => exact ⟨3,rfl,by omega,hE,fun _ => o1,fun _ => o2,fun _ => hox⟩
    have hE := HJ.out.1; have o1 := HJ.out.2.1 (by omega); have o2 := HJ.out.2.2.1 (by omega); have o3 := HJ.out.2.2.2 (by omega); have hfin := fun n => HP.out n 0 (by rw [if_neg (by rw [o1]; simp),if_neg (by rw [o2]; simp),if_neg (by rw [o3]; simp)])
    obtain ⟨n,rfl⟩ := hE
    go_wp2_with fail
    first | exact hfin n | (go_ret; exact hfin n)
end Go.Proofs.YtkpapgfbnledpaaGreatDoor
namespace Go.Proofs.YtkpapgfbnledpaaGreatDoor
open Go.ChangeShapes Go.WideShapes Go.ChangeAt Go.RowKit Go.Lib Go.Tm Go.Bw Go.Bn Go.WideMaps Go.Maps Go.ChangeMaps

theorem row_ne_blk {w : World} {B e size n G : Nat} {v : Value} {L : List Value} {cs : Array Value} {t : TypeId} {fr : Nat × Nat} (h : w.ownsRow B e size v n L) (hb : w.heap[G]? = some (.cells cs t fr)) (hne : e ≠ t) : v.ownBlock ≠ some G := by
  intro e1
  rcases h.2 with ⟨h0,_⟩ | ⟨g,cap,cur,h0,_,hg,_⟩
  · rw [h0] at e1; cases e1
  rw [h0] at e1; have e2 : g = G := by simpa [Value.ownBlock] using e1
  rw [<- e2,hg] at hb; cases hb; exact hne rfl
theorem ob_ne {w : World} {B B' e e' s s' n n' : Nat} {v v' : Value} {L L' : List Value} (h : w.ownsRow B e s v n L) (h' : w.ownsRow B' e' s' v' n' L') (hne : e ≠ e') : v.ownBlock = none ∨ v.ownBlock ≠ v'.ownBlock := by
  rcases h.2 with ⟨h0,_⟩ | ⟨g,cap,cur,h0,_,hg,_⟩
  · left; rw [h0]; rfl
  right
  intro e1; refine row_ne_blk h' hg (fun e2 => hne e2.symm) ?_; rw [<- e1,h0]
  rfl
theorem tyIW : (3 : TypeId) ≠ 163 := by decide
theorem tyUW : (36 : TypeId) ≠ 163 := by decide
theorem tyUI : (36 : TypeId) ≠ 3 := by decide
theorem natV_snoc (l : List Nat) (x : Nat) : natV (l ++ [x]) = natV l ++ [.int .i64 (x : Int)] := by unfold natV; simp
theorem WK.alloc {w : World} {H0 Q B : Nat} {us o p : List Nat} {vT vO vP : Value} (h : WK w H0 Q B us o p vT vO vP) (ob : Obj) : WK (w.alloc ob) H0 Q B us o p vT vO vP :=
  ⟨(Below.heap_alloc _ _ _ (Array.getElem?_eq_some_iff.1 h.blk).1).trans h.blk,h.q0,h.tl.alloc _,h.ol.alloc _,h.pl.alloc _,h.ne⟩
theorem below_set {w0 w : World} {H0 : Nat} (h : Below H0 w0 w) {a : Addr} (ha : H0 <= a.block) (u : Value) : Below H0 w0 (w.setCell a u) :=
  ⟨h.os,h.tape,h.output,by simpa using h.size,fun x hx => (heap_setCell_other _ _ _ _ (by omega)).trans (h.block x hx)⟩
theorem below_grown {w0 w w5 : World} {H0 : Nat} {v : Value} {e s n : Nat} {L : List Value} (h : Below H0 w0 w) (hH : H0 <= w.heap.size) (hr : w.ownsRow H0 e s v n L) (hg : w.grownBy w5 v.ownBlock) : Below H0 w0 w5 :=
  ⟨hg.os.trans h.os,hg.tape.trans h.tape,hg.output.trans h.output,Nat.le_trans h.size hg.size,fun x hx => (hg.block x (by omega) (fun e => by have := (hr.lt x e.symm).1; omega)).trans (h.block x hx)⟩
theorem WK.q {w : World} {H0 Q B : Nat} {us o p : List Nat} {vT vO vP : Value} (h : WK w H0 Q B us o p vT vO vP) : Q < w.heap.size := (Array.getElem?_eq_some_iff.1 h.blk).1
theorem WK.path {w w5 : World} {H0 Q B : Nat} {us o p p' : List Nat} {vT vO vP v5 : Value} (h : WK w H0 Q B us o p vT vO vP) (hr : w5.ownsRow H0 3 1 v5 p'.length (natV p'.reverse)) (hg : w.grownBy w5 vP.ownBlock) (hat : v5.ownBlock = vP.ownBlock ∨ ∃ k,v5.ownBlock = some k /\ w.heap.size <= k) :
    WK (w5.setCell ⟨Q,3,none⟩ v5) H0 Q B us o p' vT vO v5 := by
  have hQ : w5.heap[Q]? = some (.cells #[.pointer (some ⟨B,0,none⟩),vT,vO,vP] 163 (0,0)) := (hg.block Q h.q (fun e => row_ne_blk h.pl h.blk tyIW e.symm)).trans h.blk; have hT := h.tl.kept hg (ob_ne h.tl h.pl tyUI); have hO := h.ol.kept hg (by
    cases hv : vO.ownBlock with
    | none => exact Or.inl rfl
    | some k => exact Or.inr (fun e => h.ne k hv e.symm))
  refine ⟨?_,h.q0,ownsRow_setCell_other hT (row_ne_blk hT hQ tyUW) _,ownsRow_setCell_other hO (row_ne_blk hO hQ tyIW) _,ownsRow_setCell_other hr (row_ne_blk hr hQ tyIW) _,fun k hk => ?_⟩
  · rw [heap_setCell_same _ _ _ _ _ _ hQ]
    rfl
  rcases hat with e | ⟨k',e,hk'⟩
  · rw [e]; exact h.ne k hk
  rw [e]; intro e2; cases e2; have := (h.ol.lt k hk).2
  omega
theorem WK.order {w w5 : World} {H0 Q B : Nat} {us o p o' : List Nat} {vT vO vP v5 : Value} (h : WK w H0 Q B us o p vT vO vP) (hr : w5.ownsRow H0 3 1 v5 o'.length (natV o')) (hg : w.grownBy w5 vO.ownBlock) (hat : v5.ownBlock = vO.ownBlock ∨ ∃ k,v5.ownBlock = some k /\ w.heap.size <= k) :
    WK (w5.setCell ⟨Q,2,none⟩ v5) H0 Q B us o' p vT v5 vP := by
  have hQ : w5.heap[Q]? = some (.cells #[.pointer (some ⟨B,0,none⟩),vT,vO,vP] 163 (0,0)) := (hg.block Q h.q (fun e => row_ne_blk h.ol h.blk tyIW e.symm)).trans h.blk; have hT := h.tl.kept hg (ob_ne h.tl h.ol tyUI); have hP := h.pl.kept hg (by
    cases hv : vP.ownBlock with
    | none => exact Or.inl rfl
    | some k => exact Or.inr (fun e => h.ne k e.symm hv))
  refine ⟨?_,h.q0,ownsRow_setCell_other hT (row_ne_blk hT hQ tyUW) _,ownsRow_setCell_other hr (row_ne_blk hr hQ tyIW) _,ownsRow_setCell_other hP (row_ne_blk hP hQ tyIW) _,fun k hk => ?_⟩
  · rw [heap_setCell_same _ _ _ _ _ _ hQ]
    rfl
  rcases hat with e | ⟨k',e,hk'⟩
  · exact h.ne k (e ▸ hk)
  rw [e] at hk; cases hk; intro e2; have := (h.pl.lt k e2).2
  omega
theorem WK.mark {w : World} {H0 Q B g cap : Nat} {us o p : List Nat} {vO vP : Value} (h : WK w H0 Q B us o p (.slice (some ⟨g,0,none⟩) us.length cap) vO vP) (j u : Nat) : WK (w.setCell ⟨g,j,none⟩ (.int .u64 (u : Int))) H0 Q B (us.set j u) o p (.slice (some ⟨g,0,none⟩) us.length cap) vO vP := by
  have hgb : ∃ cur,w.heap[g]? = some (.cells cur 36 (0,0)) := by
    rcases h.tl.2 with ⟨e,_⟩ | ⟨g',cap,cur,e,_,hg',_⟩
    · cases e
    cases e; exact ⟨cur,hg'⟩
  obtain ⟨cur,hcur⟩ := hgb; have hne : Q ≠ g := fun e => by rw [<- e,h.blk] at hcur; cases hcur
  refine ⟨(heap_setCell_other _ _ _ _ hne).trans h.blk,h.q0,?_,ownsRow_setCell_other h.ol (row_ne_blk h.ol hcur (Ne.symm tyUI)) _,ownsRow_setCell_other h.pl (row_ne_blk h.pl hcur (Ne.symm tyUI)) _,h.ne⟩; have := (h.tl.stored j (.int .u64 (u : Int))).1; rw [List.length_set]; unfold wrdV at this ⊢; rw [List.map_set]; exact this
theorem BT.mark {o us : List Nat} (h : BT o us) {t : Nat} (ht : t / 64 < us.length) : BT (o ++ [t]) (us.set (t / 64) (us.getD (t / 64) 0 ||| 2 ^ (t % 64))) := by
  refine ⟨fun u hu => ?_,fun x hx => ?_⟩
  · rcases List.mem_or_eq_of_mem_set hu with e | e
    · exact h.lo u e
    rw [e]; exact Nat.or_lt_two_pow (n := 64) (h.lo _ (by rw [getD_of _ _ _ ht]; exact List.getElem_mem _)) (Nat.pow_lt_pow_right (by omega) (by omega))
  rw [List.length_set] at hx
  by_cases e : x / 64 = t / 64
  · rw [e,getD_of _ _ _ (by rw [List.length_set]; omega),List.getElem_set_self,Nat.testBit_or,<- e,h.bit x hx,Nat.testBit_two_pow]
    by_cases e2 : t % 64 = x % 64
    · have : x = t := by omega
      subst this
      simp
    have : x ≠ t := fun e3 => e2 (by rw [e3])
    simp [e2,this]
  have e3 : (us.set (t / 64) (us.getD (t / 64) 0 ||| 2 ^ (t % 64))).getD (x / 64) 0 = us.getD (x / 64) 0 := by
    rw [List.getD_eq_getElem?_getD,List.getD_eq_getElem?_getD,List.getElem?_set_ne (fun e4 => e e4.symm),<- List.getD_eq_getElem?_getD]
  rw [e3,h.bit x hx]; have : x ≠ t := fun e4 => e (by rw [e4])
  simp [this]
end Go.Proofs.YtkpapgfbnledpaaGreatDoor
namespace Go.Proofs.YtkpapgfbnledpaaGreatDoor
open Go.ChangeShapes Go.WideShapes Go.ChangeAt Go.RowKit Go.Lib Go.Tm Go.Bw Go.Bn Go.WideMaps Go.Maps Go.ChangeMaps

structure GO (H0 : Nat) (w0 : World) (Q B : Nat) (vT : Value) (L : List Nd) (m n : Nat) (us o p : List Nat) (vO vP : Value) (w : World) : Prop where
  wk : WK w H0 Q B us o p vT vO vP
  bt : BT o us
  pw : PW L o p
  len : us.length = n
  mx : ∀ x ∈ p,x <= m
  bel : Below H0 w0 w
theorem GO.drewN {H0 : Nat} {w0 : World} {Q B : Nat} {vT : Value} {L : List Nd} {m n k : Nat} {us o p : List Nat} {vO vP : Value} {w : World} (h : GO H0 w0 Q B vT L m n us o p vO vP w) : GO H0 w0 Q B vT L m n us o p vO vP (w.drewN k) := ⟨h.wk.drewN,h.bt,h.pw,h.len,h.mx,drw h.bel _⟩
theorem one_new (w : World) (x : Value) (t : TypeId) : ∀ j u,([x] : List Value)[j]? = some u -> (w.alloc (.cells #[x] t)).cell? ((⟨w.heap.size,0,none⟩ : Addr).add j) = some u := by
  intro j u hj; rw [Addr.add_lit]
  match j,hj with
  | 0,hj => simp at hj; subst hj; simp
theorem row_form {w : World} {B e s n : Nat} {v : Value} {L : List Value} (h : w.ownsRow B e s v n L) : ∃ ad cap,v = .slice ad n cap /\ (0 < n -> ∃ g,ad = some ⟨g,0,none⟩) := by
  rcases h.2 with ⟨e,h0⟩ | ⟨g,cap,cur,rfl,_⟩
  · exact ⟨none,0,by rw [e,h0],fun h => by omega⟩
  exact ⟨_,_,rfl,fun _ => ⟨g,rfl⟩⟩
theorem at_of {v : Value} {g4 n c H : Nat} (h : v.ownBlock = some g4 ∨ g4 = H) {K : Nat} (hK : K <= H) : (Value.slice (some ⟨g4,0,none⟩) n c).ownBlock = v.ownBlock ∨ ∃ k,(Value.slice (some ⟨g4,0,none⟩) n c).ownBlock = some k /\ K <= k := by
  rcases h with h | h
  · exact Or.inl h.symm
  exact Or.inr ⟨g4,rfl,by omega⟩
theorem WK.cell {w : World} {H0 Q B : Nat} {us o p : List Nat} {vT vO vP : Value} (h : WK w H0 Q B us o p vT vO vP) (j : Nat) : w.cell? ⟨Q,j,none⟩ = (#[.pointer (some ⟨B,0,none⟩),vT,vO,vP] : Array Value)[j]? /\ w.frozen? ⟨Q,j,none⟩ = false := ⟨blk_cell h.blk j,by simp [World.frozen?,h.blk]⟩
theorem or_bit (u t : Nat) (hlo : u < 18446744073709551616) : bits BinOp.or IntKind.u64 (u : Int) (IntKind.u64.wrap (2 ^ (t % 64))) = ((u ||| 2 ^ (t % 64) : Nat) : Int) := by
  have h2 : 2 ^ (t % 64) < 18446744073709551616 := Nat.pow_lt_pow_right (m := t % 64) (n := 64) (a := 2) (by omega) (by omega); have e : IntKind.u64.wrap (2 ^ (t % 64)) = ((2 ^ (t % 64) : Nat) : Int) := by
    have e1 : ((2 : Int) ^ (t % 64)) = ((2 ^ (t % 64) : Nat) : Int) := by simp
    rw [e1]
    generalize 2 ^ (t % 64) = z at *
    simp [IntKind.wrap,IntKind.bits,IntKind.signed]
    omega
  rw [e]; exact bits_or_u64_nat u (2 ^ (t % 64)) hlo h2
theorem GO.push {H0 : Nat} {w0 : World} {Q B : Nat} {vT : Value} {L : List Nd} {m n : Nat} {us o p : List Nat} {vO vP : Value} {w w4 : World} {x g4 cap4 : Nat} {ob : Obj} (h : GO H0 w0 Q B vT L m n us o p vO vP w) (hown : w4.ownsRow H0 3 1 (.slice (some ⟨g4,0,none⟩) (p.length + 1) cap4) (p.length + 1) (natV p.reverse ++ [.int .i64 (x : Int)])) (hg : (w.alloc ob).grownBy w4 vP.ownBlock) (hat : vP.ownBlock = some g4 ∨ g4 = w.heap.size + 1) (hH : H0 <= w.heap.size) (hpw : PW L o (x :: p)) (hx : x <= m) :
    (w4.cell? ⟨Q,3,none⟩ = some vP /\ w4.frozen? ⟨Q,3,none⟩ = false) /\ GO H0 w0 Q B vT L m n us o (x :: p) vO (.slice (some ⟨g4,0,none⟩) (p.length + 1) cap4) (w4.setCell ⟨Q,3,none⟩ (.slice (some ⟨g4,0,none⟩) (p.length + 1) cap4)) := by
  have h7 := h.wk.alloc ob; have hsz : (w.alloc ob).heap.size = w.heap.size + 1 := by simp
  have hQ : w4.heap[Q]? = some (.cells #[.pointer (some ⟨B,0,none⟩),vT,vO,vP] 163 (0,0)) := (hg.block Q h7.q (fun e => row_ne_blk h7.pl h7.blk tyIW e.symm)).trans h7.blk; refine ⟨⟨blk_cell hQ 3,by simp [World.frozen?,hQ]⟩,⟨h7.path (p' := x :: p) (by rw [List.reverse_cons,natV_snoc]; exact hown) hg (at_of hat (by omega)),h.bt,hpw,h.len,fun y hy => ?_,?_⟩⟩
  · rcases List.mem_cons.1 hy with e | e
    · rw [e]; exact hx
    exact h.mx y e
  refine below_set (below_grown (w := w.alloc ob) (h.bel.alloc hH ob) (by omega) h7.pl hg) ?_ _; exact h.wk.q0
theorem GO.pop {H0 : Nat} {w0 : World} {Q B g cap gp cp : Nat} {L : List Nd} {m n : Nat} {us o p : List Nat} {vO : Value} {w : World} {t : Nat} (h : GO H0 w0 Q B (.slice (some ⟨g,0,none⟩) n cap) L m n us o (t :: p) vO (.slice (some ⟨gp,0,none⟩) (p.length + 1) cp) w) (u : Nat) :
    (w.setCell ⟨Q,3,none⟩ (.slice (some ⟨gp,0,none⟩) p.length cp)).cell? ⟨Q,1,none⟩ = some (.slice (some ⟨g,0,none⟩) n cap) /\ (∀ j,j < n -> (w.setCell ⟨Q,3,none⟩ (.slice (some ⟨gp,0,none⟩) p.length cp)).cell? ⟨g,j,none⟩ = some (.int .u64 ((us.getD j 0 : Nat) : Int)) /\ (w.setCell ⟨Q,3,none⟩ (.slice (some ⟨gp,0,none⟩) p.length cp)).frozen? ⟨g,j,none⟩ = false) /\
    ∀ j,WK ((w.setCell ⟨Q,3,none⟩ (.slice (some ⟨gp,0,none⟩) p.length cp)).setCell ⟨g,j,none⟩ (.int .u64 (u : Int))) H0 Q B (us.set j u) o p (.slice (some ⟨g,0,none⟩) n cap) vO (.slice (some ⟨gp,0,none⟩) p.length cp) /\ Below H0 w0 ((w.setCell ⟨Q,3,none⟩ (.slice (some ⟨gp,0,none⟩) p.length cp)).setCell ⟨g,j,none⟩ (.int .u64 (u : Int))) := by
  have hn := h.len; subst hn; have hpl := h.wk.pl; rw [List.reverse_cons,natV_snoc] at hpl; have h1 : WK (w.setCell ⟨Q,3,none⟩ (.slice (some ⟨gp,0,none⟩) p.length cp)) H0 Q B us o p (.slice (some ⟨g,0,none⟩) us.length cap) vO (.slice (some ⟨gp,0,none⟩) p.length cp) :=
    h.wk.path (p' := p) (ownsRow_pop (by unfold natV; simp) hpl) ⟨rfl,rfl,rfl,Nat.le_refl _,fun _ _ _ => rfl⟩ (Or.inl rfl)
  refine ⟨(h1.cell 1).1,fun j hj => ⟨?_,h1.tl.frozenAt j⟩,fun j => ⟨h1.mark j u,below_set (below_set h.bel h.wk.q0 _) (h1.tl.lt g rfl).1 _⟩⟩; rw [h1.tl.cellAt j (by omega),wrdV_at hj]
theorem GO.tell {H0 : Nat} {w0 : World} {Q B : Nat} {vT : Value} {L : List Nd} {m n : Nat} {us o p : List Nat} {vO vP : Value} {w w4 : World} {t g4 cap4 : Nat} {ob : Obj} (h : WK w H0 Q B us o p vT vO vP) (hbel : Below H0 w0 w) (hbt : BT (o ++ [t]) us) (hpw : PW L (o ++ [t]) p) (hlen : us.length = n) (hmx : ∀ x ∈ p,x <= m) (hown : w4.ownsRow H0 3 1 (.slice (some ⟨g4,0,none⟩) (o.length + 1) cap4) (o.length + 1) (natV o ++ [.int .i64 (t : Int)])) (hg : (w.alloc ob).grownBy w4 vO.ownBlock) (hat : vO.ownBlock = some g4 ∨ g4 = w.heap.size + 1) (hH : H0 <= w.heap.size) :
    (w4.cell? ⟨Q,2,none⟩ = some vO /\ w4.frozen? ⟨Q,2,none⟩ = false) /\ GO H0 w0 Q B vT L m n us (o ++ [t]) p (.slice (some ⟨g4,0,none⟩) (o.length + 1) cap4) vP (w4.setCell ⟨Q,2,none⟩ (.slice (some ⟨g4,0,none⟩) (o.length + 1) cap4)) := by
  have h7 := h.alloc ob; have hsz : (w.alloc ob).heap.size = w.heap.size + 1 := by simp
  have hQ : w4.heap[Q]? = some (.cells #[.pointer (some ⟨B,0,none⟩),vT,vO,vP] 163 (0,0)) := (hg.block Q h7.q (fun e => row_ne_blk h7.ol h7.blk tyIW e.symm)).trans h7.blk; refine ⟨⟨blk_cell hQ 2,by simp [World.frozen?,hQ]⟩,⟨h7.order (o' := o ++ [t]) (by rw [natV_snoc,List.length_append]; exact hown) hg (at_of hat (by omega)),hbt,hpw,hlen,hmx,?_⟩⟩; refine below_set (below_grown (w := w.alloc ob) (hbel.alloc hH ob) (by omega) h7.ol hg) ?_ _; exact h.q0
theorem from_any (H0 : Nat) (w0 : World) (Q B : Nat) (vT : Value) (L : List Nd) (m n : Nat) (us o : List Nat) (vO vP : Value) (r : Nat) (w : World) (hs : STD H0 w0 B L) (hP : PAR L) (hL : L.length <= 1000000000000) (hm : m / 64 < n) (hmL : m <= L.length) (h : GO H0 w0 Q B vT L m n us o [] vO vP w) (h1 : 1 <= r) (h2 : r <= m) :
    Calls Tryz.prog 75 #[.pointer (some ⟨Q,0,none⟩),.int .i64 (r : Int)] w fun e w' => e = .returned (.tuple #[]) /\ ∃ us' vO' vP',GO H0 w0 Q B vT L m n us' (og1 L o r) [] vO' vP' w' := by
  generalize hPP : (fun (e : Ending) (w' : World) => e = .returned (.tuple #[]) /\ ∃ us' vO' vP',GO H0 w0 Q B vT L m n us' (og1 L o r) [] vO' vP' w') = PP
  have HPP : Hid (∀ us' vO' vP' w',GO H0 w0 Q B vT L m n us' (og1 L o r) [] vO' vP' w' -> PP (.returned (.tuple #[])) w') := fun us' vO' vP' w' h => by rw [<- hPP]; exact ⟨rfl,us',vO',vP',h⟩
  clear hPP; have hn0 : 0 < us.length := by rw [h.len]; omega
  have HTo : Hid (∀ us o p vO vP W x,GO H0 w0 Q B vT L m n us o p vO vP W -> x <= m -> Calls Tryz.prog 106 #[.pointer (some ⟨Q,0,none⟩),.int .i64 ((x : Nat) : Int)] W fun e w' => e = .returned (.bool (o.contains x)) /\ w' = W) := fun us o p vO vP W x hG hx =>
    isTold_any H0 Q B us o p vT vO vP x W hG.wk hG.bt (by rw [hG.len]; exact Nat.lt_of_le_of_lt (Nat.div_le_div_right hx) hm) (by omega)
  have HUn : Hid (∀ us o p vO vP W x,GO H0 w0 Q B vT L m n us o p vO vP W -> 1 <= x -> x <= m -> Calls Tryz.prog 107 #[.pointer (some ⟨Q,0,none⟩),.int .i64 ((x : Nat) : Int)] W fun e w' => e = .returned (.int .i64 ((unt L o x : Nat) : Int)) /\ ∃ n,w' = W.drewN n) := fun us o p vO vP W x hG hx1 hx =>
    untold_any H0 Q B us o p vT vO vP x w0 W L hs hG.bel hP hG.wk hG.bt hx1 (by omega) (by rw [hG.len]; exact Nat.lt_of_le_of_lt (Nat.div_le_div_right hx) hm) (by omega)
  have HT0 : Hid (Calls Tryz.prog 106 #[.pointer (some ⟨Q,0,none⟩),.int .i64 ((r : Nat) : Int)] w fun e w' => e = .returned (.bool (o.contains r)) /\ w' = w) := HTo.out us o [] vO vP w r h h2; cases hc : o.contains r with
  | true =>
    have HE : Hid (PP (.returned (.tuple #[])) w) := HPP.out us vO vP w (by unfold og1; rw [if_pos hc]; exact h); rw [hc] at HT0
    go_enter Tryz.func75,Tryz.ntmps75
    go_wp2_with (go_at_call 106; refine HT0.out.mono ?_; rintro e w' ⟨rfl,hw⟩; obtain rfl := hw.symm)
    first | exact HE.out | (go_end0; exact HE.out)
  | false =>
    have hog : og1 L o r = fin L (mu L o [r]) o [r] := by unfold og1; rw [if_neg (by rw [hc]; simp)]
    rw [hog] at HPP; obtain ⟨R,hR⟩ : ∃ R,fin L (mu L o [r]) o [r] = R := ⟨_,rfl⟩; have HR0 : Hid (fin L (mu L o [r]) o [r] = R) := hR; rw [hR] at HPP; clear hR hog; rw [hc] at HT0; have HG : Hid (GO H0 w0 Q B vT L m n us o [] vO vP w) := h; have HHs : Hid (H0 <= w.heap.size) := by obtain ⟨_,_,_,_,_,rfl,_⟩ := hs; exact h.bel.size
    obtain ⟨a3,c3,hp3,_⟩ := row_form h.wk.pl; subst hp3; have k3 : w.cell? ⟨Q,3,none⟩ = some (.slice a3 0 c3) := blk_cell h.wk.blk 3; have HR3 : Hid (w.ownsRow H0 3 1 (.slice a3 0 c3) 0 []) := h.wk.pl; have HPW : Hid (PW L o [r]) := h.pw.root h1 (by omega) (by simpa using hc); have hQ := h.wk.q; have hH := HHs.out; obtain ⟨i0,hi,hz0,hz1,hz2⟩ := info_parts (P := Tryz.prog) (e := 3) (z := .int .i64 0) (size := 1) (bytes := 8) (by kernel_rfl); clear h
    go_enter Tryz.func75,Tryz.ntmps75
    go_wp2_with (first | (go_at_call 106; refine HT0.out.mono ?_; rintro e w' ⟨rfl,hw⟩; obtain rfl := hw.symm) | (at_builtin; refine wpList_append_lies _ rfl _ _ 23 rfl H0 3 i0 (.int .i64 0) 1 8 Tryz.underlying23 hi hz0 hz1 hz2 rfl (by decide) _ _ _ rfl (HR3.out.alloc _) ⟨w.heap.size,0,none⟩ 1 1 [.int .i64 (r : Int)] rfl rfl (one_new _ _ _) (by intro u hu; simp at hu; subst hu; rfl) (by omega) (by unfold maxLen; omega) (by omega) (by simp; omega) (w.heap.size + 1) (by simp) ?_; intro g4 cap4 w4 hown4 hgrow4 hat4 hlt4; have HO4 : Hid ((w4.cell? ⟨Q,3,none⟩ = some (.slice a3 0 c3) /\ w4.frozen? ⟨Q,3,none⟩ = false) /\ GO H0 w0 Q B vT L m n us o [r] vO (.slice (some ⟨g4,0,none⟩) 1 cap4) (w4.setCell ⟨Q,3,none⟩ (.slice (some ⟨g4,0,none⟩) 1 cap4))) := HG.out.push (p := []) hown4 hgrow4 hat4 HHs.out HPW.out h2; clear hown4 hgrow4 hat4 hlt4; refine Hid.out ?_))
    refine Lib.hid ?_; obtain ⟨⟨k3,f3⟩,hG⟩ := HO4.out; have HG2 : Hid (GO H0 w0 Q B vT L m n us o [r] vO (.slice (some ⟨g4,0,none⟩) 1 cap4) (w4.setCell ⟨Q,3,none⟩ (.slice (some ⟨g4,0,none⟩) 1 cap4))) := hG; clear hG HO4
    go_wp2_with fail
    clear HT0 HG k3 HR3 HPW f3 hH hQ hc; obtain ⟨gT,cT,hvT⟩ : ∃ g c,vT = .slice (some ⟨g,0,none⟩) n c := by
      obtain ⟨g,c,e,_⟩ := HG2.out.wk.tl.form hn0; rw [HG2.out.len] at e; exact ⟨g,c,e⟩
    subst hvT
    go_loopg [] (mu L o [r]) (fun gk wr => ∃ us o p vO vP,gk = mu L o p /\ Aside (fin L gk o p = R /\ GO H0 w0 Q B (.slice (some ⟨gT,0,none⟩) n cT) L m n us o p vO vP wr))
    case atStart => exact ⟨us,o,[r],vO,_,rfl,HR0.out,HG2.out⟩
    case round =>
      clear HG2 HR0 hn0; obtain ⟨us1,o1,p,vO1,vP1,hgk,HJ⟩ := hrel; have HHr : Hid (H0 <= wr.heap.size) := by obtain ⟨_,_,_,_,_,rfl,_⟩ := hs; exact HJ.out.2.bel.size
      cases p with
      | nil =>
        obtain ⟨a3,c3,hp3,_⟩ := row_form HJ.out.2.wk.pl; subst hp3; have k3 : wr.cell? ⟨Q,3,none⟩ = some (.slice a3 0 c3) := (HJ.out.2.wk.cell 3).1; have HE : Hid (PP (.returned (.tuple #[])) wr) := HPP.out us1 vO1 _ wr (by have h7 := HJ.out.1; rw [fin_nil] at h7; rw [<- h7]; exact HJ.out.2); clear HJ HPP
        go_wp2_with fail
        first | exact HE.out | (go_end0; exact HE.out)
      | cons t p =>
        obtain ⟨a3,c3,hp3,ha3⟩ := row_form HJ.out.2.wk.pl; obtain ⟨gp,rfl⟩ := ha3 (by simp); subst hp3; rw [List.length_cons] at HJ; have k3 : wr.cell? ⟨Q,3,none⟩ = some (.slice (some ⟨gp,0,none⟩) (p.length + 1) c3) := (HJ.out.2.wk.cell 3).1; have d3 : wr.cell? ⟨gp,p.length,none⟩ = some (.int .i64 (t : Int)) := by
          have h7 := HJ.out.2.wk.pl; rw [List.reverse_cons,natV_snoc] at h7; rw [h7.cellAt p.length (by simp),List.getElem?_append_right (by unfold natV; simp)]; unfold natV
          simp
        have ht1 := (HJ.out.2.pw.pb t (by simp)).1; have ht2 := HJ.out.2.mx t (by simp); have hlen := HJ.out.2.pw.len; rw [List.length_cons] at hlen; have HUn1 : Hid (∀ k,Calls Tryz.prog 107 #[.pointer (some ⟨Q,0,none⟩),.int .i64 ((t : Nat) : Int)] (wr.drewN k) fun e w' => e = .returned (.int .i64 ((unt L o1 t : Nat) : Int)) /\ ∃ n,w' = (wr.drewN k).drewN n) := fun k => HUn.out us1 o1 (t :: p) vO1 _ _ t HJ.out.2.drewN ht1 ht2
        have HG1 : Hid (∀ k j,GO H0 w0 Q B (.slice (some ⟨gT,0,none⟩) n cT) L m n us1 o1 (t :: p) vO1 (.slice (some ⟨gp,0,none⟩) (p.length + 1) c3) ((wr.drewN k).drewN j)) := fun k j => HJ.out.2.drewN.drewN
        go_wp2_with fail
        go_quiet (fail)
        go_wp2_with fail
        refine (HUn1.out _).mono ?_; rintro e w1 ⟨rfl,k1,hw1⟩; have HG3 : Hid (GO H0 w0 Q B (.slice (some ⟨gT,0,none⟩) n cT) L m n us1 o1 (t :: p) vO1 (.slice (some ⟨gp,0,none⟩) (p.length + 1) c3) w1 /\ H0 <= w1.heap.size) := ⟨by rw [hw1]; exact HG1.out _ _,by rw [hw1]; exact HHr.out⟩; have HF : Hid (fin L gk o1 (t :: p) = R) := HJ.out.1; clear hw1 HUn1 HG1 k3 d3 HJ HHr; have k3 : w1.cell? ⟨Q,3,none⟩ = some (.slice (some ⟨gp,0,none⟩) (p.length + 1) c3) := (HG3.out.1.wk.cell 3).1; have f3 : w1.frozen? ⟨Q,3,none⟩ = false := (HG3.out.1.wk.cell 3).2; have hH := HG3.out.2
        by_cases hu : unt L o1 t = 0
        · have q1 : decide (0 < unt L o1 t) = false := decide_eq_false (by omega)
          rw [hu] at q1 ⊢; clear HUn HTo; have hc3 : p.length + 1 <= c3 := by
            rcases HG3.out.1.wk.pl.2 with ⟨e,_⟩ | ⟨_,_,_,e,_,_,h7,_⟩
            · cases e
            cases e; exact h7
          obtain ⟨j1,j2,j3⟩ := HG3.out.1.pop (us1.getD (t / 64) 0 ||| 2 ^ (t % 64))
          go_wp2_with fail
          go_region
          obtain ⟨W2,hW2⟩ : ∃ W,(w1.setCell ⟨Q,3,none⟩ (.slice (some ⟨gp,0,none⟩) p.length c3)).drew = W := ⟨_,rfl⟩; have k1 : W2.cell? ⟨Q,1,none⟩ = some (.slice (some ⟨gT,0,none⟩) n cT) := by rw [<- hW2]; exact j1
          have HK2 : Hid (WK (W2.setCell ⟨gT,t / 64,none⟩ (.int .u64 ((us1.getD (t / 64) 0 ||| 2 ^ (t % 64) : Nat) : Int))) H0 Q B (us1.set (t / 64) (us1.getD (t / 64) 0 ||| 2 ^ (t % 64))) o1 p (.slice (some ⟨gT,0,none⟩) n cT) vO1 (.slice (some ⟨gp,0,none⟩) p.length c3) /\ Below H0 w0 (W2.setCell ⟨gT,t / 64,none⟩ (.int .u64 ((us1.getD (t / 64) 0 ||| 2 ^ (t % 64) : Nat) : Int)))) := by rw [<- hW2]; exact ⟨⟨(j3 (t / 64)).1.blk,(j3 (t / 64)).1.q0,(j3 (t / 64)).1.tl,(j3 (t / 64)).1.ol,(j3 (t / 64)).1.pl,(j3 (t / 64)).1.ne⟩,⟨(j3 (t / 64)).2.os,(j3 (t / 64)).2.tape,(j3 (t / 64)).2.output,(j3 (t / 64)).2.size,(j3 (t / 64)).2.block⟩⟩
          have ht64 : t / 64 < n := Nat.lt_of_le_of_lt (Nat.div_le_div_right ht2) hm; have d1 : W2.cell? ⟨gT,t / 64,none⟩ = some (.int .u64 ((us1.getD (t / 64) 0 : Nat) : Int)) := by rw [<- hW2]; exact (j2 _ ht64).1
          have f1 : W2.frozen? ⟨gT,t / 64,none⟩ = false := by rw [<- hW2]; exact (j2 _ ht64).2
          rw [hW2]; clear hW2 j1 j2 j3; have hlo : us1.getD (t / 64) 0 < 18446744073709551616 := HG3.out.1.bt.lo _ (by rw [getD_of _ _ _ (by rw [HG3.out.1.len]; exact ht64)]; exact List.getElem_mem _); have HBT : Hid (BT (o1 ++ [t]) (us1.set (t / 64) (us1.getD (t / 64) 0 ||| 2 ^ (t % 64)))) := HG3.out.1.bt.mark (by rw [HG3.out.1.len]; exact ht64)
          generalize us1.getD (t / 64) 0 = u at *
          have hor : bits BinOp.or IntKind.u64 (u : Int) (IntKind.u64.wrap (2 ^ (t % 64))) = ((u ||| 2 ^ (t % 64) : Nat) : Int) := or_bit u t hlo
          generalize u ||| 2 ^ (t % 64) = u5 at *
          obtain ⟨a2,c2,hp2,_⟩ := row_form HG3.out.1.wk.ol; subst hp2; have HPw : Hid (PW L (o1 ++ [t]) p) := HG3.out.1.pw.tell hu; have HMx : Hid (∀ x ∈ p,x <= m) := fun x hx => HG3.out.1.mx x (by simp [hx])
          have HLn : Hid ((us1.set (t / 64) u5).length = n) := by show _ = _; rw [List.length_set]; exact HG3.out.1.len
          have HF2 : Hid (fin L (mu L (o1 ++ [t]) p) (o1 ++ [t]) p = R) := by show _ = _; rw [<- fin_tell HG3.out.1.pw hu,<- hgk]; exact HF.out
          have hmu2 : mu L (o1 ++ [t]) p < gk := by have := mu_tell HG3.out.1.pw; omega
          clear HF HG3 k3 f3 hlo
          go_wp2_with fail
          go_region
          obtain ⟨W3,hW3⟩ : ∃ W,(W2.setCell ⟨gT,t / 64,none⟩ (.int .u64 (u5 : Int))).drew = W := ⟨_,rfl⟩; have HK3 : Hid (WK W3 H0 Q B (us1.set (t / 64) u5) o1 p (.slice (some ⟨gT,0,none⟩) n cT) (.slice a2 o1.length c2) (.slice (some ⟨gp,0,none⟩) p.length c3) /\ Below H0 w0 W3 /\ H0 <= W3.heap.size) := by
            rw [<- hW3]; refine ⟨⟨HK2.out.1.blk,HK2.out.1.q0,HK2.out.1.tl,HK2.out.1.ol,HK2.out.1.pl,HK2.out.1.ne⟩,⟨HK2.out.2.os,HK2.out.2.tape,HK2.out.2.output,HK2.out.2.size,HK2.out.2.block⟩,?_⟩; obtain ⟨_,_,_,_,_,rfl,_⟩ := hs; exact HK2.out.2.size
          rw [hW3]; clear hW3 HK2 d1 f1 k1; have k2 : W3.cell? ⟨Q,2,none⟩ = some (.slice a2 o1.length c2) := (HK3.out.1.cell 2).1; have HR2 : Hid (W3.ownsRow H0 3 1 (.slice a2 o1.length c2) o1.length (natV o1)) := HK3.out.1.ol; have hH3 := HK3.out.2.2
          go_wp2_with (at_builtin; refine wpList_append_lies _ rfl _ _ 23 rfl H0 3 i0 (.int .i64 0) 1 8 Tryz.underlying23 hi hz0 hz1 hz2 rfl (by decide) _ _ _ rfl (HR2.out.alloc _) ⟨W3.heap.size,0,none⟩ 1 1 [.int .i64 (t : Int)] rfl rfl (one_new _ _ _) (by intro u hu; simp at hu; subst hu; rfl) (by omega) (by unfold maxLen; omega) (by omega) (by simp; omega) (W3.heap.size + 1) (by simp) ?_; intro g5 cap5 w5 hown5 hgrow5 hat5 hlt5; have HO5 : Hid ((w5.cell? ⟨Q,2,none⟩ = some (.slice a2 o1.length c2) /\ w5.frozen? ⟨Q,2,none⟩ = false) /\ GO H0 w0 Q B (.slice (some ⟨gT,0,none⟩) n cT) L m n (us1.set (t / 64) u5) (o1 ++ [t]) p (.slice (some ⟨g5,0,none⟩) (o1.length + 1) cap5) (.slice (some ⟨gp,0,none⟩) p.length c3) (w5.setCell ⟨Q,2,none⟩ (.slice (some ⟨g5,0,none⟩) (o1.length + 1) cap5))) := GO.tell HK3.out.1 HK3.out.2.1 HBT.out HPw.out HLn.out HMx.out hown5 hgrow5 hat5 HK3.out.2.2; clear hown5 hgrow5 hat5 hlt5; refine Hid.out ?_)
          refine Lib.hid ?_; clear k2; obtain ⟨⟨k2,f2⟩,hG⟩ := HO5.out; have HG2 : Aside (fin L (mu L (o1 ++ [t]) p) (o1 ++ [t]) p = R /\ GO H0 w0 Q B (.slice (some ⟨gT,0,none⟩) n cT) L m n (us1.set (t / 64) u5) (o1 ++ [t]) p (.slice (some ⟨g5,0,none⟩) (o1.length + 1) cap5) (.slice (some ⟨gp,0,none⟩) p.length c3) (w5.setCell ⟨Q,2,none⟩ (.slice (some ⟨g5,0,none⟩) (o1.length + 1) cap5))) := ⟨HF2.out,hG⟩; clear hG HO5 HF2
          go_wp2_with fail
          go_roundg (mu L (o1 ++ [t]) p)
          case measure => exact hmu2
          case rel => exact ⟨_,o1 ++ [t],p,_,_,rfl,HG2⟩
        have hPu : Hid (PW L o1 (unt L o1 t :: t :: p)) := HG3.out.1.pw.push hP hu; have HF2 : Hid (fin L (mu L o1 (unt L o1 t :: t :: p)) o1 (unt L o1 t :: t :: p) = R) := by show _ = _; rw [<- fin_push HG3.out.1.pw hu,<- hgk]; exact HF.out
        have hmu2 : mu L o1 (unt L o1 t :: t :: p) < gk := by have := mu_push (x := unt L o1 t) HG3.out.1.pw; omega
        have hux : unt L o1 t <= m := by have := hP.lt ht1 (by omega) (unt_isP hu).1; omega
        generalize unt L o1 t = x at *
        have q1 : decide (0 < x) = true := decide_eq_true (by omega); have HR3 : Hid (w1.ownsRow H0 3 1 (.slice (some ⟨gp,0,none⟩) (p.length + 1) c3) (p.length + 1) (natV (t :: p).reverse)) := HG3.out.1.wk.pl
        go_wp2_with (at_builtin; refine wpList_append_lies _ rfl _ _ 23 rfl H0 3 i0 (.int .i64 0) 1 8 Tryz.underlying23 hi hz0 hz1 hz2 rfl (by decide) _ _ _ rfl (HR3.out.alloc _) ⟨w1.heap.size,0,none⟩ 1 1 [.int .i64 (x : Int)] rfl rfl (one_new _ _ _) (by intro u hu; simp at hu; subst hu; rfl) (by omega) (by unfold maxLen; omega) (by omega) (by simp; omega) (w1.heap.size + 1) (by simp) ?_; intro g4 cap4 w4 hown4 hgrow4 hat4 hlt4; have HO4 : Hid ((w4.cell? ⟨Q,3,none⟩ = some (.slice (some ⟨gp,0,none⟩) (p.length + 1) c3) /\ w4.frozen? ⟨Q,3,none⟩ = false) /\ GO H0 w0 Q B (.slice (some ⟨gT,0,none⟩) n cT) L m n us1 o1 (x :: t :: p) vO1 (.slice (some ⟨g4,0,none⟩) (p.length + 1 + 1) cap4) (w4.setCell ⟨Q,3,none⟩ (.slice (some ⟨g4,0,none⟩) (p.length + 1 + 1) cap4))) := HG3.out.1.push (p := t :: p) hown4 hgrow4 hat4 HG3.out.2 hPu.out hux; clear hown4 hgrow4 hat4 hlt4; refine Hid.out ?_)
        refine Lib.hid ?_; clear k3 f3; obtain ⟨⟨k3,f3⟩,hG⟩ := HO4.out; have HG2 : Aside (fin L (mu L o1 (x :: t :: p)) o1 (x :: t :: p) = R /\ GO H0 w0 Q B (.slice (some ⟨gT,0,none⟩) n cT) L m n us1 o1 (x :: t :: p) vO1 (.slice (some ⟨g4,0,none⟩) (p.length + 1 + 1) cap4) (w4.setCell ⟨Q,3,none⟩ (.slice (some ⟨g4,0,none⟩) (p.length + 1 + 1) cap4))) := ⟨HF2.out,hG⟩; clear hG HO4 HF2
        go_wp2_with fail
        go_roundg (mu L o1 (x :: t :: p))
        case measure => exact hmu2
        case rel => exact ⟨us1,o1,x :: t :: p,vO1,_,rfl,HG2⟩
end Go.Proofs.YtkpapgfbnledpaaGreatDoor
namespace Go.Proofs.YtkpapgfbnledpaaGreatDoor
open Go.ChangeShapes Go.WideShapes Go.ChangeAt Go.RowKit Go.Lib Go.Tm Go.Bw Go.Bn Go.WideMaps Go.Maps Go.ChangeMaps

def IR (w : World) (ad : Option Addr) (xs : List Int) : Prop := 0 < xs.length -> ∃ b o,ad = some ⟨b,o,none⟩ /\ b < w.heap.size /\ ∀ j,j < xs.length -> w.cell? ⟨b,o + j,none⟩ = some (.int .i64 (xs.getD j 0))
theorem IR.below {w w' : World} {ad : Option Addr} {xs : List Int} (h : IR w ad xs) (hb : Below w.heap.size w w') : IR w' ad xs := fun h0 => by
  obtain ⟨b,o,e,hl,hc⟩ := h h0; exact ⟨b,o,e,Nat.lt_of_lt_of_le hl hb.size,fun j hj => (World.cell?_of_block (w' := w') (w := w) (a := ⟨b,o + j,none⟩) (hb.block b hl)).trans (hc j hj)⟩
theorem max_any {ad : Option Addr} {cp : Nat} {xs : List Int} (w : World) (h : IR w ad xs) (hp : 0 < xs.length) (hl : xs.length < 1000000000000000) :
    Calls Tryz.prog 74 #[.slice ad xs.length cp] w fun e w' => ∃ M,e = .returned (.int .i64 M) /\ w' = w /\ (∀ j,j < xs.length -> xs.getD j 0 <= M) /\ ∃ j,j < xs.length /\ xs.getD j 0 = M := by
  generalize hPP : (fun (e : Ending) (w' : World) => ∃ M,e = .returned (.int .i64 M) /\ w' = w /\ (∀ j,j < xs.length -> xs.getD j 0 <= M) /\ ∃ j,j < xs.length /\ xs.getD j 0 = M) = PP
  have HPP : Hid (∀ M,(∀ j,j < xs.length -> xs.getD j 0 <= M) -> (∃ j,j < xs.length /\ xs.getD j 0 = M) -> PP (.returned (.int .i64 M)) w) := fun M h1 h2 => by rw [<- hPP]; exact ⟨M,rfl,rfl,h1,h2⟩
  clear hPP; obtain ⟨b,o,rfl,hbl,hc⟩ := h hp; have HC : Hid (∀ j,j < xs.length -> w.cell? ⟨b,o + j,none⟩ = some (.int .i64 (xs.getD j 0))) := hc; have c0 := hc 0 hp; have HL : Hid (∀ j,j < xs.length -> xs.getD j 0 = xs.getD j 0) := fun j _ => rfl
  clear h hc; obtain ⟨k,hk⟩ : ∃ k,xs.length = k := ⟨_,rfl⟩; rw [hk] at hp hl HPP HC ⊢; clear hk HL; simp only [Nat.add_zero] at c0; have q0 : decide ((k : Int) < 1) = false := decide_eq_false (by omega)
  go_enter Tryz.func74,Tryz.ntmps74
  go_wp2_with fail
  go_loopg [3,4] k (fun gk s3 s4 wr => ∃ (i : Nat) (M : Int),s3 = .int .i64 M /\ s4 = .int .i64 (i : Int) /\ i + gk = k + 1 /\ 1 <= i /\ i <= k /\ Aside (wr = w /\ (∀ j,j < i -> xs.getD j 0 <= M) /\ ∃ j,j < i /\ xs.getD j 0 = M))
  case atStart => exact ⟨1,_,rfl,rfl,by omega,by omega,by omega,rfl,fun j hj => (by obtain rfl : j = 0 := (by omega); simp [List.getD_eq_getElem?_getD]),0,by omega,by simp [List.getD_eq_getElem?_getD]⟩
  case round =>
    obtain ⟨i,M,rfl,rfl,hi,hi1,hik,HJ⟩ := hrel
    by_cases hlt : i < k
    · have hw := HJ.out.1
      have c1 := HC.out i hlt; rw [<- hw] at c1; have HM := HJ.out.2
      generalize hx : xs.getD i 0 = x at c1
      have HX : Hid (xs.getD i 0 = x) := hx; have HMM : Hid ((∀ j,j < i -> xs.getD j 0 <= M) /\ ∃ j,j < i /\ xs.getD j 0 = M) := HM; have HW : Hid (wr = w) := hw; clear HM hw hx HJ; have q1 : (i : Int) < (k : Int) := by omega
      by_cases hMx : M < x
      · go_wp2_with fail
        go_roundg (gk - 1)
        case measure => omega
        case rel => exact ⟨i + 1,x,by first | rfl | rw [show max M x = x by omega],by simp,by omega,by omega,by omega,HW.out,fun j hj => (by
          by_cases e : j = i
          · rw [e,HX.out]; exact Int.le_refl _
          have := HMM.out.1 j (by omega); omega),i,by omega,HX.out⟩
      go_wp2_with fail
      go_roundg (gk - 1)
      case measure => omega
      case rel => exact ⟨i + 1,M,by first | rfl | rw [show max M x = M by omega],by simp,by omega,by omega,by omega,HW.out,fun j hj => (by
        by_cases e : j = i
        · rw [e,HX.out]; omega
        exact HMM.out.1 j (by omega)),by obtain ⟨j,h1,h2⟩ := HMM.out.2; exact ⟨j,by omega,h2⟩⟩
    have hk : i = k := by omega
    have HE : Hid (PP (.returned (.int .i64 M)) wr) := by
      have h7 := HJ.out; rw [hk] at h7
      show PP _ _
      rw [h7.1]; exact HPP.out M h7.2.1 h7.2.2
    go_wp2_with fail
    first | exact HE.out | (go_ret; exact HE.out)
end Go.Proofs.YtkpapgfbnledpaaGreatDoor
namespace Go.Proofs.YtkpapgfbnledpaaGreatDoor
open Go.ChangeShapes Go.WideShapes Go.ChangeAt Go.RowKit Go.Lib Go.Tm Go.Bw Go.Bn Go.WideMaps Go.Maps Go.ChangeMaps

theorem IR.nil (w : World) (ad : Option Addr) : IR w ad [] := fun h => absurd h (by simp)
theorem lawI : Keyed Tryz.prog 3 := int_keyed Tryz.underlying3
theorem key_int (x : Int) (h : I64 x) : ∃ kl,keyOf Tryz.prog 3 (.int .i64 x) = some kl := ⟨_,keyOf_int_mk Tryz.underlying3 (wf_i h)⟩
def IMP (W : World) (M n : Nat) (f : Int -> Option Int) : Prop := ∃ D : DataW Unit,W.ownsMap Tryz.prog 3 (plainElem Tryz.prog 3) M n D /\ FM 3 (Value.int .i64) I64 D f
theorem IMP.made {W : World} {M : Nat} (h : W.heap[M]? = some (Obj.map #[] 0)) : IMP W M 0 (fun _ => none) := ⟨_,made0 h,FM.nil (fun x hx => key_int x hx)⟩
theorem IMP.keep {W W' : World} {M n : Nat} {f : Int -> Option Int} (h : IMP W M n f) (hb : W'.heap[M]? = W.heap[M]?) : IMP W' M n f := by
  obtain ⟨D,⟨es,clock,h1,h2⟩,hF⟩ := h; exact ⟨D,⟨es,clock,hb.trans h1,h2⟩,hF⟩
theorem IMP.lt {W : World} {M n : Nat} {f : Int -> Option Int} (h : IMP W M n f) : M < W.heap.size := by
  obtain ⟨D,hm,hF⟩ := h; exact hm.lt
theorem IMP.look {W : World} {M n : Nat} {f : Int -> Option Int} (h : IMP W M n f) (x : Int) (hx : I64 x) : (Instr.lookup 110 (.map (some M)) (.int .i64 x) false).run Tryz.prog W = .ok (.int .i64 ((f x).getD 0)) W := by
  obtain ⟨D,hm,hF⟩ := h; obtain ⟨kl,h1,h2,h3⟩ := hF.2 _ hx; obtain ⟨vv,pss,hrun,hR⟩ := hm.lookup lawI Tryz.underlying110 (zeroI W) (plainElem_int Tryz.underlying3 (by decide)) h1; cases hf : f x with
  | none =>
    rw [hf] at h2; have hz : D.atKey kl (.lit (.int .i64 0)) = .lit (.int .i64 0) := atKey_of_not_has h2 _; rw [hz] at hR; obtain ⟨cc,rfl,ecc,-⟩ := plainElem_int_inv Tryz.underlying3 hR; have hcc : cc = 0 := by have := ecc.symm; simp at this; exact this.1
    rw [hrun,hcc]
    rfl
  | some i =>
    rw [h3 i hf] at hR; obtain ⟨cc,rfl,ecc,-⟩ := plainElem_int_inv Tryz.underlying3 hR; have hcc : cc = i := by have := ecc.symm; simp at this; exact this.1
    rw [hrun,hcc]
    rfl
theorem IMP.put {W : World} {M n : Nat} {f : Int -> Option Int} (h : IMP W M n f) (hn : n <= 1000000000000000000) (x v : Int) (hx : I64 x) (hv : I64 v) : ∃ w',(Instr.mapUpdate 110 (.map (some M)) (.int .i64 x) (.int .i64 v)).run Tryz.prog W = .ok () w' /\ IMP w' M (n + 1) (fun y => if y = x then some v else f y) /\ W.grownBy w' (some M) := by
  obtain ⟨D,hm,hF⟩ := h; obtain ⟨kl,h1,h2,h3⟩ := hF.2 _ hx; obtain ⟨w',hrun,hm',hg⟩ := hm.update lawI Tryz.underlying110 (by unfold maxLen; omega) h1 (plainElem_int Tryz.underlying3 (wf_i hv)); exact ⟨w',hrun,⟨_,hm',hF.put lawI (fun x y e => by injection e) h1 v⟩,hg⟩
end Go.Proofs.YtkpapgfbnledpaaGreatDoor
