import Derived.Test.YtkpapgfbnledpaaGreatDoorTmQ0
import Derived.Test.YtkpapgfbnledpaaGreatDoorTmT
import Derived.Test.YtkpapgfbnledpaaGreatDoorTmPn
namespace Go.Proofs.YtkpapgfbnledpaaGreatDoor
open Go.ChangeShapes Go.WideShapes Go.ChangeAt Go.RowKit Go.Lib Go.Tm Go.Bw Go.Bn Go.WideMaps Go.Maps Go.ChangeMaps

theorem rfE_inv {L : List Nd} {n : Nd} (h : rfE L n = 0) : (1 <= n.op /\ n.op <= 33) /\ (0 <= n.w /\ n.w <= 64) /\ hp L n = true /\ br n = true /\ sf n.op (wd L n.a) (wd L n.b) (wd L n.c) = true /\ wf n.op n.w n.num (wd L n.a) (wd L n.b) = true /\ (n.op = 4 -> nf L n = true) := by
  unfold rfE at h
  by_cases h1 : n.op < 1 ∨ 33 < n.op
  · rw [if_pos h1] at h; omega
  rw [if_neg h1] at h
  by_cases h2 : n.w < 0 ∨ 64 < n.w
  · rw [if_pos h2] at h; omega
  rw [if_neg h2] at h
  by_cases h3 : hp L n = false
  · rw [if_pos h3] at h; omega
  rw [if_neg h3] at h
  by_cases h4 : br n = false
  · rw [if_pos h4] at h; omega
  rw [if_neg h4] at h
  by_cases h5 : sf n.op (wd L n.a) (wd L n.b) (wd L n.c) = false
  · rw [if_pos h5] at h; omega
  rw [if_neg h5] at h
  by_cases h6 : wf n.op n.w n.num (wd L n.a) (wd L n.b) = false
  · rw [if_pos h6] at h; omega
  rw [if_neg h6] at h; refine ⟨by omega,by omega,by simpa using h3,by simpa using h4,by simpa using h5,by simpa using h6,fun e => ?_⟩
  by_cases h7 : n.op = 4 /\ nf L n = false
  · rw [if_pos h7] at h; omega
  simpa using fun e2 => h7 ⟨e,e2⟩
theorem isT_snoc {L : List Nd} {n : Nd} {t : Int} (h : isT L t = true) : isT (L ++ [n]) t = true := by
  have h1 : 1 <= t /\ t <= (L.length : Int) := of_decide_eq_true h; exact decide_eq_true (by simp; omega)
theorem getD_snoc {L : List Nd} {n : Nd} {i : Nat} (h : i < L.length) : (L ++ [n]).getD i z0 = L.getD i z0 := by
  rw [List.getD_eq_getElem?_getD,List.getD_eq_getElem?_getD,List.getElem?_append_left h]
theorem getD_last (L : List Nd) (n : Nd) : (L ++ [n]).getD L.length z0 = n := by
  rw [List.getD_eq_getElem?_getD,List.getElem?_append_right (Nat.le_refl _)]
  simp
theorem wd_snoc {L : List Nd} {n : Nd} {t : Int} (h : isT L t = true ∨ t = 0) : wd (L ++ [n]) t = wd L t := by
  rcases h with h | h
  · have h1 : 1 <= t /\ t <= (L.length : Int) := of_decide_eq_true h
    unfold wd; rw [if_pos h,if_pos (isT_snoc h),getD_snoc (by omega)]
  subst h; rw [wd_none (isT_zero _),wd_none (isT_zero _)]
theorem br_parts {n : Nd} (h : br n = true) : (1 <= pt n.op ∨ n.a = 0) /\ (2 <= pt n.op ∨ n.b = 0) /\ (3 <= pt n.op ∨ n.c = 0) := by
  unfold br at h
  simp at h
  exact ⟨h.1,h.2.1,h.2.2.1⟩
theorem parts_or {L : List Nd} {n : Nd} (hP : hp L n = true) (hB : br n = true) : (isT L n.a = true ∨ n.a = 0) /\ (isT L n.b = true ∨ n.b = 0) /\ (isT L n.c = true ∨ n.c = 0) := by
  obtain ⟨h1,h2,h3⟩ := br_parts hB; refine ⟨?_,?_,?_⟩
  · rcases h1 with e | e
    · exact Or.inl (hp_a hP e)
    exact Or.inr e
  · rcases h2 with e | e
    · exact Or.inl (hp_b hP e)
    exact Or.inr e
  rcases h3 with e | e
  · exact Or.inl (hp_c hP e)
  exact Or.inr e
theorem rfE_snoc {L : List Nd} {n : Nd} (h : rfE L n = 0) : rfE (L ++ [n]) n = 0 := by
  obtain ⟨h1,h2,h3,h4,h5,h6,h7⟩ := rfE_inv h; obtain ⟨p1,p2,p3⟩ := parts_or h3 h4; have e1 := wd_snoc (n := n) p1; have e2 := wd_snoc (n := n) p2; have e3 := wd_snoc (n := n) p3; have hP : hp (L ++ [n]) n = true := by
    unfold hp at h3 ⊢
    simp at h3 ⊢
    exact ⟨h3.1.imp id isT_snoc,h3.2.1.imp id isT_snoc,h3.2.2.imp id isT_snoc⟩
  unfold rfE; rw [if_neg (by omega),if_neg (by omega),if_neg (by simp [hP]),if_neg (by simp [h4]),e1,e2,e3,if_neg (by simp [h5]),if_neg (by simp [h6]),if_neg]; rintro ⟨e,e4⟩; have hn := h7 e; have hv := varF_var e hn n.name; unfold varF at hv; rw [if_pos rfl] at hv; unfold nf at e4 hn; rw [<- hv] at e4
  simp at e4 hn
  exact absurd hn.1 (by simp [e4])
structure ON (lim : Int) (L : List Nd) : Prop where
  un : ∀ i,i < L.length -> pos (L.getD i z0) L = some i
  ah : ∀ i,i < L.length -> (L.getD i z0).a <= i /\ (L.getD i z0).b <= i /\ (L.getD i z0).c <= i
  li : 0 < lim -> (L.length : Int) <= lim
theorem ON.nil (lim : Int) : ON lim [] := ⟨fun i h => by simp at h,fun i h => by simp at h,fun h => by simp; omega⟩
theorem isT_le {L : List Nd} {t : Int} (h : isT L t = true ∨ t = 0) : t <= (L.length : Int) := by
  rcases h with h | h
  · exact (of_decide_eq_true h : 1 <= t /\ t <= (L.length : Int)).2
  omega
theorem ON.snoc {lim : Int} {L : List Nd} {n : Nd} (h : ON lim L) (hr : rfE L n = 0) (hp : pos n L = none) (hf : ¬ (0 < lim /\ lim <= (L.length : Int))) : ON lim (L ++ [n]) := by
  obtain ⟨h1,h2,h3,h4,h5,h6,h7⟩ := rfE_inv hr; obtain ⟨p1,p2,p3⟩ := parts_or h3 h4; refine ⟨fun i hi => ?_,fun i hi => ?_,fun h0 => ?_⟩
  · by_cases e : i < L.length
    · rw [getD_snoc e,pos_snoc,h.un i e]
    have e2 : i = L.length := by simp at hi; omega
    subst e2; rw [getD_last,pos_snoc,hp]
    simp
  · by_cases e : i < L.length
    · rw [getD_snoc e]
      exact h.ah i e
    have e2 : i = L.length := by simp at hi; omega
    subst e2; rw [getD_last]; exact ⟨isT_le p1,isT_le p2,isT_le p3⟩
  simp
  omega
theorem nodeOf_snoc {L : List Nd} {o : OPR} {n : Nd} (hn : nodeOf L o = some n) (hr : rfE L n = 0) : nodeOf (L ++ [n]) o = some n := by
  obtain ⟨h1,h2,h3,h4,h5,h6,h7⟩ := rfE_inv hr; obtain ⟨p1,p2,p3⟩ := parts_or h3 h4; have z1 : wd (L ++ [n]) 0 = wd L 0 := wd_snoc (Or.inr rfl); have e1 := wd_snoc (n := n) p1; have e2 := wd_snoc (n := n) p2; have e3 := wd_snoc (n := n) p3; unfold nodeOf at hn ⊢
  by_cases k1 : o.k = 1
  · rw [if_pos k1] at hn ⊢; exact hn
  rw [if_neg k1] at hn ⊢
  by_cases k2 : o.k = 2
  · rw [if_pos k2] at hn ⊢; exact hn
  rw [if_neg k2] at hn ⊢
  by_cases k3 : o.k = 3
  · rw [if_pos k3] at hn ⊢; exact hn
  rw [if_neg k3] at hn ⊢
  by_cases k4 : o.k = 4
  · rw [if_pos k4] at hn ⊢; exact hn
  rw [if_neg k4] at hn ⊢
  by_cases k5 : o.k = 5
  · rw [if_pos k5] at hn ⊢
    by_cases q : o.o = 5 ∨ o.o = 15 ∨ o.o = 16
    · rw [if_pos q] at hn ⊢
      rw [<- hn]; have ea : n.a = o.a := by injection hn with hn; rw [<- hn]
      rw [ea] at e1; rw [e1,z1]
    rw [if_neg q] at hn; cases hn
  rw [if_neg k5] at hn ⊢
  by_cases k6 : o.k = 6
  · rw [if_pos k6] at hn ⊢
    by_cases q : pt o.o = 2
    · rw [if_pos q] at hn ⊢
      rw [<- hn]; have ea : n.a = o.a := by injection hn with hn; rw [<- hn]
      have eb : n.b = o.b := by injection hn with hn; rw [<- hn]
      rw [ea] at e1; rw [eb] at e2; rw [e1,e2]
    rw [if_neg q] at hn; cases hn
  rw [if_neg k6] at hn ⊢
  by_cases k7 : o.k = 7
  · rw [if_pos k7] at hn ⊢
    rw [<- hn]; have ea : n.a = o.a := by injection hn with hn; rw [<- hn]
    have eb : n.b = o.b := by injection hn with hn; rw [<- hn]
    rw [ea] at e1; rw [eb] at e2; rw [e1,e2]
  rw [if_neg k7] at hn ⊢
  by_cases k8 : o.k = 8
  · rw [if_pos k8] at hn ⊢; exact hn
  rw [if_neg k8] at hn ⊢; exact hn
theorem once {lim : Int} {L : List Nd} (o : OPR) (h : ON lim L) (hk : 1 <= o.k /\ o.k <= 9) :
    ON lim (res lim L o).1 /\ ((res lim L o).2.2 ≠ 0 -> (res lim L o).2.1 = 0 /\ (res lim L o).1 = L) /\
    ((res lim L o).2.2 = 0 -> res lim (res lim L o).1 o = ((res lim L o).1,(res lim L o).2.1,0) /\ 1 <= (res lim L o).2.1 /\ (res lim L o).2.1 <= ((res lim L o).1.length : Int)) := by
  cases hn : nodeOf L o with
  | none =>
    have e : res lim L o = (L,0,73) := by unfold res; rw [hn]; dsimp only; rw [if_pos hk]
    rw [e]; exact ⟨h,fun _ => ⟨rfl,rfl⟩,fun e => by cases e⟩
  | some n =>
    have e : res lim L o = mk lim L n := by unfold res; rw [hn]
    by_cases hr : rfE L n = 0
    · cases hp : pos n L with
      | some i =>
        have e2 : mk lim L n = (L,(i : Int) + 1,0) := by unfold mk; rw [if_neg (by omega),hp]
        rw [e2] at e; obtain ⟨hi,_⟩ := pos_lt hp; rw [e]; exact ⟨h,fun e => absurd rfl e,fun _ => ⟨e,by dsimp only; omega,by dsimp only; omega⟩⟩
      | none =>
        by_cases hf : 0 < lim /\ lim <= (L.length : Int)
        · have e2 : mk lim L n = (L,0,4) := by unfold mk; rw [if_neg (by omega),hp]; exact if_pos hf
          rw [e,e2]; exact ⟨h,fun _ => ⟨rfl,rfl⟩,fun e => by cases e⟩
        have e2 : mk lim L n = (L ++ [n],(L.length : Int) + 1,0) := by unfold mk; rw [if_neg (by omega),hp]; exact if_neg hf
        have hp2 : pos n (L ++ [n]) = some L.length := by rw [pos_snoc,hp]; simp
        have e3 : res lim (L ++ [n]) o = (L ++ [n],(L.length : Int) + 1,0) := by
          unfold res; rw [nodeOf_snoc hn hr]; unfold mk; have hr2 := rfE_snoc hr
          dsimp only
          rw [if_neg (by omega),hp2]
        rw [e,e2]; exact ⟨h.snoc hr hp hf,fun e => absurd rfl e,fun _ => ⟨e3,by dsimp only; omega,by simp⟩⟩
    have e2 : mk lim L n = (L,0,rfE L n) := by unfold mk; rw [if_pos hr]
    rw [e,e2]; exact ⟨h,fun _ => ⟨rfl,rfl⟩,fun e => absurd e hr⟩
end Go.Proofs.YtkpapgfbnledpaaGreatDoor
namespace Go.Proofs.YtkpapgfbnledpaaGreatDoor
open Go.ChangeShapes Go.WideShapes Go.ChangeAt Go.RowKit Go.Lib Go.Tm Go.Bw Go.Bn Go.WideMaps Go.Maps Go.ChangeMaps

structure SHP (n : Nd) : Prop where
  op : 1 <= n.op /\ n.op <= 33
  w : 0 <= n.w /\ n.w <= 64
  a : (1 <= pt n.op -> 0 < n.a) /\ (pt n.op < 1 -> n.a = 0)
  b : (2 <= pt n.op -> 0 < n.b) /\ (pt n.op < 2 -> n.b = 0)
  c : (3 <= pt n.op -> 0 < n.c) /\ (pt n.op < 3 -> n.c = 0)
  num : n.op = 31 -> n.num <= 64
  name : n.name.size <= 24
def PARS (L : List Nd) : Prop := PAR L /\ ∀ n ∈ L,SHP n
theorem par_nil : PARS [] := ⟨fun i h => by simp at h,fun n h => by cases h⟩
theorem isT_lo {L : List Nd} {t : Int} (h : isT L t = true ∨ t = 0) : 0 <= t := by
  rcases h with h | h
  · have := (of_decide_eq_true h : 1 <= t /\ t <= (L.length : Int)).1; omega
  omega
theorem isT_ps {L : List Nd} {t : Int} (h : isT L t = true) : 0 < t := by
  have := (of_decide_eq_true h : 1 <= t /\ t <= (L.length : Int)).1; omega
theorem wd_le {L : List Nd} (h : ∀ n ∈ L,SHP n) (t : Int) : wd L t <= 64 := by
  unfold wd
  split
  · next ht =>
    have h1 : 1 <= t /\ t <= (L.length : Int) := of_decide_eq_true ht; exact (h _ (getD_mem' (by omega))).w.2
  omega
theorem shp_new {L : List Nd} {n : Nd} (h : ∀ n ∈ L,SHP n) (hr : rfE L n = 0) : SHP n := by
  obtain ⟨h1,h2,h3,h4,h5,h6,h7⟩ := rfE_inv hr; have hp := pt_lo n.op; have hw := wd_le h n.a; unfold br at h4; simp only [Bool.and_eq_true,Bool.or_eq_true,decide_eq_true_eq] at h4; obtain ⟨q1,q2,q3,q4,q5⟩ := h4; refine ⟨h1,h2,⟨fun e => isT_ps (hp_a h3 e),fun e => by omega⟩,⟨fun e => isT_ps (hp_b h3 e),fun e => by omega⟩,⟨fun e => isT_ps (hp_c h3 e),fun e => by omega⟩,fun e => ?_,?_⟩
  · unfold wf at h6
    rw [if_neg (by omega),if_neg (by omega),if_neg (by omega),if_neg (by omega),if_pos e] at h6; have := of_decide_eq_true h6
    omega
  rcases q5 with e | e
  · have h8 := h7 e
    unfold nf at h8; have h9 : nmB n.name = true := by
      rw [Bool.and_eq_true] at h8; exact h8.1
    by_cases hs : 1 <= n.name.size /\ n.name.size <= 24
    · exact hs.2
    rw [nm_size _ hs] at h9; cases h9
  omega
theorem par_snoc {L : List Nd} {n : Nd} (h : PARS L) (hr : rfE L n = 0) : PARS (L ++ [n]) := by
  refine ⟨?_,fun x hx => ?_⟩
  · obtain ⟨h1,h2,h3,h4,h5,h6,h7⟩ := rfE_inv hr
    obtain ⟨p1,p2,p3⟩ := parts_or h3 h4; intro i hi
    by_cases e : i < L.length
    · rw [getD_snoc e]
      exact h.1 i e
    have e2 : i = L.length := by simp at hi; omega
    subst e2; rw [getD_last]; exact ⟨⟨isT_lo p1,isT_le p1⟩,⟨isT_lo p2,isT_le p2⟩,⟨isT_lo p3,isT_le p3⟩⟩
  rcases List.mem_append.1 hx with hx | hx
  · exact h.2 x hx
  obtain rfl := List.mem_singleton.1 hx; exact shp_new h.2 hr
end Go.Proofs.YtkpapgfbnledpaaGreatDoor
