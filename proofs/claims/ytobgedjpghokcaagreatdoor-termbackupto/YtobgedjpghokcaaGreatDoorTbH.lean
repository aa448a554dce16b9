import Derived.Test.YtobgedjpghokcaaGreatDoorTbG
import Derived.Test.YtobgedjpghokcaaGreatDoorDxC
import Derived.Test.YtobgedjpghokcaaGreatDoorTmPi
namespace Go.Proofs.YtobgedjpghokcaaGreatDoor
open Go.Lib Go.Tm Go.Bw Go.Bn Go.Bd

/-! ### a constant's text read back -/
theorem dv_dg : ∀ d : Fin 16, dv 16 (Bd.dg d.val) = some d.val := by decide +kernel
theorem pU_digs : ∀ (n x : Nat) (out : List UInt8), 1 ≤ n → x < 16 ^ n → x < 18446744073709551616 → pU 16 0 (digs 16 n x out) = pU 16 x out
  | 0, x, out, h, _, _ => by omega
  | n + 1, x, out, _, hx, hl => by
    have hd : dv 16 (Bd.dg (x % 16)) = some (x % 16) := dv_dg ⟨x % 16, Nat.mod_lt _ (by omega)⟩
    by_cases h0 : x / 16 = 0
    · rw [digs_end _ _ _ _ h0, pU_more 16 0 (x % 16) _ _ hd (by omega)]
      congr 1
      omega
    · have hp : 16 ^ (n + 1) = 16 ^ n * 16 := Nat.pow_succ ..
      have hn : 1 ≤ n := by
        rcases Nat.eq_zero_or_pos n with e | e
        · subst e; simp at hx; omega
        · exact e
      rw [digs_more _ _ _ _ h0, pU_digs n (x / 16) _ hn (by omega) (by omega), pU_more 16 (x / 16) (x % 16) _ _ hd (by omega)]
      congr 1
      omega
theorem digs_ne : ∀ (n x : Nat) (out : List UInt8), 1 ≤ n → digs 16 n x out ≠ []
  | 0, x, out, h => by omega
  | n + 1, x, out, _ => by
    by_cases h0 : x / 16 = 0
    · rw [digs_end _ _ _ _ h0]; simp
    · rw [digs_more _ _ _ _ h0]
      rcases Nat.eq_zero_or_pos n with e | e
      · subst e; simp [digs]
      · exact digs_ne n _ _ e
theorem dg_sign : ∀ d : Fin 16, Bd.dg d.val ≠ 32 ∧ Bd.dg d.val ≠ 10 := by decide +kernel
theorem digs_sign : ∀ (n x : Nat) (out : List UInt8), (∀ c ∈ out, c ≠ 32 ∧ c ≠ 10) → ∀ c ∈ digs 16 n x out, c ≠ 32 ∧ c ≠ 10
  | 0, x, out, h, c, hc => h c hc
  | n + 1, x, out, h, c, hc => by
    have h2 : ∀ c ∈ Bd.dg (x % 16) :: out, c ≠ 32 ∧ c ≠ 10 := fun c hc => by
      rcases List.mem_cons.1 hc with e | e
      · rw [e]; exact dg_sign ⟨x % 16, Nat.mod_lt _ (by omega)⟩
      · exact h c e
    by_cases h0 : x / 16 = 0
    · rw [digs_end _ _ _ _ h0] at hc
      exact h2 c hc
    · rw [digs_more _ _ _ _ h0] at hc
      exact digs_sign n _ _ h2 c hc
theorem pre_hex (l : List UInt8) : Lib.hasPrefix (48 :: 120 :: l) [48, 120] = true := rfl
theorem trim_hex (l : List UInt8) : Lib.trimPrefix (48 :: 120 :: l) [48, 120] = l := by
  unfold Lib.trimPrefix
  rw [pre_hex]
  rfl
theorem numO_tx {X : Nat} (h : X < 18446744073709551616) : numO (txB X) = some X := by
  unfold txB
  by_cases h1 : X < 1000
  · rw [if_pos h1]
    exact numO_dec h
  · rw [if_neg h1]
    unfold numO
    rw [pre_hex, if_pos rfl, trim_hex]
    unfold pV
    rw [if_neg (digs_ne _ _ _ (by omega)), pU_digs 16 X [] (by omega) (Nat.lt_of_lt_of_eq h (by decide)) h]
    rfl
theorem tx_sign (X : Nat) : txB X ≠ [] ∧ ∀ c ∈ txB X, c ≠ 32 ∧ c ≠ 10 := by
  unfold txB
  by_cases h1 : X < 1000
  · rw [if_pos h1]
    exact ⟨dec_ne _, fun c hc => ⟨(dec_word X).2 c hc, dec_line X c hc⟩⟩
  · rw [if_neg h1]
    refine ⟨by simp, fun c hc => ?_⟩
    rcases List.mem_cons.1 hc with e | hc
    · rw [e]; decide
    · rcases List.mem_cons.1 hc with e | hc
      · rw [e]; decide
      · exact digs_sign 16 X [] (fun c hc => by cases hc) c hc
/-! ### a node's line -/
theorem itoa_dec {x : Int} (h : 0 ≤ x) : Lib.itoa x = Lib.decDigits x.toNat := by
  obtain ⟨k, rfl⟩ : ∃ k : Nat, x = (k : Int) := ⟨x.toNat, by omega⟩
  rw [Lib.itoa_nonneg]
  rfl
theorem joinW_cons (u : List UInt8) (us : List (List UInt8)) : joinW (u :: us) = 32 :: u ++ joinW us := rfl
set_option maxHeartbeats 4000000 in
/-- what is printed of a node, out of its words -/
theorem ndT_words (f : Int → Int) (li : Int) (n : Nd) (hs : SHP n) (hn : n.ok) (hf : ∀ p, p = n.a ∨ p = n.b ∨ p = n.c → 0 ≤ f p ∧ (0 < p → 0 < f p)) (hl : 0 ≤ li) :
    ndT f li n = Lib.decDigits li.toNat ++ joinW (wordB n.op.toNat :: fwN (txB n.num.toNat) (ren f n)) ++ [10] := by
  obtain ⟨op, w, a, b, c, num, nm⟩ := n
  obtain ⟨s1, s2, s3, s4, s5, s6, s7⟩ := hs
  have hU := hn.num
  unfold U64 at hU
  dsimp only at s1 s2 s3 s4 s5 s6 s7 hf hU
  have fa := hf a (Or.inl rfl)
  have fb := hf b (Or.inr (Or.inl rfl))
  have fc := hf c (Or.inr (Or.inr rfl))
  have iw := itoa_dec s2.1
  have il := itoa_dec hl
  have inu := itoa_dec hU.1
  have ia := itoa_dec fa.1
  have ib := itoa_dec fb.1
  have ic := itoa_dec fc.1
  have pp : ∀ p : Int, 0 < p → prtT f p = 32 :: Lib.itoa (f p) := fun p h => if_pos h
  have pz : ∀ p : Int, p = 0 → prtT f p = [] := fun p h => if_neg (by omega)
  unfold ndT fwN ren
  dsimp only
  rw [il]
  by_cases o1 : op ≤ 2
  · have hp : pt op = 0 := by unfold pt; rw [if_pos (by omega)]
    rw [if_pos o1, if_neg (by omega), pz a (s3.2 (by omega)), pz b (s4.2 (by omega)), pz c (s5.2 (by omega)), tail0 _ (by dsimp only; omega)]
    simp [joinW]
  rw [if_neg o1]
  by_cases o3 : op = 3
  · have hp : pt op = 0 := by unfold pt; rw [if_pos (by omega)]
    rw [if_pos o3, if_neg (by omega), pz a (s3.2 (by omega)), pz b (s4.2 (by omega)), pz c (s5.2 (by omega)), tail3 _ o3, iw]
    simp [joinW]
  rw [if_neg o3]
  by_cases o4 : op = 4
  · have hp : pt op = 0 := by unfold pt; rw [if_pos (by omega)]
    rw [if_pos o4, if_pos o4, pz a (s3.2 (by omega)), pz b (s4.2 (by omega)), pz c (s5.2 (by omega)), tailW _ (Or.inl o4), iw]
    simp [joinW]
  rw [if_neg o4, if_neg o4]
  by_cases o31 : op = 31
  · have hp : pt op = 1 := by unfold pt; rw [if_neg (by omega), if_pos (by omega)]
    rw [if_pos o31, pp a (s3.1 (by omega)), pz b (s4.2 (by omega)), pz c (s5.2 (by omega)), tail31 _ o31, iw, inu, ia]
    simp [joinW]
  rw [if_neg o31]
  by_cases o32 : 32 ≤ op
  · have hp : pt op = 1 := by unfold pt; rw [if_neg (by omega), if_pos (by omega)]
    rw [if_pos o32, pp a (s3.1 (by omega)), pz b (s4.2 (by omega)), pz c (s5.2 (by omega)), tailW _ (by dsimp only; omega), iw, ia]
    simp [joinW]
  rw [if_neg o32, tail0 _ (by dsimp only; omega)]
  have hp := pt_lo op
  by_cases p1 : pt op = 1
  · rw [if_pos p1, pp a (s3.1 (by omega)), pz b (s4.2 (by omega)), pz c (s5.2 (by omega)), ia]
    simp [joinW]
  rw [if_neg p1]
  have hpz : pt op ≠ 0 := by unfold pt; rw [if_neg (by omega)]; split; · omega
                             split <;> omega
  by_cases p2 : pt op = 2
  · rw [if_pos p2, pp a (s3.1 (by omega)), pp b (s4.1 (by omega)), pz c (s5.2 (by omega)), ia, ib]
    simp [joinW]
  rw [if_neg p2, pp a (s3.1 (by omega)), pp b (s4.1 (by omega)), pp c (s5.1 (by omega)), ia, ib, ic]
  simp [joinW]
/-- no word of a node is empty or has a blank or an end in it -/
def OKw (u : List UInt8) : Prop := u ≠ [] ∧ ∀ c ∈ u, c ≠ 32 ∧ c ≠ 10
theorem okw_dec (u : Nat) : OKw (Lib.decDigits u) := ⟨dec_ne _, fun c hc => ⟨(dec_word u).2 c hc, dec_line u c hc⟩⟩
theorem okw_word {k : Nat} (h1 : 1 ≤ k) (h2 : k ≤ 33) : OKw (wordB k) := by
  obtain ⟨a, b, c⟩ := wordB_word ⟨k, by omega⟩ h1
  exact ⟨a, fun x hx => ⟨b x hx, c x hx⟩⟩
theorem okw_name {s : ByteArray} (h : nmB s = true) : OKw s.data.toList := by
  have hsz : 1 ≤ s.size ∧ s.size ≤ 24 := by
    by_cases hs : 1 ≤ s.size ∧ s.size ≤ 24
    · exact hs
    · rw [nm_size _ hs] at h; cases h
  have hg : ∀ i, i < s.size → goodAt s i = true := fun i hi => by
    cases e : goodAt s i with
    | true => rfl
    | false => rw [nm_bad s i hi e] at h; cases h
  have hlen : s.data.toList.length = s.size := by rw [Array.length_toList]; rfl
  refine ⟨fun e => by rw [e] at hlen; simp at hlen; omega, fun c hc => ?_⟩
  obtain ⟨i, hi, e⟩ := List.getElem_of_mem hc
  have h7 := hg i (by omega)
  rw [good_at s i (by omega)] at h7
  have e2 : s[i]'(by omega) = c := by
    rw [← e]
    first | rfl | exact (Array.getElem_toList _).symm
  rw [e2] at h7
  unfold letB digB at h7
  simp only [Bool.or_eq_true, Bool.and_eq_true, decide_eq_true_eq] at h7
  refine ⟨fun e => ?_, fun e => ?_⟩
  · rw [e] at h7; simp at h7
  · rw [e] at h7; simp at h7
theorem okw_fw {n : Nd} (h : n.op = 4 → nmB n.name = true) : ∀ u ∈ fwN (txB n.num.toNat) n, OKw u := by
  have ht : OKw (txB n.num.toNat) := tx_sign _
  intro u hu
  unfold fwN at hu
  repeat' split at hu
  all_goals simp only [List.mem_cons, List.not_mem_nil, or_false] at hu
  all_goals first
    | exact absurd hu id
    | (rcases hu with rfl | rfl | rfl <;> first | exact okw_dec _ | exact ht | exact okw_name (h (by assumption)))
    | (rcases hu with rfl | rfl <;> first | exact okw_dec _ | exact ht | exact okw_name (h (by assumption)))
    | (subst hu; first | exact okw_dec _ | exact ht)
theorem join_sign : ∀ {us : List (List UInt8)}, (∀ u ∈ us, OKw u) → ∀ c ∈ joinW us, c ≠ 10
  | [], _, c, hc => by cases hc
  | u :: us, h, c, hc => by
    rw [joinW_cons, List.cons_append] at hc
    rcases List.mem_cons.1 hc with e | hc
    · rw [e]; decide
    · rcases List.mem_append.1 hc with hc | hc
      · exact ((h u (List.mem_cons_self ..)).2 c hc).2
      · exact join_sign (fun x hx => h x (List.mem_cons_of_mem _ hx)) c hc
end Go.Proofs.YtobgedjpghokcaaGreatDoor
