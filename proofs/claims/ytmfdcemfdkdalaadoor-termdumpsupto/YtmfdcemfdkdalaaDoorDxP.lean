import Derived.Test.YtmfdcemfdkdalaaDoorDxE
namespace Go.Proofs.YtmfdcemfdkdalaaDoor
open Go.ChangeShapes Go.WideShapes Go.ChangeAt Go.RowKit Go.Lib Go.Tm Go.Bw Go.Bn Go.WideMaps Go.Maps Go.ChangeMaps

def nth3 (n : Nd) (p : Nat) : Int := if p = 0 then n.a else if p = 1 then n.b else n.c
/-- how many parts stand ahead of the field k -/
def pcs (op : Int) (k : Nat) : Nat := ((flB op).take k).countP (fun c => c == 112)
def fpc (f : Int → Int) (n : Nd) (c : UInt8) (p : Nat) : List UInt8 := if c = 112 then 32 :: Lib.itoa (f (nth3 n p)) else if c = 110 then 32 :: txB n.num.toNat else if c = 119 then 32 :: Lib.itoa n.w else 32 :: n.name.data.toList
def ftx (f : Int → Int) (n : Nd) : Nat → List UInt8
  | 0 => []
  | k + 1 => ftx f n k ++ fpc f n ((flB n.op).getD k 0) (pcs n.op k)
def nmT (n : Nd) : List UInt8 := if n.op = 4 then 32 :: n.name.data.toList else []
theorem prt_pos (f : Int → Int) {p : Int} (h : 0 < p) : prtT f p = 32 :: Lib.itoa (f p) := if_pos h
theorem prt_zero (f : Int → Int) {p : Int} (h : p = 0) : prtT f p = [] := if_neg (by omega)
theorem ftx_all (f : Int → Int) (n : Nd) (hs : SHP n) (hn : n.ok) : ftx f n (flB n.op).length = nmT n ++ prtT f n.a ++ prtT f n.b ++ prtT f n.c ++ tailT n := by
  obtain ⟨h1, h2⟩ := hs.op
  have hnu : 0 ≤ n.num := hn.num.1
  by_cases q2 : n.op ≤ 2
  · have e : flB n.op = [] := by unfold flB; rw [if_pos q2]
    have hp : pt n.op = 0 := by unfold pt; rw [if_pos (by omega)]
    rw [prt_zero f (hs.a.2 (by omega)), prt_zero f (hs.b.2 (by omega)), prt_zero f (hs.c.2 (by omega)), tail0 n (by omega), e]
    unfold nmT
    rw [if_neg (by omega)]
    rfl
  by_cases q3 : n.op = 3
  · have e : flB n.op = [119, 110] := by rw [q3]; rfl
    have hp : pt n.op = 0 := by unfold pt; rw [if_pos (by omega)]
    rw [prt_zero f (hs.a.2 (by omega)), prt_zero f (hs.b.2 (by omega)), prt_zero f (hs.c.2 (by omega)), tail3 n q3]
    unfold nmT
    rw [if_neg (by omega)]
    simp [ftx, e, fpc]
  by_cases q4 : n.op = 4
  · have e : flB n.op = [115, 119] := by rw [q4]; rfl
    have hp : pt n.op = 0 := by unfold pt; rw [if_pos (by omega)]
    rw [prt_zero f (hs.a.2 (by omega)), prt_zero f (hs.b.2 (by omega)), prt_zero f (hs.c.2 (by omega)), tailW n (by omega)]
    unfold nmT
    rw [if_pos q4]
    simp [ftx, e, fpc]
  by_cases q31 : n.op = 31
  · have e : flB n.op = [112, 110, 119] := by rw [q31]; rfl
    have hp : pt n.op = 1 := by rw [q31]; rfl
    have h64 := hs.num q31
    have et : txB n.num.toNat = Lib.itoa n.num := by
      rw [txB_small (by omega), Int.toNat_of_nonneg hnu]
    rw [prt_pos f (hs.a.1 (by omega)), prt_zero f (hs.b.2 (by omega)), prt_zero f (hs.c.2 (by omega)), tail31 n q31]
    unfold nmT
    rw [if_neg q4]
    simp [ftx, e, fpc, pcs, nth3, et]
  by_cases q32 : 32 ≤ n.op
  · have e : flB n.op = [112, 119] := by unfold flB; rw [if_neg q2, if_neg q3, if_neg q4, if_neg q31, if_pos q32]
    have hp : pt n.op = 1 := by unfold pt; rw [if_neg (by omega), if_pos (by omega)]
    rw [prt_pos f (hs.a.1 (by omega)), prt_zero f (hs.b.2 (by omega)), prt_zero f (hs.c.2 (by omega)), tailW n (by omega)]
    unfold nmT
    rw [if_neg q4]
    simp [ftx, e, fpc, pcs, nth3]
  have e : flB n.op = List.replicate (pt n.op).toNat 112 := by unfold flB; rw [if_neg q2, if_neg q3, if_neg q4, if_neg q31, if_neg q32]
  have hp : pt n.op = 1 ∨ pt n.op = 2 ∨ pt n.op = 3 := by
    unfold pt
    rw [if_neg (by omega)]
    split
    · simp
    · split <;> simp
  rw [tail0 n (by omega)]
  unfold nmT
  rw [if_neg q4]
  rcases hp with hp | hp | hp
  · rw [prt_pos f (hs.a.1 (by omega)), prt_zero f (hs.b.2 (by omega)), prt_zero f (hs.c.2 (by omega))]
    rw [hp] at e
    have e' : flB n.op = [112] := e
    simp [ftx, e', fpc, pcs, nth3]
  · rw [prt_pos f (hs.a.1 (by omega)), prt_pos f (hs.b.1 (by omega)), prt_zero f (hs.c.2 (by omega))]
    rw [hp] at e
    have e' : flB n.op = [112, 112] := e
    simp [ftx, e', fpc, pcs, nth3]
  · rw [prt_pos f (hs.a.1 (by omega)), prt_pos f (hs.b.1 (by omega)), prt_pos f (hs.c.1 (by omega))]
    rw [hp] at e
    have e' : flB n.op = [112, 112, 112] := e
    simp [ftx, e', fpc, pcs, nth3]
theorem flB_len (op : Int) : (flB op).length ≤ 3 := by
  have := pt_lo op
  unfold flB
  split
  · simp
  · split
    · simp
    · split
      · simp
      · split
        · simp
        · split
          · simp
          · rw [List.length_replicate]; omega
/-- a field is one of four -/
theorem flB_at (op : Int) (k : Nat) (h : k < (flB op).length) : (flB op).getD k 0 = 112 ∨ (flB op).getD k 0 = 110 ∨ (flB op).getD k 0 = 119 ∨ (flB op).getD k 0 = 115 := by
  have h3 := flB_len op
  have e : (flB op).getD k 0 = (flB op)[k] := by simp [h]
  rw [e]
  have hm : (flB op)[k] ∈ flB op := List.getElem_mem h
  generalize (flB op)[k] = c at hm
  unfold flB at hm
  split at hm
  · cases hm
  · split at hm
    · simp at hm; rcases hm with rfl | rfl <;> simp
    · split at hm
      · simp at hm; rcases hm with rfl | rfl <;> simp
      · split at hm
        · simp at hm; rcases hm with rfl | rfl | rfl <;> simp
        · split at hm
          · simp at hm; rcases hm with rfl | rfl <;> simp
          · rw [List.mem_replicate] at hm; exact Or.inl hm.2
/-- the parts ahead of a part are less than how many there are -/
theorem pcs_lt (op : Int) (h1 : 1 ≤ op) (k : Nat) (h : k < (flB op).length) (hc : (flB op).getD k 0 = 112) : (pcs op k : Int) < pt op := by
  have h3 := flB_len op
  by_cases q2 : op ≤ 2
  · have e : flB op = [] := by unfold flB; rw [if_pos q2]
    rw [e] at h; simp at h
  by_cases q3 : op = 3
  · subst q3
    have e : flB 3 = [119, 110] := rfl
    rw [e] at h hc
    have : k = 0 ∨ k = 1 := by simp at h; omega
    rcases this with rfl | rfl <;> simp at hc
  by_cases q4 : op = 4
  · subst q4
    have e : flB 4 = [115, 119] := rfl
    rw [e] at h hc
    have : k = 0 ∨ k = 1 := by simp at h; omega
    rcases this with rfl | rfl <;> simp at hc
  by_cases q31 : op = 31
  · subst q31
    have e : flB 31 = [112, 110, 119] := rfl
    rw [e] at h hc
    have : k = 0 ∨ k = 1 ∨ k = 2 := by simp at h; omega
    rcases this with rfl | rfl | rfl
    · decide
    · simp at hc
    · simp at hc
  by_cases q32 : 32 ≤ op
  · have e : flB op = [112, 119] := by unfold flB; rw [if_neg q2, if_neg q3, if_neg q4, if_neg q31, if_pos q32]
    have hk : k < 2 := by rw [e] at h; simpa using h
    rw [e] at hc
    have : k = 0 ∨ k = 1 := by omega
    rcases this with rfl | rfl
    · have hp : 0 < pt op := by unfold pt; rw [if_neg (by omega)]; split; simp; split <;> simp
      simpa [pcs] using hp
    · simp at hc
  have e : flB op = List.replicate (pt op).toNat 112 := by unfold flB; rw [if_neg q2, if_neg q3, if_neg q4, if_neg q31, if_neg q32]
  have hl : k < (pt op).toNat := by rw [e, List.length_replicate] at h; exact h
  have : pcs op k ≤ k := by unfold pcs; exact Nat.le_trans List.countP_le_length (by simp; omega)
  omega
theorem pcs_next (op : Int) (k : Nat) (h : k < (flB op).length) : pcs op (k + 1) = pcs op k + (if (flB op).getD k 0 = 112 then 1 else 0) := by
  unfold pcs
  have e : (flB op).getD k 0 = (flB op)[k] := by simp [h]
  rw [List.take_add_one, List.countP_append, e, List.getElem?_eq_getElem h]
  simp [List.countP_cons]
theorem fpc_len (f : Int → Int) (hf : ∀ x, 0 ≤ f x ∧ f x ≤ 1000000000000) (n : Nd) (hs : SHP n) (c : UInt8) (p : Nat) : (fpc f n c p).length ≤ 25 := by
  have h1 := itoa_len hs.w.1 (by have := hs.w.2; omega)
  have h2 := txB_len n.num.toNat
  have h3 := itoa_len (hf (nth3 n p)).1 (hf (nth3 n p)).2
  have h4 := hs.name
  have h5 := Lib.size_eq n.name
  unfold fpc
  split
  · simp only [List.length_cons]; omega
  · split
    · simp only [List.length_cons]; omega
    · split
      · simp only [List.length_cons]; omega
      · simp only [List.length_cons]; omega
theorem ftx_len (f : Int → Int) (hf : ∀ x, 0 ≤ f x ∧ f x ≤ 1000000000000) (n : Nd) (hs : SHP n) : ∀ k, (ftx f n k).length ≤ 25 * k
  | 0 => by simp [ftx]
  | k + 1 => by
    have ih := ftx_len f hf n hs k
    have := fpc_len f hf n hs ((flB n.op).getD k 0) (pcs n.op k)
    unfold ftx
    rw [List.length_append]
    omega
theorem ndT_ftx (f : Int → Int) (li : Int) (n : Nd) (hs : SHP n) (hn : n.ok) : ndT f li n = Lib.itoa li ++ 32 :: wordB n.op.toNat ++ ftx f n (flB n.op).length ++ [10] := by
  rw [ftx_all f n hs hn]
  unfold ndT nmT
  simp only [List.append_assoc]
end Go.Proofs.YtmfdcemfdkdalaaDoor
