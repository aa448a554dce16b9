import Derived.Laws.Bits64b
import Derived.Test.YtlkafgdddlgpcaaDoorMathL
namespace Go.Cn
/-- how many of the lowest n bits are one -/
def pc : Nat → Nat → Nat
  | 0, _ => 0
  | n + 1, x => x % 2 + pc n (x / 2)
theorem land_split (a b m n : Nat) (ha : a < 256) (hm : m < 256) : (a + 256 * b) &&& (m + 256 * n) = (a &&& m) + 256 * (b &&& n) := by
  have h1 : ((a + 256 * b) &&& (m + 256 * n)) % 2 ^ 8 = a &&& m := by
    rw [Nat.and_mod_two_pow]
    rw [show (a + 256 * b) % 2 ^ 8 = a by omega, show (m + 256 * n) % 2 ^ 8 = m by omega]
  have h2 : ((a + 256 * b) &&& (m + 256 * n)) / 2 ^ 8 = b &&& n := by
    rw [Nat.and_div_two_pow]
    rw [show (a + 256 * b) / 2 ^ 8 = b by omega, show (m + 256 * n) / 2 ^ 8 = n by omega]
  omega
def rep (m : Nat) : Nat → Nat
  | 0 => 0
  | k + 1 => m + 256 * rep m k
def b1 (y : Nat) : Nat := (y / 2 &&& 85) + (y &&& 85)
def b2 (y : Nat) : Nat := (y / 4 &&& 51) + (y &&& 51)
def b3 (y : Nat) : Nat := (y / 16 + y) &&& 15
def s1 (k x : Nat) : Nat := (x / 2 &&& rep 85 k) + (x &&& rep 85 k)
def s2 (k x : Nat) : Nat := (x / 4 &&& rep 51 k) + (x &&& rep 51 k)
def s3 (k x : Nat) : Nat := (x / 16 + x) &&& rep 15 k
theorem f1 : ∀ y : Fin 256, ∀ t : Fin 2, ((y.val / 2 + 128 * t.val) &&& 85) = (y.val / 2 &&& 85) := by decide +kernel
theorem f2 : ∀ y : Fin 256, ∀ t : Fin 4, ((y.val / 4 + 64 * t.val) &&& 51) = (y.val / 4 &&& 51) := by decide +kernel
theorem f1b : ∀ y : Fin 256, b1 y.val < 256 := by decide +kernel
theorem f2b : ∀ y : Fin 256, b2 (b1 y.val) < 256 ∧ b2 (b1 y.val) % 16 ≤ 4 ∧ b2 (b1 y.val) / 16 ≤ 4 := by decide +kernel
theorem f3b : ∀ y : Fin 256, b3 (b2 (b1 y.val)) = pc 8 y.val := by decide +kernel
theorem s1_cons (k y z : Nat) (hy : y < 256) : s1 (k + 1) (y + 256 * z) = b1 y + 256 * s1 k z := by
  unfold s1 b1
  show (_ &&& (85 + 256 * rep 85 k)) + (_ &&& (85 + 256 * rep 85 k)) = _
  have e : (y + 256 * z) / 2 = (y / 2 + 128 * (z % 2)) + 256 * (z / 2) := by omega
  rw [e, land_split _ _ _ _ (by omega) (by omega), land_split _ _ _ _ hy (by omega)]
  have := f1 ⟨y, hy⟩ ⟨z % 2, by omega⟩
  simp only at this
  rw [this]
  omega
theorem s2_cons (k y z : Nat) (hy : y < 256) : s2 (k + 1) (y + 256 * z) = b2 y + 256 * s2 k z := by
  unfold s2 b2
  show (_ &&& (51 + 256 * rep 51 k)) + (_ &&& (51 + 256 * rep 51 k)) = _
  have e : (y + 256 * z) / 4 = (y / 4 + 64 * (z % 4)) + 256 * (z / 4) := by omega
  rw [e, land_split _ _ _ _ (by omega) (by omega), land_split _ _ _ _ hy (by omega)]
  have := f2 ⟨y, hy⟩ ⟨z % 4, by omega⟩
  simp only at this
  rw [this]
  omega
theorem f3 : ∀ a : Fin 5, ∀ b : Fin 5, ∀ t : Fin 5, ((b.val + 16 * t.val + (a.val + 16 * b.val * 0) ) &&& 15) = ((b.val + a.val) &&& 15) := by decide +kernel
theorem and15 (a : Nat) : a &&& 15 = a % 16 := by have := Nat.and_two_pow_sub_one_eq_mod a 4; simpa using this
theorem s3_cons (k y z : Nat) (hy : y < 256) (h1 : y % 16 ≤ 4) (h2 : y / 16 ≤ 4) (h3 : z % 16 ≤ 4) : s3 (k + 1) (y + 256 * z) = b3 y + 256 * s3 k z := by
  unfold s3 b3
  show (_ &&& (15 + 256 * rep 15 k)) = _
  have e : (y + 256 * z) / 16 + (y + 256 * z) = (y / 16 + 16 * (z % 16) + y) + 256 * (z / 16 + z) := by omega
  rw [e, land_split _ _ _ _ (by omega) (by omega), and15, and15]
  omega
/-- the bytes of a number -/
def byteAt (x j : Nat) : Nat := x / 256 ^ j % 256
theorem pc_succ (n x : Nat) : pc (n + 1) x = x % 2 + pc n (x / 2) := rfl
theorem pc_zero (x : Nat) : pc 0 x = 0 := rfl
theorem pc_add : ∀ (m n x : Nat), pc (m + n) x = pc m x + pc n (x / 2 ^ m)
  | 0, n, x => by rw [pc_zero]; simp
  | m + 1, n, x => by
    rw [show m + 1 + n = (m + n) + 1 by omega, pc_succ, pc_succ, pc_add m n (x / 2), Nat.div_div_eq_div_mul, show 2 ^ (m + 1) = 2 * 2 ^ m by rw [Nat.pow_succ]; omega]
    omega
theorem pc8 (x : Nat) : pc 8 x = pc 8 (x % 256) := by
  simp only [pc_succ, pc_zero, Nat.div_div_eq_div_mul, Nat.reduceMul]
  omega
theorem pc_le : ∀ n x, pc n x ≤ n
  | 0, _ => Nat.le_refl _
  | n + 1, x => by rw [pc_succ]; have := pc_le n (x / 2); omega
theorem s12 (k : Nat) : ∀ x, x < 256 ^ k → s2 k (s1 k x) % 16 ≤ 4 := by
  cases k with
  | zero => intro x _; simp [s2, rep]
  | succ k =>
    intro x hx
    have e : x = x % 256 + 256 * (x / 256) := by omega
    have hy : x % 256 < 256 := by omega
    rw [e, s1_cons k _ _ hy, s2_cons k _ _ (f1b ⟨_, hy⟩)]
    have := f2b ⟨_, hy⟩
    simp only at this
    rw [show ((⟨x % 256, hy⟩ : Fin 256).val) = x % 256 by rfl]
    omega
/-- behind three steps each byte is the number of its ones -/
def pk : Nat → Nat → Nat
  | 0, _ => 0
  | k + 1, x => pc 8 (x % 256) + 256 * pk k (x / 256)
theorem s123 : ∀ (k x : Nat), x < 256 ^ k → s3 k (s2 k (s1 k x)) = pk k x
  | 0, x, _ => by simp [s3, rep, pk]
  | k + 1, x, hx => by
    have e : x = x % 256 + 256 * (x / 256) := by omega
    have hy : x % 256 < 256 := by omega
    have hq : x / 256 < 256 ^ k := by rw [Nat.pow_succ] at hx; exact Nat.div_lt_of_lt_mul (by omega)
    have g2 := f2b ⟨_, hy⟩
    simp only at g2
    conv => lhs; rw [e]
    rw [s1_cons k _ _ hy, s2_cons k _ _ (f1b ⟨_, hy⟩), s3_cons k _ _ g2.1 g2.2.1 g2.2.2 (s12 k _ hq), s123 k _ hq]
    have := f3b ⟨_, hy⟩
    simp only at this
    rw [this]
    rfl
theorem pc64 (x : Nat) : pc 64 x = pc 8 (x % 256) + pc 8 (x / 256 % 256) + pc 8 (x / 256 / 256 % 256) + pc 8 (x / 256 / 256 / 256 % 256) + pc 8 (x / 256 / 256 / 256 / 256 % 256) + pc 8 (x / 256 / 256 / 256 / 256 / 256 % 256) + pc 8 (x / 256 / 256 / 256 / 256 / 256 / 256 % 256) + pc 8 (x / 256 / 256 / 256 / 256 / 256 / 256 / 256 % 256) := by
  have a : ∀ n y, pc (8 + n) y = pc 8 (y % 256) + pc n (y / 256) := fun n y => by rw [pc_add, pc8]
  rw [show 64 = 8 + (8 + (8 + (8 + (8 + (8 + (8 + (8 + 0))))))) by rfl]
  simp only [a, pc_zero]
  try omega
theorem ax_le {a R S b : Nat} (h : a + 256 * R = S) (ha : a ≤ 8) (hR : R ≤ b) : S ≤ 8 + 256 * b := by omega
theorem ax_div {a R u : Nat} (h : a + 256 * R = u) (ha : a ≤ 8) : u / 256 = R := by omega
theorem ax_v {a0 a1 a2 R1 R2 R3 u : Nat} (hu : a0 + 256 * R1 = u) (h1 : a1 + 256 * R2 = R1) (h2 : a2 + 256 * R3 = R2) : u + R1 = (a0 + a1) + 256 * (a1 + a2) + 65536 * (R2 + R3) := by omega
theorem ax_d2 {x y Z v : Nat} (h : v = x + 256 * y + 65536 * Z) (hx : x ≤ 32) (hy : y ≤ 32) : v / 65536 = Z := by omega
theorem ax_t {a0 a1 a2 a3 a4 R2 R3 R4 R5 v : Nat} (h : v = (a0 + a1) + 256 * (a1 + a2) + 65536 * (R2 + R3)) (h2 : a2 + 256 * R3 = R2) (h3 : a3 + 256 * R4 = R3) (h4 : a4 + 256 * R5 = R4) : v + (R2 + R3) = (a0 + a1 + a2 + a3) + 256 * (a1 + a2 + a3 + a4) + 65536 * (R2 + R3 + (R4 + R5)) := by omega
theorem ax_z {a2 a3 a4 a5 a6 R2 R3 R4 R5 R6 R7 : Nat} (h2 : a2 + 256 * R3 = R2) (h3 : a3 + 256 * R4 = R3) (h4 : a4 + 256 * R5 = R4) (h5 : a5 + 256 * R6 = R5) (h6 : a6 + 256 * R7 = R6) : R2 + R3 + (R4 + R5) = (a2 + a3 + a4 + a5) + 256 * (a3 + a4 + a5 + a6) + 65536 * (R4 + R5 + (R6 + R7)) := by omega
theorem ax_g {a4 a5 a6 a7 R4 R5 R6 R7 : Nat} (h4 : a4 + 256 * R5 = R4) (h5 : a5 + 256 * R6 = R5) (h6 : a6 + 256 * R7 = R6) (h7 : a7 = R7) : R4 + R5 + (R6 + R7) = (a4 + a5 + a6 + a7) + 256 * (R5 + R6 + R7) := by omega
theorem ax_m {x y Z g Y S : Nat} (hx : x ≤ 32) (hg : g ≤ 32) (hs : S = x + g) : (x + 256 * y + 65536 * Z + (g + 256 * Y)) % 128 = S := by omega
theorem ax_dd {t Z : Nat} (h : t / 65536 / 65536 = Z) : t / 4294967296 = Z := by omega
theorem ax_b {x y Z : Nat} (hx : x ≤ 32) (hy : y ≤ 32) (hZ : Z ≤ 10000000000000) : x + 256 * y + 65536 * Z ≤ 700000000000000000 := by omega
theorem pop64 (x : Nat) (hx : x < 18446744073709551616) (u : Nat) (hu : s3 8 (s2 8 (s1 8 x)) = u) :
    u < 18446744073709551616 ∧ u + u / 256 < 18446744073709551616 ∧ (u + u / 256) + (u + u / 256) / 65536 < 18446744073709551616 ∧ ((u + u / 256) + (u + u / 256) / 65536) + ((u + u / 256) + (u + u / 256) / 65536) / 4294967296 < 9223372036854775808 ∧ (((u + u / 256) + (u + u / 256) / 65536) + ((u + u / 256) + (u + u / 256) / 65536) / 4294967296) % 128 = pc 64 x := by
  rw [s123 8 x (by simpa using hx)] at hu
  simp only [pk] at hu
  rw [pc64 x]
  have hp : ∀ y, pc 8 y ≤ 8 := fun y => pc_le 8 y
  have p0 := hp (x % 256)
  have p1 := hp (x / 256 % 256)
  have p2 := hp (x / 256 / 256 % 256)
  have p3 := hp (x / 256 / 256 / 256 % 256)
  have p4 := hp (x / 256 / 256 / 256 / 256 % 256)
  have p5 := hp (x / 256 / 256 / 256 / 256 / 256 % 256)
  have p6 := hp (x / 256 / 256 / 256 / 256 / 256 / 256 % 256)
  have p7 := hp (x / 256 / 256 / 256 / 256 / 256 / 256 / 256 % 256)
  generalize pc 8 (x % 256) = a0 at *
  generalize pc 8 (x / 256 % 256) = a1 at *
  generalize pc 8 (x / 256 / 256 % 256) = a2 at *
  generalize pc 8 (x / 256 / 256 / 256 % 256) = a3 at *
  generalize pc 8 (x / 256 / 256 / 256 / 256 % 256) = a4 at *
  generalize pc 8 (x / 256 / 256 / 256 / 256 / 256 % 256) = a5 at *
  generalize pc 8 (x / 256 / 256 / 256 / 256 / 256 / 256 % 256) = a6 at *
  generalize pc 8 (x / 256 / 256 / 256 / 256 / 256 / 256 / 256 % 256) = a7 at *
  generalize h7 : a7 + 256 * 0 = R7 at hu
  generalize h6 : a6 + 256 * R7 = R6 at hu
  generalize h5 : a5 + 256 * R6 = R5 at hu
  generalize h4 : a4 + 256 * R5 = R4 at hu
  generalize h3 : a3 + 256 * R4 = R3 at hu
  generalize h2 : a2 + 256 * R3 = R2 at hu
  generalize h1 : a1 + 256 * R2 = R1 at hu
  clear hp hx
  have h7' : a7 = R7 := h7
  have c7 : R7 ≤ 8 := h7' ▸ p7
  have c6 : R6 ≤ 2056 := ax_le h6 p6 c7
  have c5 : R5 ≤ 526344 := ax_le h5 p5 c6
  have c4 : R4 ≤ 134744072 := ax_le h4 p4 c5
  have c3 : R3 ≤ 34494482440 := ax_le h3 p3 c4
  have c2 : R2 ≤ 8830587504648 := ax_le h2 p2 c3
  have c1 : R1 ≤ 2260630401189896 := ax_le h1 p1 c2
  have cu : u ≤ 578721382704613384 := ax_le hu p0 c1
  have e1 : u / 256 = R1 := ax_div hu p0
  have d1 := ax_v hu h1 h2
  have e2 := ax_d2 d1 (Nat.le_trans (Nat.add_le_add p0 p1) (by decide)) (Nat.le_trans (Nat.add_le_add p1 p2) (by decide))
  have d2 := ax_t d1 h2 h3 h4
  have x0 : a0 + a1 + a2 + a3 ≤ 32 := Nat.add_le_add (Nat.add_le_add (Nat.add_le_add p0 p1) p2) p3
  have x1 : a1 + a2 + a3 + a4 ≤ 32 := Nat.add_le_add (Nat.add_le_add (Nat.add_le_add p1 p2) p3) p4
  have x2 : a2 + a3 + a4 + a5 ≤ 32 := Nat.add_le_add (Nat.add_le_add (Nat.add_le_add p2 p3) p4) p5
  have x3 : a3 + a4 + a5 + a6 ≤ 32 := Nat.add_le_add (Nat.add_le_add (Nat.add_le_add p3 p4) p5) p6
  have x4 : a4 + a5 + a6 + a7 ≤ 32 := Nat.add_le_add (Nat.add_le_add (Nat.add_le_add p4 p5) p6) p7
  have z := ax_z h2 h3 h4 h5 h6
  have q1 := ax_d2 d2 x0 x1
  have q2 := ax_d2 z x2 x3
  have e3 : (u + R1 + (R2 + R3)) / 4294967296 = R4 + R5 + (R6 + R7) := ax_dd (by rw [q1, q2])
  have g4 := ax_g h4 h5 h6 h7'
  have hv : u + R1 ≤ 600000000000000000 := Nat.le_trans (Nat.add_le_add cu c1) (by decide)
  have ht : u + R1 + (R2 + R3) ≤ 700000000000000000 := Nat.le_trans (Nat.add_le_add hv (Nat.add_le_add c2 c3)) (by decide)
  have hf : R4 + R5 + (R6 + R7) ≤ 1000000000 := Nat.le_trans (Nat.add_le_add (Nat.add_le_add c4 c5) (Nat.add_le_add c6 c7)) (by decide)
  rw [e1, e2, e3]
  refine ⟨Nat.lt_of_le_of_lt cu (by decide), Nat.lt_of_le_of_lt hv (by decide), Nat.lt_of_le_of_lt ht (by decide), Nat.lt_of_le_of_lt (Nat.add_le_add ht hf) (by decide), ?_⟩
  rw [d2, g4]
  exact ax_m x0 x4 (by simp only [Nat.add_assoc])
end Go.Cn
namespace Go.Cn
theorem nat_ofInt (a : Nat) (ha : a < 18446744073709551616) : (BitVec.ofInt 64 (a : Int)).toNat = a := by
  rw [BitVec.ofInt_natCast, BitVec.toNat_ofNat]; exact Nat.mod_eq_of_lt (by omega)
theorem tb_hi {a n k : Nat} (h : a < 2 ^ n) (hk : n ≤ k) : a.testBit k = false := Nat.testBit_lt_two_pow (Nat.lt_of_lt_of_le h (Nat.pow_le_pow_right (by omega) hk))
theorem andNotU (a b : Nat) (ha : a < 18446744073709551616) (hb : b < 18446744073709551616) : ∃ r : Nat, bits .andNot .u64 (a : Int) (b : Int) = r ∧ r < 18446744073709551616 ∧ ∀ k, r.testBit k = (a.testBit k && !b.testBit k) := by
  have hx : (BitVec.ofInt 64 (a : Int) &&& ~~~ (BitVec.ofInt 64 (b : Int))).toNat < 2 ^ 64 := BitVec.isLt _
  refine ⟨(BitVec.ofInt 64 (a : Int) &&& ~~~ (BitVec.ofInt 64 (b : Int))).toNat, ?_, by omega, fun k => ?_⟩
  · show IntKind.u64.wrap ((BitVec.ofInt 64 (a : Int) &&& ~~~ (BitVec.ofInt 64 (b : Int))).toNat : Int) = _
    rw [IntKind.wrap_u64]; omega
  · by_cases hk : k < 64
    · rw [BitVec.testBit_toNat, BitVec.getLsbD_and, BitVec.getLsbD_not, ← BitVec.testBit_toNat, ← BitVec.testBit_toNat, nat_ofInt a ha, nat_ofInt b hb]
      simp [hk]
    · rw [tb_hi hx (by omega), tb_hi (n := 64) (a := a) (by omega) (by omega)]; rfl
theorem andU (a b : Nat) (ha : a < 18446744073709551616) (hb : b < 18446744073709551616) : ∃ r : Nat, bits .and .u64 (a : Int) (b : Int) = r ∧ r < 18446744073709551616 ∧ ∀ k, r.testBit k = (a.testBit k && b.testBit k) := by
  refine ⟨a &&& b, bits_and_u64_nat a b ha hb, ?_, fun k => Nat.testBit_and _ _ _⟩
  have hx : a &&& b < 2 ^ 64 := Nat.and_lt_two_pow _ (by omega)
  omega
theorem andNotI (a b : Nat) (ha : a < 4611686018427387904) (hb : b < 4611686018427387904) : ∃ r : Nat, bits .andNot .i64 (a : Int) (b : Int) = r ∧ r ≤ a ∧ ∀ k, r.testBit k = (a.testBit k && !b.testBit k) := by
  have hk : ∀ k, (BitVec.ofInt 64 (a : Int) &&& ~~~ (BitVec.ofInt 64 (b : Int))).toNat.testBit k = (a.testBit k && !b.testBit k) := fun k => by
    have hx : (BitVec.ofInt 64 (a : Int) &&& ~~~ (BitVec.ofInt 64 (b : Int))).toNat < 2 ^ 64 := BitVec.isLt _
    by_cases hk : k < 64
    · rw [BitVec.testBit_toNat, BitVec.getLsbD_and, BitVec.getLsbD_not, ← BitVec.testBit_toNat, ← BitVec.testBit_toNat, nat_ofInt a (by omega), nat_ofInt b (by omega)]
      simp [hk]
    · rw [tb_hi hx (by omega), tb_hi (n := 64) (a := a) (by omega) (by omega)]; rfl
  have hle : (BitVec.ofInt 64 (a : Int) &&& ~~~ (BitVec.ofInt 64 (b : Int))).toNat ≤ a := by
    have h2 := nat_ofInt a (by omega)
    have : (BitVec.ofInt 64 (a : Int) &&& ~~~ (BitVec.ofInt 64 (b : Int))).toNat ≤ (BitVec.ofInt 64 (a : Int)).toNat := by
      rw [BitVec.toNat_and]; exact Nat.and_le_left
    omega
  refine ⟨_, ?_, hle, hk⟩
  show IntKind.i64.wrap ((BitVec.ofInt 64 (a : Int) &&& ~~~ (BitVec.ofInt 64 (b : Int))).toNat : Int) = _
  rw [IntKind.wrap_i64]; omega
theorem andI (a b : Nat) (ha : a < 4611686018427387904) (hb : b < 4611686018427387904) : ∃ r : Nat, bits .and .i64 (a : Int) (b : Int) = r ∧ r = a &&& b := by
  refine ⟨a &&& b, ?_, rfl⟩
  have hx : a &&& b ≤ a := Nat.and_le_left
  show IntKind.i64.wrap ((BitVec.ofInt 64 (a : Int) &&& BitVec.ofInt 64 (b : Int)).toNat : Int) = _
  rw [BitVec.toNat_and, nat_ofInt a (by omega), nat_ofInt b (by omega), IntKind.wrap_i64]
  omega
theorem orI (a b : Nat) (ha : a < 4611686018427387904) (hb : b < 4611686018427387904) : bits .or .i64 (a : Int) (b : Int) = ((a ||| b : Nat) : Int) := by
  have hx : a ||| b < 2 ^ 62 := Nat.or_lt_two_pow (by omega) (by omega)
  show IntKind.i64.wrap ((BitVec.ofInt 64 (a : Int) ||| BitVec.ofInt 64 (b : Int)).toNat : Int) = _
  rw [BitVec.toNat_or, nat_ofInt a (by omega), nat_ofInt b (by omega), IntKind.wrap_i64]
  omega
/-- the word of the assignments in which a low variable is true -/
def lowT (v : Nat) : Nat := [12297829382473034410, 14757395258967641292, 17361641481138401520, 18374966859414961920, 18446462603027742720, 18446744069414584320].getD v 0
theorem lowT_bit : ∀ v : Fin 6, ∀ b : Fin 64, (lowT v.val).testBit b.val = b.val.testBit v.val := by decide +kernel
theorem lowT_lt : ∀ v : Fin 6, lowT v.val < 18446744073709551616 := by decide +kernel
/-- the subsets of a set, from the greatest on -/
theorem sub_le : ∀ (p f s : Nat), p &&& f = p → s &&& f = s → s < p → s ≤ (p - 1) &&& f := by
  intro p
  induction p using Nat.strongRecOn with
  | _ p ih =>
    intro f s hp hs hlt
    have land2 : ∀ a b : Nat, (a &&& b) / 2 = a / 2 &&& b / 2 := fun a b => by have := Nat.and_div_two_pow (a := a) (b := b) (n := 1); simpa using this
    have landm : ∀ a b : Nat, (a &&& b) % 2 = (a % 2) &&& (b % 2) := fun a b => by have := Nat.and_mod_two_pow (a := a) (b := b) (n := 1); simpa using this
    have hp2 : p / 2 &&& f / 2 = p / 2 := by rw [← land2, hp]
    have hs2 : s / 2 &&& f / 2 = s / 2 := by rw [← land2, hs]
    have hq2 := land2 (p - 1) f
    have hqm := landm (p - 1) f
    rcases Nat.mod_two_eq_zero_or_one p with e | e
    · have h1 : (p - 1) / 2 = p / 2 - 1 := by omega
      have h2 : (p - 1) % 2 = 1 := by omega
      have := ih (p / 2) (by omega) (f / 2) (s / 2) hp2 hs2 (by omega)
      rw [h1] at hq2
      rw [h2] at hqm
      have h3 : 1 &&& f % 2 = f % 2 := by rcases Nat.mod_two_eq_zero_or_one f with g | g <;> rw [g] <;> rfl
      rw [h3] at hqm
      have h4 : s % 2 ≤ f % 2 := by rw [← hs, landm]; exact Nat.and_le_right
      omega
    · have h1 : (p - 1) / 2 = p / 2 := by omega
      rw [h1, hp2] at hq2
      omega
/-- is a literal false? -/
def lf (l : Int) (x : Nat) : Bool := x.testBit (vr l - 1).toNat == decide (l < 0)
def fal (c : List Int) (x : Nat) : Bool := c.all fun l => lf l x
end Go.Cn
namespace Go.Cn
/-- what refute has of the literals so far: the low word, what is fixed and what is free -/
structure RSt (h : Nat) (c : List Int) (low fixed free : Nat) : Prop where
  lowlt : low < 18446744073709551616
  fixlt : fixed < 2 ^ h
  freelt : free < 2 ^ h
  lowb : ∀ b, b < 64 → low.testBit b = c.all fun l => decide (6 < vr l) || lf l b
  fixb : ∀ j, fixed.testBit j = c.any fun l => decide (vr l = (j : Int) + 7) && decide (l < 0)
  freeb : ∀ j, free.testBit j = (decide (j < h) && !(c.any fun l => decide (vr l = (j : Int) + 7)))
theorem RSt.nil (h : Nat) : RSt h [] 18446744073709551615 0 (2 ^ h - 1) := by
  refine ⟨by omega, Nat.two_pow_pos h, by have := Nat.two_pow_pos h; omega, fun b hb => ?_, fun j => ?_, fun j => ?_⟩
  · have := Nat.testBit_two_pow_sub_one 64 b
    rw [show (2 ^ 64 - 1 : Nat) = 18446744073709551615 by rfl] at this
    rw [this]; simp [hb]
  · simp
  · rw [Nat.testBit_two_pow_sub_one]; simp
theorem RSt.low {h : Nat} {c : List Int} {low fixed free : Nat} (hs : RSt h c low fixed free) {l : Int} (hl : litB l = true) (h6 : vr l ≤ 6) {low' : Nat} (h1 : low' < 18446744073709551616)
    (h2 : ∀ b, b < 64 → low'.testBit b = (low.testBit b && lf l b)) : RSt h (c ++ [l]) low' fixed free := by
  have hv := litB_iff.1 hl
  refine ⟨h1, hs.fixlt, hs.freelt, fun b hb => ?_, fun j => ?_, fun j => ?_⟩
  · rw [h2 b hb, hs.lowb b hb, List.all_append]
    have : decide (6 < vr l) = false := by simp; omega
    simp [this]
  · rw [hs.fixb j, List.any_append]
    have : decide (vr l = (j : Int) + 7) = false := by simp; omega
    simp [this]
  · rw [hs.freeb j, List.any_append]
    have : decide (vr l = (j : Int) + 7) = false := by simp; omega
    simp [this]
theorem tb_pow (k j : Nat) : (2 ^ k).testBit j = decide (k = j) := Nat.testBit_two_pow ..
theorem RSt.high {h : Nat} {c : List Int} {low fixed free : Nat} (hs : RSt h c low fixed free) {l : Int} {k : Nat} (hk : vr l = (k : Int) + 7) (hkh : k < h) {free' : Nat} (h1 : free' ≤ free)
    (h2 : ∀ j, free'.testBit j = (free.testBit j && !(2 ^ k).testBit j)) : RSt h (c ++ [l]) low (if l < 0 then fixed ||| 2 ^ k else fixed) free' := by
  refine ⟨hs.lowlt, ?_, Nat.lt_of_le_of_lt h1 hs.freelt, fun b hb => ?_, fun j => ?_, fun j => ?_⟩
  · split
    · exact Nat.or_lt_two_pow hs.fixlt (Nat.pow_lt_pow_right (by omega) hkh)
    · exact hs.fixlt
  · rw [hs.lowb b hb, List.all_append]
    have : decide (6 < vr l) = true := by simp; omega
    simp [this]
  · rw [List.any_append]
    by_cases hn : l < 0
    · rw [if_pos hn, Nat.testBit_or, hs.fixb j, tb_pow]
      have : decide (vr l = (j : Int) + 7) = decide (k = j) := by rw [hk]; simp; omega
      simp [this, hn]
    · rw [if_neg hn, hs.fixb j]
      simp [hn]
  · rw [h2 j, hs.freeb j, List.any_append, tb_pow]
    have : decide (vr l = (j : Int) + 7) = decide (k = j) := by rw [hk]; simp; omega
    simp [this, Bool.and_assoc]
/-- which words are struck -/
theorem RSt.hit {h : Nat} {c : List Int} {low fixed free : Nat} (hs : RSt h c low fixed free) (h2 : two c = false) {i : Nat} (hi : i < 2 ^ h) :
    (∃ s, s &&& free = s ∧ i = fixed ||| s) ↔ ∀ l ∈ c, ∀ k : Nat, vr l = (k : Int) + 7 → i.testBit k = decide (l < 0) := by
  have key : ∀ l ∈ c, ∀ k : Nat, vr l = (k : Int) + 7 → fixed.testBit k = decide (l < 0) ∧ free.testBit k = false := by
    intro l hl k hk
    constructor
    · rw [hs.fixb k]
      by_cases hn : l < 0
      · simp only [hn, decide_true]
        rw [List.any_eq_true]
        exact ⟨l, hl, by simp [hk, hn]⟩
      · simp only [hn, decide_false]
        rw [Bool.eq_false_iff]
        intro ha
        rw [List.any_eq_true] at ha
        obtain ⟨m, hm, he⟩ := ha
        simp at he
        have hx : m = -l := by
          have a1 := he.1
          have a2 := hk
          unfold vr at a1 a2
          rw [if_pos he.2] at a1
          rw [if_neg hn] at a2
          omega
        unfold two at h2
        rw [List.any_eq_false] at h2
        exact h2 l hl (by simp; rw [← hx]; exact hm)
    · rw [hs.freeb k]
      have : (c.any fun l => decide (vr l = (k : Int) + 7)) = true := by rw [List.any_eq_true]; exact ⟨l, hl, by simp [hk]⟩
      rw [this]; simp
  constructor
  · rintro ⟨s, hsub, rfl⟩ l hl k hk
    have hkk := key l hl k hk
    rw [Nat.testBit_or, hkk.1]
    have : s.testBit k = false := by rw [← hsub, Nat.testBit_and, hkk.2]; simp
    rw [this]; simp
  · intro hh
    refine ⟨i &&& free, by rw [Nat.and_assoc, Nat.and_self], ?_⟩
    apply Nat.eq_of_testBit_eq
    intro j
    rw [Nat.testBit_or, Nat.testBit_and]
    by_cases hj : ∃ l ∈ c, vr l = (j : Int) + 7
    · obtain ⟨l, hl, hk⟩ := hj
      have hkk := key l hl j hk
      rw [hkk.1, hkk.2, hh l hl j hk]
      simp
    · have h1 : (c.any fun l => decide (vr l = (j : Int) + 7)) = false := by
        rw [List.any_eq_false]
        intro l hl he
        simp at he
        exact hj ⟨l, hl, he⟩
      have h3 : fixed.testBit j = false := by
        rw [hs.fixb j, List.any_eq_false]
        intro l hl he
        simp at he
        exact hj ⟨l, hl, he.1⟩
      rw [h3, hs.freeb j, h1]
      by_cases hjh : j < h
      · simp [hjh]
      · rw [tb_hi hi (by omega)]; simp
theorem tb_join (i b t : Nat) (hb : b < 64) : (64 * i + b).testBit t = if t < 6 then b.testBit t else i.testBit (t - 6) := by
  have := Nat.testBit_two_pow_mul_add i (i := 6) (b := b) (by omega) t
  simpa using this
/-- a clause is false under x just if its word is struck there -/
theorem RSt.fal {h : Nat} {c : List Int} {low fixed free : Nat} (hs : RSt h c low fixed free) (h2 : two c = false) (hlit : ∀ l ∈ c, litB l = true) {i b : Nat} (hi : i < 2 ^ h) (hb : b < 64) :
    Go.Cn.fal c (64 * i + b) = true ↔ low.testBit b = true ∧ ∃ s, s &&& free = s ∧ i = fixed ||| s := by
  rw [hs.hit h2 hi, hs.lowb b hb, Go.Cn.fal, List.all_eq_true, List.all_eq_true]
  constructor
  · intro hh
    refine ⟨fun l hl => ?_, fun l hl k hk => ?_⟩
    · by_cases h6 : 6 < vr l
      · simp [h6]
      · have := hh l hl
        have hv := litB_iff.1 (hlit l hl)
        unfold lf at this ⊢
        rw [tb_join i b _ hb, if_pos (by omega)] at this
        rw [this]; simp
    · have := hh l hl
      unfold lf at this
      rw [tb_join i b _ hb, if_neg (by omega), show (vr l - 1).toNat - 6 = k by omega] at this
      simpa using this
  · rintro ⟨ha, hbb⟩ l hl
    unfold lf
    by_cases h6 : 6 < vr l
    · rw [tb_join i b _ hb, if_neg (by omega), hbb l hl ((vr l - 1).toNat - 6) (by omega)]
      simp
    · have hx := ha l hl
      have : decide (6 < vr l) = false := by simpa using h6
      rw [this] at hx
      unfold lf at hx
      rw [tb_join i b _ hb, if_pos (by omega)]
      simpa using hx
/-- counting -/
def cnt (P : Nat → Bool) : Nat → Nat
  | 0 => 0
  | n + 1 => cnt P n + (P n).toNat
theorem cnt_le (P : Nat → Bool) : ∀ n, cnt P n ≤ n
  | 0 => Nat.le_refl _
  | n + 1 => by unfold cnt; have := cnt_le P n; have : (P n).toNat ≤ 1 := by cases P n <;> decide
                omega
theorem cnt_shift (P : Nat → Bool) : ∀ n, cnt P (n + 1) = (P 0).toNat + cnt (fun x => P (x + 1)) n
  | 0 => by simp [cnt]
  | n + 1 => by rw [cnt, cnt_shift P n, cnt]; omega
theorem cnt_congr {P Q : Nat → Bool} : ∀ n, (∀ x, x < n → P x = Q x) → cnt P n = cnt Q n
  | 0, _ => rfl
  | n + 1, h => by rw [cnt, cnt, cnt_congr n (fun x hx => h x (by omega)), h n (by omega)]
theorem pc_cnt : ∀ n x, pc n x = cnt (fun b => x.testBit b) n
  | 0, _ => rfl
  | n + 1, x => by
    rw [pc_succ, cnt_shift, pc_cnt n (x / 2)]
    have h1 : x % 2 = (x.testBit 0).toNat := by rw [Nat.testBit_zero]; rcases Nat.mod_two_eq_zero_or_one x with e | e <;> simp [e]
    rw [h1]
    congr 1
    apply cnt_congr
    intro b _
    rw [Nat.testBit_succ]
theorem cnt_add (P : Nat → Bool) (m : Nat) : ∀ n, cnt P (m + n) = cnt P m + cnt (fun b => P (m + b)) n
  | 0 => by simp [cnt]
  | n + 1 => by rw [← Nat.add_assoc, cnt, cnt_add P m n, cnt]; omega
theorem pc_mod : ∀ (n z : Nat), pc n (z % 2 ^ n) = pc n z
  | 0, _ => rfl
  | n + 1, z => by
    rw [pc_succ, pc_succ]
    have h1 : z % 2 ^ (n + 1) % 2 = z % 2 := by rw [Nat.pow_succ, Nat.mul_comm]; exact Nat.mod_mul_right_mod z 2 (2 ^ n)
    have h2 : z % 2 ^ (n + 1) / 2 = z / 2 % 2 ^ n := by rw [Nat.pow_succ, Nat.mul_comm]; exact Nat.mod_mul_right_div_self z 2 (2 ^ n)
    rw [h1, h2, pc_mod n (z / 2)]
theorem pc_low0 : ∀ (s y : Nat), pc s (2 ^ s * y) = 0
  | 0, _ => rfl
  | s + 1, y => by
    have e : 2 ^ (s + 1) * y = 2 * (2 ^ s * y) := by rw [Nat.pow_succ, Nat.mul_comm (2 ^ s) 2, Nat.mul_assoc]
    rw [pc_succ, e, show 2 * (2 ^ s * y) % 2 = 0 by omega, show 2 * (2 ^ s * y) / 2 = 2 ^ s * y by omega, pc_low0 s y]
theorem pc_shl (s n z : Nat) : pc (s + n) (z * 2 ^ s % 2 ^ (s + n)) = pc n z := by
  rw [Nat.pow_add, Nat.mul_comm z, Nat.mul_mod_mul_left, pc_add, pc_low0, Nat.mul_div_cancel_left _ (Nat.two_pow_pos s), pc_mod]
  omega
theorem notU (a : Nat) (ha : a < 18446744073709551616) : ∃ r : Nat, bits .xor .u64 IntKind.u64.max (a : Int) = r ∧ r < 18446744073709551616 ∧ ∀ k, k < 64 → r.testBit k = !a.testBit k := by
  refine ⟨18446744073709551615 ^^^ a, ?_, ?_, fun k hk => ?_⟩
  · exact bits_xor_u64_nat 18446744073709551615 a (by omega) ha
  · have : 18446744073709551615 ^^^ a < 2 ^ 64 := Nat.xor_lt_two_pow (by omega) (by omega)
    omega
  · rw [Nat.testBit_xor]
    have := Nat.testBit_two_pow_sub_one 64 k
    rw [show (2 ^ 64 - 1 : Nat) = 18446744073709551615 by rfl] at this
    rw [this]
    simp [hk]
/-- the words' sum -/
def wsum (n : Nat) : List Nat → Nat
  | [] => 0
  | w :: ws => cnt (fun b => !w.testBit b) n + wsum n ws
theorem wsum_snoc (n : Nat) (w : Nat) : ∀ ws, wsum n (ws ++ [w]) = wsum n ws + cnt (fun b => !w.testBit b) n
  | [] => by simp [wsum]
  | x :: ws => by rw [List.cons_append, wsum, wsum, wsum_snoc n w ws]; omega
theorem wsum_le (n : Nat) : ∀ ws, wsum n ws ≤ n * ws.length
  | [] => Nat.le_refl _
  | x :: ws => by rw [wsum, List.length_cons, Nat.mul_succ]; have := wsum_le n ws; have := cnt_le (fun b => !x.testBit b) n; omega
theorem wsum_off (n : Nat) (Q : Nat → Bool) : ∀ (ws : List Nat) (o : Nat), (∀ i, i < ws.length → ∀ b, b < n → (ws.getD i 0).testBit b = Q (n * (o + i) + b)) → cnt (fun x => !Q x) (n * (o + ws.length)) = cnt (fun x => !Q x) (n * o) + wsum n ws
  | [], o, _ => by simp [wsum]
  | w :: ws, o, h => by
    have h1 := wsum_off n Q ws (o + 1) (fun i hi b hb => by
      have := h (i + 1) (by simp; omega) b hb
      rw [List.getD_cons_succ] at this
      rw [this, Nat.add_assoc, Nat.add_comm 1 i])
    rw [List.length_cons, show o + (ws.length + 1) = o + 1 + ws.length by omega, h1, wsum, Nat.mul_add n o 1, Nat.mul_one, cnt_add]
    have h2 : cnt (fun b => !Q (n * o + b)) n = cnt (fun b => !w.testBit b) n := by
      apply cnt_congr
      intro b hb
      have := h 0 (by simp) b hb
      rw [List.getD_cons_zero, Nat.add_zero] at this
      rw [this]
    rw [h2]
    omega
theorem wsum_cnt (n : Nat) (Q : Nat → Bool) (ws : List Nat) (h : ∀ i, i < ws.length → ∀ b, b < n → (ws.getD i 0).testBit b = Q (n * i + b)) : wsum n ws = cnt (fun x => !Q x) (n * ws.length) := by
  have := wsum_off n Q ws 0 (fun i hi b hb => by rw [Nat.zero_add]; exact h i hi b hb)
  rw [Nat.zero_add, Nat.mul_zero] at this
  rw [this]
  simp [cnt]
/-- the assignment that a number's bits tell -/
def bin (V x : Nat) : List Int := (List.range V).map fun v => if x.testBit v then 1 else -1
theorem bin_len (V x : Nat) : (bin V x).length = V := by simp [bin]
theorem bin_get (V x v : Nat) (h : v < V) : (bin V x).getD v 0 = if x.testBit v then 1 else -1 := by
  rw [List.getD_eq_getElem?_getD]; simp [bin, h]
theorem bin_full (V x : Nat) : Full V (bin V x) := by
  refine ⟨by rw [bin_len], fun y hy => ?_⟩
  simp [bin] at hy
  obtain ⟨v, _, e⟩ := hy
  rw [← e]; split <;> simp
theorem bin_of {V x : Nat} {l : Int} (hl : amB V l = true) : ofB (bin V x) l = if lf l x then -1 else 1 := by
  have h0 := hl
  unfold amB at hl
  simp at hl
  have hb := litB_iff.1 hl.1
  have hv : 1 ≤ vr l := by unfold vr; split <;> omega
  rw [ofB_in hl.1 (by rw [bin_len]; omega), bin_get V x _ (by omega)]
  unfold lf
  cases x.testBit (vr l - 1).toNat <;> by_cases hn : l < 0 <;> simp [hn]
theorem bin_val {V x : Nat} {c : List Int} (hc : ∀ l ∈ c, amB V l = true) : val (bin V x) c = if fal c x then -1 else 1 := by
  by_cases h : fal c x = true
  · rw [if_pos h, val_is_low]
    intro l hl
    rw [bin_of (hc l hl), if_pos (List.all_eq_true.1 h l hl)]
  · rw [if_neg h]
    rcases full_val (bin_full V x) hc with e | e
    · exact e
    · exfalso
      apply h
      rw [fal, List.all_eq_true]
      intro l hl
      have := (val_is_low _ _).1 e l hl
      rw [bin_of (hc l hl)] at this
      by_cases hf : lf l x = true
      · exact hf
      · rw [if_neg hf] at this; cases this
/-- no clause is false -/
theorem bin_fVal {V x : Nat} {cs : List (List Int)} (hc : ∀ c ∈ cs, ∀ l ∈ c, amB V l = true) : (fVal (bin V x) cs == 1) = !(cs.any fun c => fal c x) := by
  have h1 := fVal_one (bin V x) cs
  by_cases h : fVal (bin V x) cs = 1
  · rw [h]
    have : (cs.any fun c => fal c x) = false := by
      rw [List.any_eq_false]
      intro c hcc hf
      have := h1.1 h c hcc
      rw [bin_val (hc c hcc), if_pos hf] at this
      cases this
    rw [this]; rfl
  · have : (cs.any fun c => fal c x) = true := by
      rw [← Bool.not_eq_false, List.any_eq_false]
      intro hh
      apply h
      rw [h1]
      intro c hcc
      rw [bin_val (hc c hcc), if_neg (hh c hcc)]
    rw [this]
    simp [h]
/-- how many models a formula has -/
def models (V : Nat) (cs : List (List Int)) : Nat := cnt (fun x => fVal (bin V x) cs == 1) (2 ^ V)
theorem models_td {V : Nat} {cs : List (List Int)} (hc : ∀ c ∈ cs, ∀ l ∈ c, amB V l = true) : models V cs = cnt (fun x => !((td cs).any fun c => fal c x)) (2 ^ V) := by
  unfold models
  apply cnt_congr
  intro x _
  rw [← full_td (bin_full V x) hc, bin_fVal]
  intro c hcc l hl
  obtain ⟨d, hd, e⟩ := td_mem hcc
  rw [e, mem_setL] at hl
  exact hc d hd l hl
end Go.Cn
namespace Go.Cn
open Go
def o1 (x : Int) : Int := IntKind.u64.wrap (bits BinOp.and IntKind.u64 (x / 2) 6148914691236517205 + bits BinOp.and IntKind.u64 x 6148914691236517205)
def o2 (x : Int) : Int := IntKind.u64.wrap (bits BinOp.and IntKind.u64 (x / 4) 3689348814741910323 + bits BinOp.and IntKind.u64 x 3689348814741910323)
def o3 (x : Int) : Int := bits BinOp.and IntKind.u64 (IntKind.u64.wrap (x / 16 + x)) 1085102592571150095
def o4 (x : Int) : Int := IntKind.u64.wrap (x + x / 256)
def o5 (x : Int) : Int := IntKind.u64.wrap (x + x / 65536)
def o6 (x : Int) : Int := IntKind.u64.wrap (x + x / 4294967296)
theorem wrapU (a : Nat) (h : a < 18446744073709551616) : IntKind.u64.wrap (a : Int) = (a : Int) := by rw [IntKind.wrap_u64]; omega
theorem and_lt (a m b : Nat) (h : m < b) : a &&& m < b := Nat.lt_of_le_of_lt Nat.and_le_right h
theorem rep85 : rep 85 8 = 6148914691236517205 := by decide
theorem rep51 : rep 51 8 = 3689348814741910323 := by decide
theorem rep15 : rep 15 8 = 1085102592571150095 := by decide
theorem o1_eq (x : Nat) (h : x < 18446744073709551616) : o1 x = (s1 8 x : Nat) ∧ s1 8 x < 18446744073709551616 := by
  have e : ((x : Int) / 2) = ((x / 2 : Nat) : Int) := by omega
  have b1 := and_lt (x / 2) 6148914691236517205 6148914691236517206 (by omega)
  have b2 := and_lt x 6148914691236517205 6148914691236517206 (by omega)
  have hs : s1 8 x = (x / 2 &&& 6148914691236517205) + (x &&& 6148914691236517205) := by unfold s1; rw [rep85]
  unfold o1
  rw [e]
  have a1 : bits BinOp.and IntKind.u64 ((x / 2 : Nat) : Int) 6148914691236517205 = _ := bits_and_u64_nat (x / 2) 6148914691236517205 (by omega) (by omega)
  have a2 : bits BinOp.and IntKind.u64 (x : Int) 6148914691236517205 = _ := bits_and_u64_nat x 6148914691236517205 (by omega) (by omega)
  rw [a1, a2, ← Int.natCast_add, wrapU _ (by omega), hs]
  exact ⟨rfl, by omega⟩
theorem o2_eq (x : Nat) (h : x < 18446744073709551616) : o2 x = (s2 8 x : Nat) ∧ s2 8 x < 18446744073709551616 := by
  have e : ((x : Int) / 4) = ((x / 4 : Nat) : Int) := by omega
  have b1 := and_lt (x / 4) 3689348814741910323 3689348814741910324 (by omega)
  have b2 := and_lt x 3689348814741910323 3689348814741910324 (by omega)
  have hs : s2 8 x = (x / 4 &&& 3689348814741910323) + (x &&& 3689348814741910323) := by unfold s2; rw [rep51]
  unfold o2
  rw [e]
  have a1 : bits BinOp.and IntKind.u64 ((x / 4 : Nat) : Int) 3689348814741910323 = _ := bits_and_u64_nat (x / 4) 3689348814741910323 (by omega) (by omega)
  have a2 : bits BinOp.and IntKind.u64 (x : Int) 3689348814741910323 = _ := bits_and_u64_nat x 3689348814741910323 (by omega) (by omega)
  rw [a1, a2, ← Int.natCast_add, wrapU _ (by omega), hs]
  exact ⟨rfl, by omega⟩
theorem o3_eq (x : Nat) (h : x / 16 + x < 18446744073709551616) : o3 x = (s3 8 x : Nat) := by
  have e : ((x : Int) / 16 + (x : Int)) = ((x / 16 + x : Nat) : Int) := by omega
  have hs : s3 8 x = (x / 16 + x) &&& 1085102592571150095 := by unfold s3; rw [rep15]
  unfold o3
  rw [e, wrapU _ h]
  have a1 : bits BinOp.and IntKind.u64 ((x / 16 + x : Nat) : Int) 1085102592571150095 = _ := bits_and_u64_nat (x / 16 + x) 1085102592571150095 h (by omega)
  rw [a1, hs]
theorem and127 (a : Nat) (h : a < 9223372036854775808) : bits BinOp.and IntKind.i64 (a : Int) 127 = ((a % 128 : Nat) : Int) := by
  show IntKind.i64.wrap ((BitVec.ofInt 64 (a : Int) &&& BitVec.ofInt 64 ((127 : Nat) : Int)).toNat : Int) = _
  rw [BitVec.toNat_and, nat_ofInt a (by omega), nat_ofInt 127 (by omega)]
  have : a &&& 127 = a % 128 := by have := Nat.and_two_pow_sub_one_eq_mod a 7; simpa using this
  rw [this, IntKind.wrap_i64]
  omega
theorem s2_small (x : Nat) : s2 8 x ≤ 7378697629483820646 := by
  have b1 := and_lt (x / 4) 3689348814741910323 3689348814741910324 (by omega)
  have b2 := and_lt x 3689348814741910323 3689348814741910324 (by omega)
  unfold s2; rw [rep51]; omega
theorem ones_eq (x : Nat) (hx : x < 18446744073709551616) : ∃ u : Nat, o6 (o5 (o4 (o3 (o2 (o1 x))))) = (u : Int) ∧ u < 9223372036854775808 ∧ u % 128 = pc 64 x := by
  have h1 := o1_eq x hx
  have h2 := o2_eq (s1 8 x) h1.2
  have h2b := s2_small (s1 8 x)
  have h3 := o3_eq (s2 8 (s1 8 x)) (by omega)
  obtain ⟨q1, q2, q3, q4, q5⟩ := pop64 x hx _ rfl
  rw [h1.1, h2.1, h3]
  generalize s3 8 (s2 8 (s1 8 x)) = u at *
  refine ⟨_, ?_, q4, q5⟩
  unfold o4
  rw [show ((u : Int) + (u : Int) / 256) = ((u + u / 256 : Nat) : Int) by omega, wrapU _ q2]
  generalize u + u / 256 = v at *
  unfold o5
  rw [show ((v : Int) + (v : Int) / 65536) = ((v + v / 65536 : Nat) : Int) by omega, wrapU _ q3]
  generalize v + v / 65536 = t at *
  unfold o6
  rw [show ((t : Int) + (t : Int) / 4294967296) = ((t + t / 4294967296 : Nat) : Int) by omega, wrapU _ (by omega)]
end Go.Cn
namespace Go.Cn
/-- is a word struck by a subset from t on? -/
def Strk (fixed free t i : Nat) : Prop := ∃ s, s &&& free = s ∧ t ≤ s ∧ i = fixed ||| s
structure Sv (P fixed free low t : Nat) (ws ws' : List Nat) : Prop where
  len : ws'.length = P
  lt : ∀ i, ws'.getD i 0 < 18446744073709551616
  yes : ∀ i, i < P → Strk fixed free t i → ws'.getD i 0 = ws.getD i 0 ||| low
  no : ∀ i, i < P → ¬ Strk fixed free t i → ws'.getD i 0 = ws.getD i 0
theorem Sv.first {P fixed free low : Nat} {ws : List Nat} (hl : ws.length = P) (hb : ∀ i, ws.getD i 0 < 18446744073709551616) : Sv P fixed free low (free + 1) ws ws := by
  refine ⟨hl, hb, fun i _ h => ?_, fun _ _ _ => rfl⟩
  obtain ⟨s, h1, h2, _⟩ := h
  have : s &&& free ≤ free := Nat.and_le_right
  omega
theorem Sv.next {P fixed free low p : Nat} {ws ws' : List Nat} (h : Sv P fixed free low p ws ws') (hp : p &&& free = p) (h0 : 0 < p) : Sv P fixed free low (((p - 1) &&& free) + 1) ws ws' := by
  have key : ∀ i, Strk fixed free (((p - 1) &&& free) + 1) i ↔ Strk fixed free p i := by
    intro i
    constructor
    · rintro ⟨s, h1, h2, h3⟩
      refine ⟨s, h1, ?_, h3⟩
      by_cases hs : s < p
      · have := sub_le p free s hp h1 hs
        omega
      · omega
    · rintro ⟨s, h1, h2, h3⟩
      refine ⟨s, h1, ?_, h3⟩
      have : (p - 1) &&& free ≤ p - 1 := Nat.and_le_left
      omega
  exact ⟨h.len, h.lt, fun i hi hh => h.yes i hi ((key i).1 hh), fun i hi hh => h.no i hi (fun hx => hh ((key i).2 hx))⟩
theorem getD_set (ws : List Nat) (k i y : Nat) (hk : k < ws.length) : (ws.set k y).getD i 0 = if k = i then y else ws.getD i 0 := by
  rw [List.getD_eq_getElem?_getD, List.getElem?_set]
  by_cases e : k = i
  · subst e; rw [if_pos rfl, if_pos hk, if_pos rfl]; rfl
  · rw [if_neg e, if_neg e, List.getD_eq_getElem?_getD]
theorem Sv.body {P fixed free low p : Nat} {ws ws' : List Nat} (h : Sv P fixed free low (p + 1) ws ws') (hp : p &&& free = p) (hlow : low < 18446744073709551616) (hi : fixed ||| p < P) : Sv P fixed free low p ws (ws'.set (fixed ||| p) (ws'.getD (fixed ||| p) 0 ||| low)) := by
  have hk : fixed ||| p < ws'.length := by rw [h.len]; exact hi
  refine ⟨by rw [List.length_set]; exact h.len, fun i => ?_, fun i hi2 hs => ?_, fun i hi2 hs => ?_⟩
  · rw [getD_set _ _ _ _ hk]
    split
    · have := h.lt (fixed ||| p)
      have h3 : ws'.getD (fixed ||| p) 0 ||| low < 2 ^ 64 := Nat.or_lt_two_pow (by omega) (by omega)
      omega
    · exact h.lt i
  · rw [getD_set _ _ _ _ hk]
    split
    · next e =>
      subst e
      by_cases hq : Strk fixed free (p + 1) (fixed ||| p)
      · rw [h.yes _ hi2 hq, Nat.or_assoc, Nat.or_self]
      · rw [h.no _ hi2 hq]
    · next e =>
      apply h.yes i hi2
      obtain ⟨s, h1, h2, h3⟩ := hs
      refine ⟨s, h1, ?_, h3⟩
      by_cases hsp : s = p
      · subst hsp; exact absurd h3.symm e
      · omega
  · have e : ¬ (fixed ||| p = i) := fun e => hs ⟨p, hp, Nat.le_refl _, e.symm⟩
    rw [getD_set _ _ _ _ hk, if_neg e]
    apply h.no i hi2
    rintro ⟨s, h1, h2, h3⟩
    exact hs ⟨s, h1, by omega, h3⟩
theorem Sv.last {h : Nat} {c : List Int} {low fixed free : Nat} {ws ws' : List Nat} (hs : RSt h c low fixed free) (h2 : two c = false) (hlit : ∀ l ∈ c, litB l = true) (hv : Sv (2 ^ h) fixed free low 0 ws ws') :
    ∀ i, i < 2 ^ h → ∀ b, b < 64 → (ws'.getD i 0).testBit b = ((ws.getD i 0).testBit b || fal c (64 * i + b)) := by
  intro i hi b hb
  have hf := hs.fal h2 hlit hi hb
  by_cases hq : Strk fixed free 0 i
  · rw [hv.yes i hi hq, Nat.testBit_or]
    have : fal c (64 * i + b) = low.testBit b := by
      obtain ⟨s, a1, _, a3⟩ := hq
      by_cases hlb : low.testBit b = true
      · rw [hlb]; exact hf.2 ⟨hlb, s, a1, a3⟩
      · have e : low.testBit b = false := by simpa using hlb
        rw [e, Bool.eq_false_iff]
        exact fun hh => hlb (hf.1 hh).1
    rw [this]
  · rw [hv.no i hi hq]
    have : fal c (64 * i + b) = false := by
      rw [Bool.eq_false_iff]
      intro hh
      obtain ⟨s, a1, a3⟩ := (hf.1 hh).2
      exact hq ⟨s, a1, Nat.zero_le _, a3⟩
    rw [this]; simp
end Go.Cn
namespace Go.Cn
/-- Count's answer -/
def cnR (vars : Int) (cs : List (List Int)) : Nat := if (ck vars cs).2 = 0 then (if 20 < vars then 0 else models vars.toNat cs) else 0
def cnE (vars : Int) (cs : List (List Int)) : Int := if (ck vars cs).2 = 0 then (if 20 < vars then 21 else 0) else (ck vars cs).2
/-- what stands in the words behind some clauses -/
structure WSt (h : Nat) (T : List (List Int)) (ws : List Nat) : Prop where
  len : ws.length = 2 ^ h
  lt : ∀ i, ws.getD i 0 < 18446744073709551616
  bit : ∀ i, i < 2 ^ h → ∀ b, b < 64 → (ws.getD i 0).testBit b = T.any fun c => fal c (64 * i + b)
theorem WSt.nil (h : Nat) : WSt h [] (List.replicate (2 ^ h) 0) := by
  refine ⟨by simp, fun i => ?_, fun i hi b _ => ?_⟩
  · rw [List.getD_eq_getElem?_getD, List.getElem?_replicate]; split <;> simp
  · rw [List.getD_eq_getElem?_getD, List.getElem?_replicate, if_pos hi]; simp
theorem WSt.snoc {h : Nat} {T : List (List Int)} {ws ws' : List Nat} {c : List Int} (hs : WSt h T ws) (h1 : ws'.length = 2 ^ h) (h2 : ∀ i, ws'.getD i 0 < 18446744073709551616)
    (h3 : ∀ i, i < 2 ^ h → ∀ b, b < 64 → (ws'.getD i 0).testBit b = ((ws.getD i 0).testBit b || fal c (64 * i + b))) : WSt h (T ++ [c]) ws' := by
  refine ⟨h1, h2, fun i hi b hb => ?_⟩
  rw [h3 i hi b hb, hs.bit i hi b hb, List.any_append]
  simp
/-- the sum over the words is the number of models -/
theorem WSt.sum {V : Nat} {T : List (List Int)} {ws : List Nat} (hs : WSt (V - 6) T ws) : wsum (2 ^ min V 6) ws = cnt (fun x => !(T.any fun c => fal c x)) (2 ^ V) := by
  by_cases h6 : 6 ≤ V
  · rw [show min V 6 = 6 by omega]
    rw [wsum_cnt 64 (fun x => T.any fun c => fal c x) ws (fun i hi b hb => hs.bit i (by rw [← hs.len]; exact hi) b hb), hs.len, show 64 = 2 ^ 6 by rfl, ← Nat.pow_add, show 6 + (V - 6) = V by omega]
  · have e : V - 6 = 0 := by omega
    rw [e] at hs
    have hl : ws.length = 1 := hs.len
    rw [show min V 6 = V by omega]
    have hV : 2 ^ V ≤ 64 := by have := Nat.pow_le_pow_right (n := 2) (by omega) (show V ≤ 6 by omega); simpa using this
    rw [wsum_cnt (2 ^ V) (fun x => T.any fun c => fal c x) ws (fun i hi b hb => ?_), hl, Nat.mul_one]
    have hi0 : i = 0 := by omega
    subst hi0
    have := hs.bit 0 (by simp) b (by omega)
    rw [this]
    simp
/-- one word's part -/
theorem word_part (V w : Nat) (hw : w < 18446744073709551616) : ∃ y : Nat, IntKind.u64.wrap (bits .xor .u64 IntKind.u64.max (w : Int) * 2 ^ (64 - 2 ^ min V 6)) = (y : Int) ∧ y < 18446744073709551616 ∧ pc 64 y = cnt (fun b => !w.testBit b) (2 ^ min V 6) := by
  have hI : 2 ^ min V 6 ≤ 64 := by have := Nat.pow_le_pow_right (n := 2) (by omega) (show min V 6 ≤ 6 by omega); simpa using this
  generalize 2 ^ min V 6 = I at *
  obtain ⟨r, hr, hrl, hrb⟩ := notU w hw
  refine ⟨r * 2 ^ (64 - I) % 2 ^ 64, ?_, by have := Nat.mod_lt (r * 2 ^ (64 - I)) (show 0 < 2 ^ 64 by decide); omega, ?_⟩
  · rw [hr, IntKind.wrap_u64]
    have e : ((r : Int) * 2 ^ (64 - I)) = ((r * 2 ^ (64 - I) : Nat) : Int) := by simp
    rw [e]
    generalize r * 2 ^ (64 - I) = z
    omega
  · have := pc_shl (64 - I) I r
    rw [show 64 - I + I = 64 by omega] at this
    rw [this, pc_cnt]
    apply cnt_congr
    intro b hb
    exact hrb b (by omega)
theorem cnR_good {V : Nat} {cs : List (List Int)} (h0 : (ck (V : Int) cs).2 = 0) (hV : V ≤ 20) {ws : List Nat} (hs : WSt (V - 6) (td cs) ws) : wsum (2 ^ min V 6) ws = cnR (V : Int) cs := by
  unfold cnR
  rw [if_pos h0, if_neg (by omega), hs.sum, ← models_td (fun c hc l hl => ((ck_zero h0).2.2.2.1 c hc).2 l hl)]
  simp
end Go.Cn
