import Derived.WalkKit
namespace Go.Proofs.YtfjcajccfnpfbaaDoor.Sha

def rr (n : Nat) (x : Int) : Int := ((x.toNat / 2 ^ n ||| x.toNat * 2 ^ (32 - n) % 4294967296 : Nat) : Int)
def xo (a b : Int) : Int := ((a.toNat ^^^ b.toNat : Nat) : Int)
def an (a b : Int) : Int := ((a.toNat &&& b.toNat : Nat) : Int)
structure W32 (x : Int) : Prop where
  lo : 0 ≤ x
  hi : x < 4294967296

theorem xo_w {a b : Int} (ha : W32 a) (hb : W32 b) : W32 (xo a b) := by
  obtain ⟨a0, a1⟩ := ha; obtain ⟨b0, b1⟩ := hb
  have h : a.toNat ^^^ b.toNat < 2 ^ 32 := Nat.xor_lt_two_pow (by omega) (by omega)
  unfold xo
  exact ⟨by omega, by omega⟩
theorem an_w {a b : Int} (_ha : W32 a) (hb : W32 b) : W32 (an a b) := by
  obtain ⟨b0, b1⟩ := hb
  have h : a.toNat &&& b.toNat < 2 ^ 32 := Nat.and_lt_two_pow _ (by omega)
  unfold an
  exact ⟨by omega, by omega⟩
theorem div_pow_lt (x n : Nat) (h : x < 4294967296) : x / 2 ^ n < 4294967296 := Nat.lt_of_le_of_lt (Nat.div_le_self _ _) h
theorem rr_w {n : Nat} {x : Int} (hx : W32 x) : W32 (rr n x) := by
  obtain ⟨x0, x1⟩ := hx
  have h1 := div_pow_lt x.toNat n (by omega)
  have h : x.toNat / 2 ^ n ||| x.toNat * 2 ^ (32 - n) % 4294967296 < 2 ^ 32 := Nat.or_lt_two_pow (by omega) (by omega)
  unfold rr
  exact ⟨by omega, by omega⟩
theorem shr_w {n : Nat} {x : Int} (hx : W32 x) : W32 (x / 2 ^ n) := by
  obtain ⟨x0, x1⟩ := hx
  obtain ⟨a, rfl⟩ := Int.eq_ofNat_of_zero_le x0
  have h1 := div_pow_lt a n (by omega)
  have e : ((a : Int) / 2 ^ n) = ((a / 2 ^ n : Nat) : Int) := by simp
  rw [e]
  generalize a / 2 ^ n = q at h1
  exact ⟨by omega, by omega⟩
theorem mod_w (x : Int) : W32 (x % 4294967296) := ⟨by omega, by omega⟩

/-! the code's operations: uint32 -/
theorem u32_xo {a b : Int} (ha : W32 a) (hb : W32 b) : bits .xor .u32 a b = xo a b := u32_xor a b ha.1 ha.2 hb.1 hb.2
theorem u32_an {a b : Int} (ha : W32 a) (hb : W32 b) : bits .and .u32 a b = an a b := u32_and a b ha.1 ha.2 hb.1 hb.2
theorem u32_rr {x : Int} (n : Int) (hx : W32 x) (hn : 1 ≤ n) (hn' : n ≤ 31) :
    bits .or .u32 (x * 2 ^ (32 - n).toNat % 4294967296) (x / 2 ^ (32 - (32 - n)).toNat) = rr n.toNat x := by
  obtain ⟨k, rfl⟩ := Int.eq_ofNat_of_zero_le (show 0 ≤ n by omega)
  have e1 : (32 - (k : Int)).toNat = 32 - k := by omega
  have e2 : (32 - (32 - (k : Int))).toNat = k := by omega
  rw [e1, e2]
  have hd := shr_w (n := k) hx
  obtain ⟨x0, x1⟩ := hx
  obtain ⟨a, rfl⟩ := Int.eq_ofNat_of_zero_le x0
  have hm := mod_w ((a : Int) * 2 ^ (32 - k))
  rw [u32_or _ _ hm.1 hm.2 hd.1 hd.2]
  have e3 : ((a : Int) * 2 ^ (32 - k) % 4294967296).toNat = a * 2 ^ (32 - k) % 4294967296 := by
    have : ((a : Int) * 2 ^ (32 - k) % 4294967296) = ((a * 2 ^ (32 - k) % 4294967296 : Nat) : Int) := by simp
    rw [this, Int.toNat_natCast]
  have e4 : ((a : Int) / 2 ^ k).toNat = a / 2 ^ k := by
    have : ((a : Int) / 2 ^ k) = ((a / 2 ^ k : Nat) : Int) := by simp
    rw [this, Int.toNat_natCast]
  rw [e3, e4, Nat.or_comm]
  unfold rr
  simp

/-! the paper's operations: int, words below 2^62 -/
structure W62 (x : Int) : Prop where
  lo : 0 ≤ x
  hi : x < 4611686018427387904
theorem W32.w62 {x : Int} (h : W32 x) : W62 x := ⟨h.1, by have := h.2; omega⟩
theorem wraps_i64 (n : Int) (h0 : 0 ≤ n) (h1 : n < 2 ^ 62) : IntKind.i64.wrap n = n := by rw [IntKind.wrap_i64]; omega
theorem i64_an {a b : Int} (ha : W62 a) (hb : W62 b) : bits .and .i64 a b = an a b := by
  obtain ⟨A, rfl⟩ := Int.eq_ofNat_of_zero_le ha.1
  obtain ⟨B, rfl⟩ := Int.eq_ofNat_of_zero_le hb.1
  have h1 := ha.2; have h2 := hb.2
  rw [(bits_nat .i64 62 (by decide) wraps_i64 A B (by omega) (by omega)).1]
  simp [an]
theorem i64_or {a b : Int} (ha : W62 a) (hb : W62 b) : bits .or .i64 a b = ((a.toNat ||| b.toNat : Nat) : Int) := by
  obtain ⟨A, rfl⟩ := Int.eq_ofNat_of_zero_le ha.1
  obtain ⟨B, rfl⟩ := Int.eq_ofNat_of_zero_le hb.1
  have h1 := ha.2; have h2 := hb.2
  rw [(bits_nat .i64 62 (by decide) wraps_i64 A B (by omega) (by omega)).2]
  simp
theorem i64_xo {a b : Int} (ha : W62 a) (hb : W62 b) : bits .xor .i64 a b = xo a b := by
  obtain ⟨A, rfl⟩ := Int.eq_ofNat_of_zero_le ha.1
  obtain ⟨B, rfl⟩ := Int.eq_ofNat_of_zero_le hb.1
  have h1 := ha.2; have h2 := hb.2
  have hx : A ^^^ B < 2 ^ 62 := Nat.xor_lt_two_pow (by omega) (by omega)
  have a1 : A % 18446744073709551616 = A := Nat.mod_eq_of_lt (by omega)
  have b1 : B % 18446744073709551616 = B := Nat.mod_eq_of_lt (by omega)
  show IntKind.i64.wrap ((BitVec.ofInt 64 (A : Int) ^^^ BitVec.ofInt 64 (B : Int)).toNat : Int) = _
  rw [BitVec.toNat_xor, BitVec.ofInt_natCast, BitVec.ofInt_natCast, BitVec.toNat_ofNat, BitVec.toNat_ofNat]
  simp only [Nat.reducePow, a1, b1]
  rw [wraps_i64 _ (by omega) (by omega)]
  simp [xo]
theorem i64_low {a : Int} (ha : W62 a) : bits .and .i64 a 4294967295 = a % 4294967296 := by
  obtain ⟨A, rfl⟩ := Int.eq_ofNat_of_zero_le ha.1
  rw [i64_an ha ⟨by omega, by omega⟩]
  unfold an
  have e : ((4294967295 : Int)).toNat = 2 ^ 32 - 1 := by decide
  rw [e, Int.toNat_natCast, Nat.and_two_pow_sub_one_eq_mod]
  simp
theorem shl_w62 {k : Nat} {x : Int} (hx : W32 x) (hk : k ≤ 30) : W62 (x * 2 ^ k) := by
  obtain ⟨x0, x1⟩ := hx
  have h1 : (2 : Int) ^ k ≤ 2 ^ 30 := by
    have h := Nat.pow_le_pow_right (show 0 < 2 by decide) hk
    have e : (2 : Int) ^ k = ((2 ^ k : Nat) : Int) := by simp
    rw [e]; generalize 2 ^ k = q at h; omega
  have h0 : (0 : Int) < 2 ^ k := Int.pow_pos (by decide)
  refine ⟨Int.mul_nonneg x0 (Int.le_of_lt h0), ?_⟩
  have h2 : x * 2 ^ k ≤ 4294967295 * 2 ^ 30 := Int.mul_le_mul (by omega) h1 (Int.le_of_lt h0) (by omega)
  omega
theorem i64_rr {x : Int} (n : Nat) (hx : W32 x) (hn : 2 ≤ n) (hn' : n ≤ 31) :
    bits .and .i64 (bits .or .i64 (x / 2 ^ n) (x * 2 ^ (32 - n))) 4294967295 = rr n x := by
  have hd := (shr_w (n := n) hx).w62
  have hm := shl_w62 (k := 32 - n) hx (by omega)
  have hw := shr_w (n := n) hx
  rw [i64_or hd hm]
  obtain ⟨x0, x1⟩ := hx
  obtain ⟨a, rfl⟩ := Int.eq_ofNat_of_zero_le x0
  have e4 : ((a : Int) / 2 ^ n).toNat = a / 2 ^ n := by
    have : ((a : Int) / 2 ^ n) = ((a / 2 ^ n : Nat) : Int) := by simp
    rw [this, Int.toNat_natCast]
  have e3 : ((a : Int) * 2 ^ (32 - n)).toNat = a * 2 ^ (32 - n) := by
    have : ((a : Int) * 2 ^ (32 - n)) = ((a * 2 ^ (32 - n) : Nat) : Int) := by simp
    rw [this, Int.toNat_natCast]
  have m1 := hd.2
  have m2 := hm.2
  have hor : (a / 2 ^ n ||| a * 2 ^ (32 - n)) < 2 ^ 62 := by
    refine Nat.or_lt_two_pow ?_ ?_
    · rw [← e4]; have := hw.2; have := hw.1; omega
    · rw [← e3]; have := hm.1; omega
  rw [e3, e4, i64_low ⟨by omega, by omega⟩]
  unfold rr
  have e5 : ((a / 2 ^ n ||| a * 2 ^ (32 - n) : Nat) : Int) % 4294967296 = (((a / 2 ^ n ||| a * 2 ^ (32 - n)) % 2 ^ 32 : Nat) : Int) := by simp
  rw [e5, Nat.or_mod_two_pow, Int.toNat_natCast]
  have e6 : a / 2 ^ n % 2 ^ 32 = a / 2 ^ n := Nat.mod_eq_of_lt (by have := div_pow_lt a n (by omega); omega)
  rw [e6]

end Go.Proofs.YtfjcajccfnpfbaaDoor.Sha
