import Derived.Test.YtfjcajccfnpfbaaDoorShaSpec
namespace Go.Proofs.YtfjcajccfnpfbaaDoor.Sha

/-- k blocks of a text -/
def sa (h : S8) (l : List UInt8) : Nat → S8
  | 0 => h
  | k + 1 => comp (sa h l k) (bf ((l.drop (64 * k)).take 64))
theorem sa_ok {h : S8} (hh : h.Ok) (l : List UInt8) : ∀ k, (sa h l k).Ok
  | 0 => hh
  | _ + 1 => comp_ok _ _
theorem sa_append (h : S8) (l m : List UInt8) (n : Nat) (hl : l.length = 64 * n) : ∀ k, sa h (l ++ m) (n + k) = sa (sa h (l ++ m) n) m k
  | 0 => rfl
  | k + 1 => by
    have ih := sa_append h l m n hl k
    show comp (sa h (l ++ m) (n + k)) (bf (((l ++ m).drop (64 * (n + k))).take 64)) = comp (sa (sa h (l ++ m) n) m k) (bf ((m.drop (64 * k)).take 64))
    rw [ih]
    congr 2
    rw [List.drop_append, List.drop_of_length_le (by omega), List.nil_append, hl]
    rw [show 64 * (n + k) - 64 * n = 64 * k by omega]
theorem sa_take (h : S8) (l m : List UInt8) (n : Nat) (hl : l.length = 64 * n) : ∀ k, k ≤ n → sa h (l ++ m) k = sa h l k
  | 0, _ => rfl
  | k + 1, hk => by
    have ih := sa_take h l m n hl k (by omega)
    show comp (sa h (l ++ m) k) _ = comp (sa h l k) _
    rw [ih]
    congr 2
    rw [List.drop_append_of_le_length (by omega), List.take_append_of_le_length (by simp; omega)]

/-- the first words -/
def h0 : S8 := ⟨1779033703, 3144134277, 1013904242, 2773480762, 1359893119, 2600822924, 528734635, 1541459225⟩
theorem h0_ok : h0.Ok := ⟨⟨by decide, by decide⟩, ⟨by decide, by decide⟩, ⟨by decide, by decide⟩, ⟨by decide, by decide⟩, ⟨by decide, by decide⟩, ⟨by decide, by decide⟩, ⟨by decide, by decide⟩, ⟨by decide, by decide⟩⟩
/-- the length's eight bytes, the greatest first -/
def lenb (n : Nat) : List UInt8 := [UInt8.ofNat (8 * n / 2 ^ 56), UInt8.ofNat (8 * n / 2 ^ 48), UInt8.ofNat (8 * n / 2 ^ 40), UInt8.ofNat (8 * n / 2 ^ 32), UInt8.ofNat (8 * n / 2 ^ 24), UInt8.ofNat (8 * n / 2 ^ 16), UInt8.ofNat (8 * n / 2 ^ 8), UInt8.ofNat (8 * n)]
/-- how many noughts: (n + 1 + zeros) % 64 = 56 -/
def zeros (n : Nat) : Nat := (119 - n % 64) % 64
def pad (l : List UInt8) : List UInt8 := l ++ 128 :: (List.replicate (zeros l.length) 0 ++ lenb l.length)
/-- a word's four bytes, the greatest first -/
def wb (x : Int) : List UInt8 := [UInt8.ofNat (x.toNat / 2 ^ 24), UInt8.ofNat (x.toNat / 2 ^ 16), UInt8.ofNat (x.toNat / 2 ^ 8), UInt8.ofNat x.toNat]
def outb (s : S8) : List UInt8 := wb s.a ++ wb s.b ++ wb s.c ++ wb s.d ++ wb s.e ++ wb s.f ++ wb s.g ++ wb s.h
def sha (l : List UInt8) : List UInt8 := outb (sa h0 (pad l) ((pad l).length / 64))
theorem outb_len (s : S8) : (outb s).length = 32 := rfl
theorem pad_len (l : List UInt8) : (pad l).length % 64 = 0 := by
  simp [pad, lenb, zeros]; omega
/-- what the code's last block or two are -/
def tail (l : List UInt8) : List UInt8 := l.drop (64 * (l.length / 64)) ++ 128 :: (List.replicate (zeros l.length) 0 ++ lenb l.length)
theorem pad_split (l : List UInt8) : pad l = l.take (64 * (l.length / 64)) ++ tail l := by
  unfold pad tail
  rw [← List.append_assoc, List.take_append_drop]
theorem sha_split (l : List UInt8) : sha l = outb (sa (sa h0 (l.take (64 * (l.length / 64))) (l.length / 64)) (tail l) ((tail l).length / 64)) := by
  have hl : (l.take (64 * (l.length / 64))).length = 64 * (l.length / 64) := by simp; omega
  have hp := pad_split l
  have hn : (pad l).length / 64 = l.length / 64 + (tail l).length / 64 := by
    rw [hp, List.length_append, hl]; omega
  unfold sha
  rw [hn, hp, sa_append _ _ _ _ hl, sa_take _ _ _ _ hl _ (Nat.le_refl _)]
end Go.Proofs.YtfjcajccfnpfbaaDoor.Sha
