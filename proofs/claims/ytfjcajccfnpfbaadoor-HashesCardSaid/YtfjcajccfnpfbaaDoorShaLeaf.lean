import Derived.Test.YtfjcajccfnpfbaaDoorProg
import Derived.Test.YtfjcajccfnpfbaaDoorShaSpec
import Derived.WalkKit
import Derived.WalkSpells
import Derived.WalkLawsBesides
import Derived.Deep.QuietTactic
import Derived.BigQuiet
import Derived.Deep.RegionWith
import Derived.Deep.RegionHeld3
namespace Go.Proofs.YtfjcajccfnpfbaaDoor
open Go.RowKit
open Sha
theorem ret_int {k : IntKind} {a b : Int} (h : a = b) : Ending.returned (.int k a) = .returned (.int k b) := by rw [h]
theorem rot_mask (n : Int) (hn : 1 ≤ n) (hn' : n ≤ 31) : bits .and .u64 (IntKind.u64.wrap (-n)) 31 = 32 - n := by
  rw [IntKind.wrap_u64]
  have h1 : 0 ≤ -n % 18446744073709551616 := by omega
  have h2 : -n % 18446744073709551616 < 18446744073709551616 := by omega
  rw [u64_and _ _ h1 h2 (by omega) (by omega)]
  have e : (31 : Int).toNat = 2 ^ 5 - 1 := by decide
  rw [e, Nat.and_two_pow_sub_one_eq_mod]
  omega
set_option maxHeartbeats 400000 in
theorem rot_any (x n : Int) (w : World) (hw : W32 x) (hn : 1 ≤ n) (hn' : n ≤ 31) :
    Calls Tryd.prog 115 #[.int .u32 x, .int .i64 (-n)] w fun e w' => e = .returned (.int .u32 (rr n.toNat x)) ∧ w' = w := by
  have hs := rot_mask n hn hn'
  have h0 : 0 ≤ 32 - n := by omega
  have H : Hid (bits .or .u32 (x * 2 ^ (32 - n).toNat % 4294967296) (x / 2 ^ (32 - (32 - n)).toNat) = rr n.toNat x) := u32_rr n hw hn hn'
  obtain ⟨hx, hx'⟩ := hw
  go_enter Tryd.func115, Tryd.ntmps115
  go_wp2
  go_ret
  exact ⟨ret_int H.out, rfl⟩
set_option maxHeartbeats 400000 in
theorem turned_any (x a b c : Int) (w : World) (hx : W32 x) (ha : 1 ≤ a) (ha' : a ≤ 31) (hb : 1 ≤ b) (hb' : b ≤ 31) (hc : 1 ≤ c) (hc' : c ≤ 31) :
    Calls Tryd.prog 100 #[.int .u32 x, .int .i64 a, .int .i64 b, .int .i64 c] w fun e w' => e = .returned (.int .u32 (bs a.toNat b.toNat c.toNat x)) ∧ w' = w := by
  have hra := rr_w (n := a.toNat) hx
  have hrb := rr_w (n := b.toNat) hx
  have hrc := rr_w (n := c.toNat) hx
  have H : Hid (bits .xor .u32 (bits .xor .u32 (rr a.toNat x) (rr b.toNat x)) (rr c.toNat x) = bs a.toNat b.toNat c.toNat x) := by
    show bits .xor .u32 (bits .xor .u32 (rr a.toNat x) (rr b.toNat x)) (rr c.toNat x) = bs a.toNat b.toNat c.toNat x
    rw [u32_xo hra hrb, u32_xo (xo_w hra hrb) hrc]; rfl
  go_enter Tryd.func100, Tryd.ntmps100
  go_wp2_with fail
  refine (rot_any _ _ _ hx ha ha').mono ?_
  rintro e w' ⟨rfl, rfl⟩
  go_wp2_with fail
  refine (rot_any _ _ _ hx hb hb').mono ?_
  rintro e w' ⟨rfl, rfl⟩
  go_wp2_with fail
  refine (rot_any _ _ _ hx hc hc').mono ?_
  rintro e w' ⟨rfl, rfl⟩
  go_wp2_with fail
  go_ret
  exact ⟨ret_int H.out, rfl⟩
set_option maxHeartbeats 400000 in
theorem shifted_any (x a b c : Int) (w : World) (hx : W32 x) (ha : 1 ≤ a) (ha' : a ≤ 31) (hb : 1 ≤ b) (hb' : b ≤ 31) (hc : 1 ≤ c) (hc' : c ≤ 31) :
    Calls Tryd.prog 101 #[.int .u32 x, .int .i64 a, .int .i64 b, .int .i64 c] w fun e w' => e = .returned (.int .u32 (ss a.toNat b.toNat c.toNat x)) ∧ ∃ n, w' = w.drewN n := by
  have hra := rr_w (n := a.toNat) hx
  have hrb := rr_w (n := b.toNat) hx
  have hrc := shr_w (n := c.toNat) hx
  have H : Hid (bits .xor .u32 (bits .xor .u32 (rr a.toNat x) (rr b.toNat x)) (x / 2 ^ c.toNat) = ss a.toNat b.toNat c.toNat x) := by
    show bits .xor .u32 (bits .xor .u32 (rr a.toNat x) (rr b.toNat x)) (x / 2 ^ c.toNat) = ss a.toNat b.toNat c.toNat x
    rw [u32_xo hra hrb, u32_xo (xo_w hra hrb) hrc]; rfl
  have hc0 : 0 ≤ c := by omega
  obtain ⟨hx0, hx1⟩ := hx
  go_enter Tryd.func101, Tryd.ntmps101
  go_wp2
  go_quiet ((first | (go_at_call_of 115 (Value.int IntKind.i64 (-a)); exact Calls.quiet_of_same (rot_any _ _ _ ⟨hx0, hx1⟩ ha ha')) | (go_at_call_of 115 (Value.int IntKind.i64 (-b)); exact Calls.quiet_of_same (rot_any _ _ _ ⟨hx0, hx1⟩ hb hb'))))
  go_wp2
  go_ret
  exact ⟨ret_int H.out, _, rfl⟩
set_option maxHeartbeats 400000 in
theorem turn_any (x n : Int) (w : World) (hx : W32 x) (hn : 2 ≤ n) (hn' : n ≤ 31) :
    Calls Tryd.prog 48 #[.int .i64 x, .int .i64 n] w fun e w' => e = .returned (.int .i64 (rr n.toNat x)) ∧ ∃ n, w' = w.drewN n := by
  obtain ⟨k, rfl⟩ := Int.eq_ofNat_of_zero_le (show 0 ≤ n by omega)
  have h2 : 2 ≤ k := by omega
  have h31 : k ≤ 31 := by omega
  have hm := shl_w62 (k := 32 - k) hx (by omega)
  have H : Hid (bits .and .i64 (bits .or .i64 (x / 2 ^ k) (x * 2 ^ (32 - k))) 4294967295 = rr k x) := i64_rr k hx h2 h31
  have hx0 := hx.1
  have hx1 := hx.2
  have hm0 := hm.1
  have hm1 := hm.2
  go_enter Tryd.func48, Tryd.ntmps48
  go_wp2
  go_quiet (fail)
  go_wp2
  go_ret
  exact ⟨ret_int H.out, _, rfl⟩
end Go.Proofs.YtfjcajccfnpfbaaDoor
