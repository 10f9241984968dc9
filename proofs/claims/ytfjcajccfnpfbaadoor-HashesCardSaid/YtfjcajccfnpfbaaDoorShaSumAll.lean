import Derived.Test.YtfjcajccfnpfbaaDoorShaSum
namespace Go.Proofs.YtfjcajccfnpfbaaDoor
open Go.RowKit
open Sha
structure Sm (w : World) (h : S8) (wr : World) : Prop where
  res : wr.heap[w.heap.size]? = some (.cells (u8s (List.replicate 32 0)).toArray 95)
  own : wr.heap[w.heap.size + 1]? = some (.cells (u32s h.list).toArray 110)
  below : Below w.heap.size w wr
theorem Sm.lt {w wr : World} {h : S8} (s : Sm w h wr) : w.heap.size + 1 < wr.heap.size := (Array.getElem?_eq_some_iff.1 s.own).1
theorem Sm.later {w wr w1 : World} {h : S8} (s : Sm w h wr) (hb : Below wr.heap.size wr w1) : Sm w h w1 := by
  have := s.lt
  exact ⟨(hb.block _ (by omega)).trans s.res, (hb.block _ (by omega)).trans s.own, s.below.trans (hb.mono (by omega))⟩
theorem Sm.drew {w wr : World} {h : S8} (s : Sm w h wr) : Sm w h wr.drew := ⟨s.res, s.own, s.below.drew⟩
theorem Sm.set {w wr : World} {h : S8} (s : Sm w h wr) (t : S8) : Sm w t (set8 wr (w.heap.size + 1) t) :=
  ⟨(set8_other t (by omega)).trans s.res, set8_same t s.own, set8_below t s.below (by omega)⟩
theorem Sm.k {w wr : World} {h : S8} (s : Sm w h wr) (hk : KAt w) : KAt wr := hk.below s.below (Nat.le_refl _)
theorem exit_gen {K : Act → World → Prop} {Q : Exit → Act → World → Prop} {e : Exit} {a : Act} {W0 : World} (S : World → Prop) (hS : S W0) (h : ∀ W, S W → Exit.then K Q e a W) : Exit.then K Q e a W0 := h _ hS
theorem wp_gen {P : Program} {c : Code} {Q : Exit → Act → World → Prop} {a : Act} {W0 : World} (S : World → Prop) (hS : S W0) (h : ∀ W, S W → c.wp P Q a W) : c.wp P Q a W0 := h _ hS
set_option maxRecDepth 100000 in
set_option maxHeartbeats 1000000 in
theorem Sum_any (s : ByteArray) (hs : s.size < 72057594037927936) (w : World) (hk : KAt w) :
    Calls Tryd.prog 47 #[.string s] w fun e w' => e = .returned (.agg (u8s (sha s.data.toList)).toArray) ∧ Below w.heap.size w w' := by
  have hq : s.size % 64 ≤ s.size := Nat.mod_le _ _
  go_enter Tryd.func47, Tryd.ntmps47
  go_wp2
  refine wp_gen (Sm w h0) ⟨(heap_push2 w _ _).1, (heap_push2 w _ _).2, ((Below.refl _ _).alloc (Nat.le_refl _) _).alloc (by simp) _⟩ ?_
  intro W hsm
  obtain ⟨c0, c1, c2, c3, c4, c5, c6, c7, cf⟩ := cells8 hsm.own
  have hn : s.data.toList.length = s.size := by simp
  have hq2 : s.size - s.size % 64 = 64 * (s.size / 64) := by omega
  have e1 : (s.extract 0 (s.size - s.size % 64)).data.toList = s.data.toList.take (64 * (s.size / 64)) := by
    rw [toList_extract, hq2]; simp
  have e2 : (s.extract (s.size - s.size % 64) s.size).data.toList = s.data.toList.drop (64 * (s.size / 64)) := by
    rw [toList_extract, hq2, ← hn, List.take_length]
  have z1 : (s.extract 0 (s.size - s.size % 64)).size = 64 * (s.size / 64) := by simp; omega
  have z2 : (s.extract (s.size - s.size % 64) s.size).size = s.size % 64 := by simp; omega
  have hA : ∀ w, KAt w → Calls Tryd.prog 58 #[.agg (agg8 h0), .string (s.extract 0 (s.size - s.size % 64))] w fun e w' => e = .returned (.agg (agg8 (sa h0 (s.data.toList.take (64 * (s.size / 64))) (s.size / 64)))) ∧ Below w.heap.size w w' := fun w hkw => by
    have := stirAll_any h0 h0_ok (s.extract 0 (s.size - s.size % 64)) (by rw [z1]; unfold maxLen; omega) w hkw
    rw [e1, z1, show 64 * (s.size / 64) / 64 = s.size / 64 by omega] at this
    exact this
  have hB : ∀ w, Calls Tryd.prog 59 #[.string (s.extract (s.size - s.size % 64) s.size), .int .i64 s.size] w fun e w' => e = .returned (.string ⟨(tail s.data.toList).toArray⟩) ∧ Below w.heap.size w w' := fun w => by
    have := ending_any (s.extract (s.size - s.size % 64) s.size) s.size z2 hs w
    rw [e2] at this
    unfold tail
    rw [hn]
    exact this
  have hX : (sa h0 (s.data.toList.take (64 * (s.size / 64))) (s.size / 64)).Ok := sa_ok h0_ok _ _
  generalize hXe : sa h0 (s.data.toList.take (64 * (s.size / 64))) (s.size / 64) = X at *
  have ht128 : (tail s.data.toList).length ≤ 256 := by
    simp [tail, lenb_len, zeros, hn]; omega
  generalize hTe : tail s.data.toList = T at *
  have hC : ∀ w, KAt w → Calls Tryd.prog 58 #[.agg (agg8 X), .string ⟨T.toArray⟩] w fun e w' => e = .returned (.agg (agg8 (sa X T (T.length / 64)))) ∧ Below w.heap.size w w' := fun w hkw => by
    have hsz : (ByteArray.mk T.toArray).size = T.length := by simp [ByteArray.size]
    have := stirAll_any X hX ⟨T.toArray⟩ (by rw [hsz]; unfold maxLen; omega) w hkw
    rw [hsz] at this
    exact this
  have hY : (sa X T (T.length / 64)).Ok := sa_ok hX _ _
  have hout : outb (sa X T (T.length / 64)) = sha s.data.toList := by
    rw [sha_split, hn, hXe, hTe]
  generalize sa X T (T.length / 64) = Y at *
  have hD : ∀ w, Calls Tryd.prog 60 #[.agg (agg8 Y)] w fun e w' => e = .returned (.agg (u8s (sha s.data.toList)).toArray) ∧ Below w.heap.size w w' := fun w => by
    have := sum_any Y hY w
    rw [hout] at this
    exact this
  have hol : (sha s.data.toList).length = 32 := by rw [← hout]; exact outb_len Y
  have HA := hide hA
  have HB := hide hB
  have HC := hide hC
  have HD := hide hD
  have HK0 := hide hk
  have HS := hide hsm
  have HOL := hide hol
  generalize hR : sha s.data.toList = R at *
  have HR := hide hR
  clear hA hB hC hD hsm hol hR hout hXe hTe hX hY e1 e2 z1 z2 hk ht128 hn hq2
  unfold agg8 h0 at HA
  unfold agg8 at HC HD
  have q1 : (s.size : Int) % 64 ≤ (s.size : Int) := by omega
  have q2 : IntKind.i64.wrap ((s.size : Int) - (s.size : Int) % 64) = (s.size : Int) - (s.size : Int) % 64 := by rw [IntKind.wrap_i64]; omega
  have q3 : ((s.size : Int) - (s.size : Int) % 64).toNat = s.size - s.size % 64 := by omega
  have q4 : (0 : Int) ≤ (s.size : Int) - (s.size : Int) % 64 := by omega
  have q5 : (s.size : Int) - (s.size : Int) % 64 ≤ (s.size : Int) := by omega
  go_region_with (first | (go_at_call 58; refine (HA.out _ (HS.out.drew.k HK0.out)).mono ?_; rintro e w1 ⟨rfl, hb1⟩; have HS1 := hide (HS.out.drew.later hb1); obtain ⟨d0, d1, d2, d3, d4, d5, d6, d7, df⟩ := cells8 HS1.out.own))
  have HS2 := hide (HS1.out.set X)
  clear c0 c1 c2 c3 c4 c5 c6 c7 cf d0 d1 d2 d3 d4 d5 d6 d7 df
  go_wp2
  refine wp_gen (Sm w X) HS2.out ?_
  intro W2 hsm2
  obtain ⟨c0, c1, c2, c3, c4, c5, c6, c7, cf⟩ := cells8 hsm2.own
  have HSM2 := hide hsm2
  clear hsm2 HS1 HS2 HS HA
  go_region_with (first | (go_at_call 59; refine (HB.out _).mono ?_; rintro e w3 ⟨rfl, hb3⟩; have HS3 := hide (HSM2.out.drew.later hb3); obtain ⟨d0, d1, d2, d3, d4, d5, d6, d7, df⟩ := cells8 HS3.out.own) | (go_at_call 58; refine (HC.out _ (HS3.out.k HK0.out)).mono ?_; rintro e w4 ⟨rfl, hb4⟩; have HS4 := hide (HS3.out.later hb4); obtain ⟨e0, e1, e2, e3, e4, e5, e6, e7, ef⟩ := cells8 HS4.out.own))
  all_goals
    have HS5 := hide (HS4.out.set Y)
    clear c0 c1 c2 c3 c4 c5 c6 c7 cf d0 d1 d2 d3 d4 d5 d6 d7 df e0 e1 e2 e3 e4 e5 e6 e7 ef HSM2 HS3 HS4 HB HC
    refine exit_gen (Sm w Y) HS5.out ?_
    clear HS5
    intro W5 hsm5
    obtain ⟨c0, c1, c2, c3, c4, c5, c6, c7, cf⟩ := cells8 hsm5.own
    have HS5 := hide hsm5
    clear hsm5
    go_wp2_with fail
    refine (HD.out _).mono ?_
    rintro e w6 ⟨rfl, hb6⟩
    have HS6 := hide (HS5.out.later hb6)
    clear c0 c1 c2 c3 c4 c5 c6 c7 cf HD
    go_wp2_with (refine wpList_store_row rfl 95 (.tmp 2) (.tmp 29) rfl w.heap.size (u8s R).toArray rfl rfl 95 _ HS6.out.res (u8s_info HOL.out) (by simp [u8s, HOL.out]) (u8s_one _) ?_)
    refine bodyPost_ret (v := .agg (u8s R).toArray) ?_ rfl ⟨by rw [HR.out], ?_⟩
    · exact results_cell_row (p := 2) (ty := 95) rfl _ _ w.heap.size 95 _ (0, 0) (.array 32 5) rfl (setRow_heap _ _ _ _ _ _ HS6.out.res) (by kernel_rfl) rfl (u8s_info HOL.out)
    · exact below_setRow HS6.out.below (Nat.le_refl _) _
end Go.Proofs.YtfjcajccfnpfbaaDoor
