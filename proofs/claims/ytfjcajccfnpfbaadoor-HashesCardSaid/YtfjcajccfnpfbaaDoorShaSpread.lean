import Derived.Test.YtfjcajccfnpfbaaDoorShaMem
import Derived.RegionTactic
import Derived.BigRegion
import Derived.Deep.RegionHeld3
namespace Go.Proofs.YtfjcajccfnpfbaaDoor
open Go.RowKit
open Sha
def Z64 : List Int := List.replicate 64 0
structure Sp (w : World) (L : List Int) (wr : World) : Prop where
  res : wr.heap[w.heap.size]? = some (.cells (u32s Z64).toArray 145)
  own : wr.heap[w.heap.size + 1]? = some (.cells (u32s L).toArray 145)
  below : Below w.heap.size w wr
theorem Sp.frozen {w wr : World} {L : List Int} (h : Sp w L wr) (i : Nat) : wr.frozen? ⟨w.heap.size + 1, i, none⟩ = false := frozen_of_row wr _ i _ 145 h.own
theorem Sp.cell {w wr : World} {L : List Int} (h : Sp w L wr) (i : Nat) (hi : i < L.length) : wr.cell? ⟨w.heap.size + 1, i, none⟩ = some (.int .u32 (L.getD i 0)) := cell_u32s L wr _ i 145 (0, 0) h.own hi
theorem Sp.drewN {w wr : World} {L : List Int} (h : Sp w L wr) (n : Nat) : Sp w L (wr.drewN n) := ⟨h.res, h.own, below_drewN h.below n⟩
theorem Sp.set {w wr : World} {L : List Int} (h : Sp w L wr) (i : Nat) (x : Int) : Sp w (L.set i x) (wr.setCell ⟨w.heap.size + 1, i, none⟩ (.int .u32 x)) := by
  refine ⟨?_, ?_, h.below.setCell (by show w.heap.size ≤ w.heap.size + 1; omega) _⟩
  · rw [heap_setCell_other _ _ _ _ (by show w.heap.size ≠ w.heap.size + 1; omega)]; exact h.res
  · rw [heap_setCell_same _ _ _ _ _ _ h.own]
    simp [u32s, List.map_set]
theorem wrap_step (a b c d : Int) : IntKind.u32.wrap (IntKind.u32.wrap (IntKind.u32.wrap (a + b) + c) + d) = (a + b + c + d) % 4294967296 := by
  simp only [IntKind.wrap_u32]; omega
theorem u32s_info {L : List Int} (h : L.length = 16 + 48) : (Tryd.prog.info? 145).map (·.size) = some (u32s L).toArray.size := by
  rw [info96]; simp [u32s, h]
theorem u32s_z64 {L : List Int} (h : L.length = 16 + 48) : (u32s Z64).toArray.size = (u32s L).toArray.size := by
  simp [u32s, h, Z64, -List.reduceReplicate]
theorem cell_set_ne (w : World) (b i j : Nat) (v : Value) (h : ¬ j = i) : (w.setCell ⟨b, i, none⟩ v).cell? ⟨b, j, none⟩ = w.cell? ⟨b, j, none⟩ :=
  World.cell?_setCell_other w _ _ v (fun e => h (by injection e with _ e2 _; exact e2.symm))
theorem Sp.drew {w wr : World} {L : List Int} (h : Sp w L wr) : Sp w L wr.drew := ⟨h.res, h.own, h.below.drew⟩
theorem bf_get (s : ByteArray) (k : Nat) (h : k < s.size) : bf s.data.toList k = ((s[k].toNat : Nat) : Int) := by
  unfold bf
  have e : s.data.toList.getD k 0 = s[k] := by
    rw [List.getD_eq_getElem?_getD, List.getElem?_eq_getElem (by simpa using h)]
    rfl
  rw [e]
theorem or_step (s : ByteArray) (k : Nat) (h : k < s.size) : bits .or .u32 (pv (bf s.data.toList) k (k / 4) * 256 % 4294967296) ((s[k].toNat : Int) % 4294967296) = pv (bf s.data.toList) k (k / 4) * 256 + bf s.data.toList k := by
  obtain ⟨p0, p1⟩ := pv_small (bf_byt s.data.toList) k
  obtain ⟨b0, b1⟩ := bf_byt s.data.toList k
  rw [bf_get s k h] at b0 b1 ⊢
  generalize pv (bf s.data.toList) k (k / 4) = x at *
  generalize ((s[k].toNat : Nat) : Int) = y at *
  have e1 : x * 256 % 4294967296 = x * 256 := by omega
  have e2 : y % 4294967296 = y := by omega
  rw [e1, e2]
  exact bits_join .u32 32 (by decide) (fun n h0 h1 => by rw [IntKind.wrap_u32]; omega) 8 (x * 256) y (by omega) (by omega) (by omega) b0 (by omega) (by omega)
set_option maxRecDepth 100000 in
set_option maxHeartbeats 1000000 in
theorem spread_any (s : ByteArray) (hs : s.size = 64) (w : World) :
    Calls Tryd.prog 81 #[.string s] w fun e w' => e = .returned (.agg (u32s (sched (bf s.data.toList) 48)).toArray) ∧ Below w.heap.size w w' := by
  go_enter Tryd.func81, Tryd.ntmps81
  go_wp2
  go_loopw [6] (fun i wr => ∃ k : Nat, k ≤ 64 ∧ i = .int .i64 k ∧ Sp w (pw (bf s.data.toList) k) wr) (fun i _ => 64 - (intOf i).toNat)
  case atStart =>
    refine ⟨0, by omega, rfl, ?_⟩
    rw [pw_zero]
    exact ⟨(heap_push2 w _ _).1, (heap_push2 w _ _).2, ((Below.refl _ _).alloc (Nat.le_refl _) _).alloc (by simp) _⟩
  case round =>
    obtain ⟨k, hk, rfl, hsp⟩ := hrel
    by_cases hlt : k < 64
    · have hcell := hsp.cell (k / 4) (by rw [pw_len]; omega)
      rw [pw_get _ _ _ (by omega)] at hcell
      have hfr := hsp.frozen (k / 4)
      have HS := hide hsp
      clear hsp
      go_wp2
      go_region
      go_wp2
      go_roundw
      case rel =>
        refine ⟨k + 1, by omega, by go_num, ?_⟩
        rw [or_step s k (by omega), ← pw_step _ _ hlt]
        exact (HS.out.set _ _).drew
      case measure => simp [intOf]; omega
    · have hk64 : k = 64 := by omega
      subst hk64
      rw [pw_done] at hsp
      have HS := hide hsp
      clear hsp
      go_wp2
      go_loopw [5] (fun i wr => ∃ m : Nat, 16 ≤ m ∧ m ≤ 64 ∧ i = .int .i64 m ∧ Sp w (sz (bf s.data.toList) (m - 16)) wr) (fun i _ => 64 - (intOf i).toNat)
      case atStart => exact ⟨16, by omega, by omega, rfl, HS.out⟩
      case round =>
        obtain ⟨m, hm, hm64, rfl, hsp⟩ := hrel
        clear HS hlt hk
        by_cases hlt : m < 64
        · have hlen := sz_len (bf s.data.toList) (m - 16) (by omega)
          have c16 := hsp.cell (m - 16) (by omega)
          have c15 := hsp.cell (m - 15) (by omega)
          have c7 := hsp.cell (m - 7) (by omega)
          have c2 := hsp.cell (m - 2) (by omega)
          have c0 := hsp.cell m (by omega)
          have hfr := hsp.frozen m
          rw [sz_get _ _ _ (by omega)] at c16 c15 c7 c2
          have w15 := getD_w (sched_w (bf_byt s.data.toList) (m - 16)) (m - 15)
          have w2 := getD_w (sched_w (bf_byt s.data.toList) (m - 16)) (m - 2)
          have HS := hide hsp
          have HST : Hid ((sz (bf s.data.toList) (m - 16)).set m (Sha.step ((sched (bf s.data.toList) (m - 16)).getD (m - 16) 0) ((sched (bf s.data.toList) (m - 16)).getD (m - 15) 0) ((sched (bf s.data.toList) (m - 16)).getD (m - 7) 0) ((sched (bf s.data.toList) (m - 16)).getD (m - 2) 0)) = sz (bf s.data.toList) (m + 1 - 16)) := by
            have := sz_step (bf s.data.toList) (m - 16) (by omega)
            rw [show 16 + (m - 16) = m by omega, show m - 16 + 1 = m - 15 by omega, show m - 16 + 9 = m - 7 by omega, show m - 16 + 14 = m - 2 by omega] at this
            rw [show m + 1 - 16 = m - 15 by omega]; exact this
          clear hsp hlen
          generalize (sched (bf s.data.toList) (m - 16)).getD (m - 16) 0 = x16 at *
          generalize (sched (bf s.data.toList) (m - 16)).getD (m - 15) 0 = x15 at *
          generalize (sched (bf s.data.toList) (m - 16)).getD (m - 7) 0 = x7 at *
          generalize (sched (bf s.data.toList) (m - 16)).getD (m - 2) 0 = x2 at *
          have H1 : Hid (∀ w, Calls Tryd.prog 101 #[.int .u32 x15, .int .i64 7, .int .i64 18, .int .i64 3] w fun e w' => e = .returned (.int .u32 (ss 7 18 3 x15)) ∧ ∃ n, w' = w.drewN n) := fun w => shifted_any x15 7 18 3 w w15 (by decide) (by decide) (by decide) (by decide) (by decide) (by decide)
          have H2 : Hid (∀ w, Calls Tryd.prog 101 #[.int .u32 x2, .int .i64 17, .int .i64 19, .int .i64 10] w fun e w' => e = .returned (.int .u32 (ss 17 19 10 x2)) ∧ ∃ n, w' = w.drewN n) := fun w => shifted_any x2 17 19 10 w w2 (by decide) (by decide) (by decide) (by decide) (by decide) (by decide)
          have p16 : (16 : Int) ≤ (m : Int) := by omega
          have p15 : (15 : Int) ≤ (m : Int) := by omega
          have p7 : (7 : Int) ≤ (m : Int) := by omega
          have p2 : (2 : Int) ≤ (m : Int) := by omega
          have e16 : ((m : Int) - 16).toNat = m - 16 := by omega
          have e15 : ((m : Int) - 15).toNat = m - 15 := by omega
          have e7 : ((m : Int) - 7).toNat = m - 7 := by omega
          have e2 : ((m : Int) - 2).toNat = m - 2 := by omega
          have g16 : IntKind.i64.wrap ((m : Int) - 16) = (m : Int) - 16 := by rw [IntKind.wrap_i64]; omega
          have g15 : IntKind.i64.wrap ((m : Int) - 15) = (m : Int) - 15 := by rw [IntKind.wrap_i64]; omega
          have g7 : IntKind.i64.wrap ((m : Int) - 7) = (m : Int) - 7 := by rw [IntKind.wrap_i64]; omega
          have g2 : IntKind.i64.wrap ((m : Int) - 2) = (m : Int) - 2 := by rw [IntKind.wrap_i64]; omega
          have f16 : ¬ m - 16 = m := by omega
          have f15 : ¬ m - 15 = m := by omega
          have f7 : ¬ m - 7 = m := by omega
          have f2 : ¬ m - 2 = m := by omega
          have q16 : (m : Int) - 16 < 64 := by omega
          have q15 : (m : Int) - 15 < 64 := by omega
          have q7 : (m : Int) - 7 < 64 := by omega
          have q2 : (m : Int) - 2 < 64 := by omega
          go_wp2
          go_region_held3 (fun w' => w'.cell? ⟨w.heap.size + 1, m - 16, none⟩ = some (.int .u32 x16) ∧ w'.cell? ⟨w.heap.size + 1, m - 15, none⟩ = some (.int .u32 x15) ∧ w'.cell? ⟨w.heap.size + 1, m - 7, none⟩ = some (.int .u32 x7) ∧ w'.cell? ⟨w.heap.size + 1, m - 2, none⟩ = some (.int .u32 x2)) (first | go_keep | exact ⟨(cell_set_ne _ _ _ _ _ f16).trans c16, (cell_set_ne _ _ _ _ _ f15).trans c15, (cell_set_ne _ _ _ _ _ f7).trans c7, (cell_set_ne _ _ _ _ _ f2).trans c2⟩)
            (first | (go_at_call_of 101 (Value.int IntKind.i64 7); refine (H1.out _).mono ?_; rintro e w' ⟨rfl, n1, rfl⟩) | (go_at_call_of 101 (Value.int IntKind.i64 17); refine (H2.out _).mono ?_; rintro e w' ⟨rfl, n2, rfl⟩))
          rw [wrap_step]
          have HV : Hid ((x16 + ss 7 18 3 x15 + x7 + ss 17 19 10 x2) % 4294967296 = Sha.step x16 x15 x7 x2) := rfl
          rw [HV.out]
          go_wp2
          go_roundw
          case rel =>
            (repeat apply Exists.intro)
            refine And.intro ?_ rfl
            refine ⟨m + 1, by omega, by omega, by go_num, ?_⟩
            rw [← HST.out]
            exact (HS.out.drewN _).set m _
          case measure => simp [intOf]; omega
        · have hm : m = 64 := by omega
          subst hm
          rw [show 64 - 16 = 48 by rfl, sz_done] at hsp
          have HS := hide hsp
          have hl := sched_len (bf s.data.toList) 48
          generalize hL : sched (bf s.data.toList) 48 = L at *
          have HL := hide hL
          clear hL hsp
          go_wp2_with (first | refine wpList_load_row rfl 145 (.tmp 3) rfl (w.heap.size + 1) rfl 145 (u32s L).toArray (0, 0) (.array 64 108) HS.out.own (by kernel_rfl) rfl (u32s_info hl) ?_ | refine wpList_store_row rfl 145 (.tmp 2) (.tmp 50) rfl w.heap.size (u32s L).toArray rfl rfl 145 _ HS.out.res (u32s_info hl) (u32s_z64 hl) (u32s_one _) ?_)
          refine bodyPost_ret (v := .agg (u32s L).toArray) ?_ rfl ⟨by rw [HL.out], ?_⟩
          · exact results_cell_row (p := 2) (ty := 145) rfl _ _ w.heap.size 145 _ (0, 0) (.array 64 108) rfl (setRow_heap _ _ _ _ _ _ HS.out.res) (by kernel_rfl) rfl (u32s_info hl)
          · exact below_setRow HS.out.below (Nat.le_refl _) _
end Go.Proofs.YtfjcajccfnpfbaaDoor
