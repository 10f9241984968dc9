import Derived.Test.YtfjcajccfnpfbaaDoorShaEnding
import Derived.Test.YtfjcajccfnpfbaaDoorShaStirAll
namespace Go.Proofs.YtfjcajccfnpfbaaDoor
open Go.RowKit
open Sha
theorem outb_get (s : S8) (i : Nat) (hi : i < 32) : (outb s)[i]? = some (UInt8.ofNat ((s.list.getD (i / 4) 0).toNat / 2 ^ (24 - 8 * (i % 4)))) := by
  match i, hi with
  | 0, _ => rfl
  | 1, _ => rfl
  | 2, _ => rfl
  | 3, _ => simp [outb, wb, S8.list]
  | 4, _ => rfl
  | 5, _ => rfl
  | 6, _ => rfl
  | 7, _ => simp [outb, wb, S8.list]
  | 8, _ => rfl
  | 9, _ => rfl
  | 10, _ => rfl
  | 11, _ => simp [outb, wb, S8.list]
  | 12, _ => rfl
  | 13, _ => rfl
  | 14, _ => rfl
  | 15, _ => simp [outb, wb, S8.list]
  | 16, _ => rfl
  | 17, _ => rfl
  | 18, _ => rfl
  | 19, _ => simp [outb, wb, S8.list]
  | 20, _ => rfl
  | 21, _ => rfl
  | 22, _ => rfl
  | 23, _ => simp [outb, wb, S8.list]
  | 24, _ => rfl
  | 25, _ => rfl
  | 26, _ => rfl
  | 27, _ => simp [outb, wb, S8.list]
  | 28, _ => rfl
  | 29, _ => rfl
  | 30, _ => rfl
  | 31, _ => simp [outb, wb, S8.list]
  | _ + 32, h => exact absurd h (by omega)
def oz (s : S8) (k : Nat) : List UInt8 := (outb s).take k ++ List.replicate (32 - k) 0
theorem oz_len (s : S8) (k : Nat) (hk : k ≤ 32) : (oz s k).length = 32 := by simp [oz, outb_len]; omega
theorem oz_step (s : S8) (k : Nat) (hk : k < 32) : (oz s k).set k (UInt8.ofNat ((s.list.getD (k / 4) 0).toNat / 2 ^ (24 - 8 * (k % 4)))) = oz s (k + 1) := by
  have hg := outb_get s k hk
  unfold oz
  have hl : ((outb s).take k).length = k := by simp [outb_len]; omega
  rw [List.set_append_right _ _ (by omega), hl, Nat.sub_self, show 32 - k = (32 - (k + 1)) + 1 by omega, List.replicate_succ, List.take_add_one, hg]
  simp
theorem oz_done (s : S8) : oz s 32 = outb s := by
  unfold oz
  rw [List.take_of_length_le (by rw [outb_len]; omega)]
  simp
structure Su (w : World) (s : S8) (L : List UInt8) (wr : World) : Prop where
  box : wr.heap[w.heap.size]? = some (.cells (u32s s.list).toArray 110)
  res : wr.heap[w.heap.size + 1]? = some (.cells (u8s (List.replicate 32 0)).toArray 95)
  own : wr.heap[w.heap.size + 1 + 1]? = some (.cells (u8s L).toArray 95)
  below : Below w.heap.size w wr
theorem Su.set {w wr : World} {s : S8} {L : List UInt8} (h : Su w s L wr) (i : Nat) (x : UInt8) : Su w s (L.set i x) (wr.setCell ⟨w.heap.size + 1 + 1, i, none⟩ (.int .u8 (x.toNat : Int))) := by
  refine ⟨?_, ?_, ?_, h.below.setCell (by show w.heap.size ≤ w.heap.size + 1 + 1; omega) _⟩
  · rw [heap_setCell_other _ _ _ _ (by show w.heap.size ≠ w.heap.size + 1 + 1; omega)]; exact h.box
  · rw [heap_setCell_other _ _ _ _ (by show w.heap.size + 1 ≠ w.heap.size + 1 + 1; omega)]; exact h.res
  · rw [heap_setCell_same _ _ _ _ _ _ h.own]; simp [u8s, List.map_set]
theorem Su.cell {w wr : World} {s : S8} {L : List UInt8} (h : Su w s L wr) (i : Nat) (hi : i < L.length) : wr.cell? ⟨w.heap.size + 1 + 1, i, none⟩ = some (.int .u8 ((L.getD i 0).toNat : Int)) := by
  rw [cell_of_row wr _ i _ 95 (0, 0) h.own]
  simp [u8s, List.getElem?_eq_getElem hi]
theorem Su.frozen {w wr : World} {s : S8} {L : List UInt8} (h : Su w s L wr) (i : Nat) : wr.frozen? ⟨w.heap.size + 1 + 1, i, none⟩ = false := frozen_of_row wr _ i _ 95 h.own
theorem u8s_one (l : List UInt8) : (u8s l).toArray.all (·.oneCell') = true := by simp [u8s, Value.oneCell']
theorem u8s_info {L : List UInt8} (h : L.length = 32) : (Tryd.prog.info? 95).map (·.size) = some (u8s L).toArray.size := by rw [info53]; simp [u8s, h]
theorem getD_w8 {s : S8} (hs : s.Ok) (i : Nat) : W32 (s.list.getD i 0) := by
  refine getD_w (fun x hx => ?_) i
  simp only [S8.list, List.mem_cons, List.not_mem_nil, or_false] at hx
  rcases hx with rfl | rfl | rfl | rfl | rfl | rfl | rfl | rfl
  · exact hs.a
  · exact hs.b
  · exact hs.c
  · exact hs.d
  · exact hs.e
  · exact hs.f
  · exact hs.g
  · exact hs.h
theorem word_byte {x : Int} (hx : W32 x) (k : Nat) : ((UInt8.ofNat (x.toNat / 2 ^ k)).toNat : Int) = x / 2 ^ k % 256 := by
  obtain ⟨x0, _⟩ := hx
  obtain ⟨a, rfl⟩ := Int.eq_ofNat_of_zero_le x0
  simp
set_option maxRecDepth 100000 in
set_option maxHeartbeats 1000000 in
theorem sum_any (s : S8) (hs : s.Ok) (w : World) :
    Calls Tryd.prog 60 #[.agg (u32s s.list).toArray] w fun e w' => e = .returned (.agg (u8s (outb s)).toArray) ∧ Below w.heap.size w w' := by
  go_enter Tryd.func60, Tryd.ntmps60
  go_wp2
  go_loopw [5] (fun i wr => ∃ k : Nat, k ≤ 32 ∧ i = .int .i64 k ∧ Su w s (oz s k) wr) (fun i _ => 32 - (intOf i).toNat)
  case atStart =>
    exact ⟨0, by omega, rfl, (heap_push3 w _ _ _).1, (heap_push3 w _ _ _).2.1, (heap_push3 w _ _ _).2.2, (((Below.refl _ _).alloc (Nat.le_refl _) _).alloc (by simp) _).alloc (by simp; omega) _⟩
  case round =>
    obtain ⟨k, hk, rfl, hsu⟩ := hrel
    by_cases hlt : k < 32
    · have hl := oz_len s k hk
      have c1 := hsu.cell k (by omega)
      have f1 := hsu.frozen k
      have c2 := cell_u32s s.list wr w.heap.size (k / 4) 110 (0, 0) hsu.box (by rw [len8]; omega)
      have HS := hide hsu
      have HO := hide (oz_step s k hlt)
      have hw := getD_w8 hs (k / 4)
      have HX := hide (word_byte hw (24 - 8 * (k % 4)))
      have hx0 := hw.1
      have hx1 := hw.2
      clear hsu hl hw
      generalize s.list.getD (k / 4) 0 = x at *
      go_wp2
      go_roundw
      case rel =>
        refine ⟨k + 1, by omega, by go_num, ?_⟩
        rw [← HO.out, ← HX.out]
        exact HS.out.set _ _
      case measure => simp [intOf]; omega
    · have hk32 : k = 32 := by omega
      subst hk32
      rw [oz_done] at hsu
      have hl := outb_len s
      have HS := hide hsu
      generalize hL : outb s = L at *
      have HL := hide hL
      clear hL hsu
      go_wp2_with (first | refine wpList_load_row rfl 95 (.tmp 3) rfl (w.heap.size + 1 + 1) rfl 95 (u8s L).toArray (0, 0) (.array 32 5) HS.out.own (by kernel_rfl) rfl (u8s_info hl) ?_ | refine wpList_store_row rfl 95 (.tmp 2) (.tmp 21) rfl (w.heap.size + 1) (u8s L).toArray rfl rfl 95 _ HS.out.res (u8s_info hl) (by simp [u8s, hl]) (u8s_one _) ?_)
      refine bodyPost_ret (v := .agg (u8s L).toArray) ?_ rfl ⟨by rw [HL.out], ?_⟩
      · exact results_cell_row (p := 2) (ty := 95) rfl _ _ (w.heap.size + 1) 95 _ (0, 0) (.array 32 5) rfl (setRow_heap _ _ _ _ _ _ HS.out.res) (by kernel_rfl) rfl (u8s_info hl)
      · exact below_setRow HS.out.below (by omega) _
end Go.Proofs.YtfjcajccfnpfbaaDoor
