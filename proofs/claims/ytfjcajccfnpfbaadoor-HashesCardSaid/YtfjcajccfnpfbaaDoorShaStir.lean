import Derived.Test.YtfjcajccfnpfbaaDoorShaMem
namespace Go.Proofs.YtfjcajccfnpfbaaDoor
open Go.RowKit
open Sha
set_option maxRecDepth 100000 in
set_option maxHeartbeats 1000000 in
theorem stir_any (s : S8) (hs : s.Ok) (l : List Int) (hl : l.length = 64) (w : World) (hk : KAt w) :
    Calls Tryd.prog 80 #[.agg (u32s s.list).toArray, .agg (u32s l).toArray] w fun e w' => e = .returned (.agg (u32s (s.plus (rds s (fun i => l.getD i 0) 64)).list).toArray) ∧ Below w.heap.size w w' := by
  go_enter Tryd.func80, Tryd.ntmps80
  go_wp2
  generalize hW : (((w.alloc (Obj.cells (u32s s.list).toArray 110)).alloc (Obj.cells (u32s l).toArray 145)).alloc (Obj.cells #[Value.int IntKind.u32 0, Value.int IntKind.u32 0, Value.int IntKind.u32 0, Value.int IntKind.u32 0,
          Value.int IntKind.u32 0, Value.int IntKind.u32 0, Value.int IntKind.u32 0, Value.int IntKind.u32 0] 110)) = W
  obtain ⟨hA, hB, hC⟩ := heap_push3 w (Obj.cells (u32s s.list).toArray 110) (Obj.cells (u32s l).toArray 145) (Obj.cells #[Value.int IntKind.u32 0, Value.int IntKind.u32 0, Value.int IntKind.u32 0, Value.int IntKind.u32 0,
          Value.int IntKind.u32 0, Value.int IntKind.u32 0, Value.int IntKind.u32 0, Value.int IntKind.u32 0] 110)
  have hbel : Below w.heap.size w W := by
    rw [← hW]; exact (((Below.refl _ _).alloc (Nat.le_refl _) _).alloc (by simp) _).alloc (by simp; omega) _
  rw [hW] at hA hB hC
  have Hcw := hide (fun i (hi : i < 64) => cell_u32s l W (w.heap.size + 1) i 145 (0, 0) hB (by omega))
  have Hck := hide (hk.below hbel (Nat.le_refl _))
  have hc0 : W.cell? ⟨w.heap.size, 0, none⟩ = some (.int .u32 s.a) := cell_u32s s.list W _ 0 110 (0, 0) hA (by rw [len8]; omega)
  have hc1 : W.cell? ⟨w.heap.size, 1, none⟩ = some (.int .u32 s.b) := cell_u32s s.list W _ 1 110 (0, 0) hA (by rw [len8]; omega)
  have hc2 : W.cell? ⟨w.heap.size, 2, none⟩ = some (.int .u32 s.c) := cell_u32s s.list W _ 2 110 (0, 0) hA (by rw [len8]; omega)
  have hc3 : W.cell? ⟨w.heap.size, 3, none⟩ = some (.int .u32 s.d) := cell_u32s s.list W _ 3 110 (0, 0) hA (by rw [len8]; omega)
  have hc4 : W.cell? ⟨w.heap.size, 4, none⟩ = some (.int .u32 s.e) := cell_u32s s.list W _ 4 110 (0, 0) hA (by rw [len8]; omega)
  have hc5 : W.cell? ⟨w.heap.size, 5, none⟩ = some (.int .u32 s.f) := cell_u32s s.list W _ 5 110 (0, 0) hA (by rw [len8]; omega)
  have hc6 : W.cell? ⟨w.heap.size, 6, none⟩ = some (.int .u32 s.g) := cell_u32s s.list W _ 6 110 (0, 0) hA (by rw [len8]; omega)
  have hc7 : W.cell? ⟨w.heap.size, 7, none⟩ = some (.int .u32 s.h) := cell_u32s s.list W _ 7 110 (0, 0) hA (by rw [len8]; omega)
  clear hW hA hB hk
  have HC := hide hC
  clear hC
  go_quiet (fail)
  go_wp2
  go_loopw [5, 6, 7, 8, 9, 10, 11, 12, 34] (fun a b c d e f g h i wr => ∃ k n : Nat, k ≤ 64 ∧ i = .int .i64 k ∧ wr = W.drewN n ∧
      a = .int .u32 (rds s (fun i => l.getD i 0) k).a ∧ b = .int .u32 (rds s (fun i => l.getD i 0) k).b ∧ c = .int .u32 (rds s (fun i => l.getD i 0) k).c ∧ d = .int .u32 (rds s (fun i => l.getD i 0) k).d ∧
      e = .int .u32 (rds s (fun i => l.getD i 0) k).e ∧ f = .int .u32 (rds s (fun i => l.getD i 0) k).f ∧ g = .int .u32 (rds s (fun i => l.getD i 0) k).g ∧ h = .int .u32 (rds s (fun i => l.getD i 0) k).h)
    (fun _ _ _ _ _ _ _ _ i _ => 64 - (intOf i).toNat)
  case atStart => exact ⟨0, nq, by omega, rfl, rfl, rfl, rfl, rfl, rfl, rfl, rfl, rfl, rfl⟩
  case round =>
    obtain ⟨k, n, hk, rfl, hwr, rfl, rfl, rfl, rfl, rfl, rfl, rfl, rfl⟩ := hrel
    by_cases hlt : k < 64
    · have hcw : wr.cell? ⟨w.heap.size + 1, k, none⟩ = some (.int .u32 (l.getD k 0)) := by rw [hwr]; exact Hcw.out k hlt
      have hck : wr.cell? ⟨1, k, none⟩ = some (.int .u32 (kw k)) := by rw [hwr]; exact Hck.out k hlt
      have HW := hide hwr
      clear hwr
      have hto : (rds s (fun i => l.getD i 0) k).Ok := rds_ok hs _ _
      have HT : Hid (rds s (fun i => l.getD i 0) (k + 1) = rd (rds s (fun i => l.getD i 0) k) (kw k) (l.getD k 0)) := rfl
      generalize rds s (fun i => l.getD i 0) k = t at hto HT
      generalize l.getD k 0 = wk at hcw HT
      generalize kw k = kk at hck HT
      have HS1 : Hid (∀ w, Calls Tryd.prog 100 #[.int .u32 t.e, .int .i64 6, .int .i64 11, .int .i64 25] w fun e w' => e = .returned (.int .u32 (bs 6 11 25 t.e)) ∧ w' = w) := fun w => turned_any t.e 6 11 25 w hto.e (by decide) (by decide) (by decide) (by decide) (by decide) (by decide)
      have HS0 : Hid (∀ w, Calls Tryd.prog 100 #[.int .u32 t.a, .int .i64 2, .int .i64 13, .int .i64 22] w fun e w' => e = .returned (.int .u32 (bs 2 13 22 t.a)) ∧ w' = w) := fun w => turned_any t.a 2 13 22 w hto.a (by decide) (by decide) (by decide) (by decide) (by decide) (by decide)
      go_wp2
      go_quiet ((go_at_call 100; exact Calls.quiet_of_same (HS1.out _)))
      go_wp2_with fail
      refine (HS0.out _).mono ?_
      rintro e w' ⟨rfl, rfl⟩
      go_wp2
      go_roundw
      case rel =>
        refine ⟨k + 1, n + nq, by omega, by go_num, by rw [HW.out, World.drewN_drewN], ?_, ?_, ?_, ?_, ?_, ?_, ?_, ?_⟩
        all_goals rw [HT.out]
        · rw [ch_code hto.e hto.f hto.g, maj_code hto.a hto.b hto.c]; rfl
        · rfl
        · rfl
        · rfl
        · rw [ch_code hto.e hto.f hto.g]; rfl
        · rfl
        · rfl
        · rfl
      case measure => simp [intOf]; omega
    · have hk64 : k = 64 := by omega
      subst hk64
      have hC : wr.heap[w.heap.size + 1 + 1]? = some (Obj.cells #[Value.int IntKind.u32 0, Value.int IntKind.u32 0, Value.int IntKind.u32 0, Value.int IntKind.u32 0, Value.int IntKind.u32 0, Value.int IntKind.u32 0, Value.int IntKind.u32 0, Value.int IntKind.u32 0] 110) := by rw [hwr]; exact HC.out
      have hb2 : Below w.heap.size w wr := by rw [hwr]; exact below_drewN hbel n
      have d0 : wr.cell? ⟨w.heap.size, 0, none⟩ = some (.int .u32 s.a) := by rw [hwr]; exact hc0
      have d1 : wr.cell? ⟨w.heap.size, 1, none⟩ = some (.int .u32 s.b) := by rw [hwr]; exact hc1
      have d2 : wr.cell? ⟨w.heap.size, 2, none⟩ = some (.int .u32 s.c) := by rw [hwr]; exact hc2
      have d3 : wr.cell? ⟨w.heap.size, 3, none⟩ = some (.int .u32 s.d) := by rw [hwr]; exact hc3
      have d4 : wr.cell? ⟨w.heap.size, 4, none⟩ = some (.int .u32 s.e) := by rw [hwr]; exact hc4
      have d5 : wr.cell? ⟨w.heap.size, 5, none⟩ = some (.int .u32 s.f) := by rw [hwr]; exact hc5
      have d6 : wr.cell? ⟨w.heap.size, 6, none⟩ = some (.int .u32 s.g) := by rw [hwr]; exact hc6
      have d7 : wr.cell? ⟨w.heap.size, 7, none⟩ = some (.int .u32 s.h) := by rw [hwr]; exact hc7
      have HC2 := hide hC
      generalize ht : rds s (fun i => l.getD i 0) 64 = t
      have HTT := hide ht
      clear ht
      clear hc0 hc1 hc2 hc3 hc4 hc5 hc6 hc7 HC hC hwr Hcw Hck hbel
      go_wp2_with (refine wpList_store_row rfl 110 (.tmp 4) (.tmp 119) rfl (w.heap.size + 1 + 1) (u32s (s.plus t).list).toArray rfl rfl 110 _ HC2.out info66 rfl (u32s_one _) ?_)
      refine bodyPost_ret (v := .agg (u32s (s.plus t).list).toArray) ?_ rfl ⟨by rw [HTT.out], ?_⟩
      · exact results_cell_row (p := 4) (ty := 110) rfl _ _ (w.heap.size + 1 + 1) 110 _ (0, 0) (.array 8 108) rfl (setRow_heap _ _ _ _ _ _ HC2.out) (by kernel_rfl) rfl info66
      · exact below_setRow hb2 (by omega) _
end Go.Proofs.YtfjcajccfnpfbaaDoor
