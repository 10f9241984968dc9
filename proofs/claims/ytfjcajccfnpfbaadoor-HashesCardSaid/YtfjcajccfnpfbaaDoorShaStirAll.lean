import Derived.Test.YtfjcajccfnpfbaaDoorShaSpread
import Derived.Test.YtfjcajccfnpfbaaDoorShaStir
import Derived.Test.YtfjcajccfnpfbaaDoorShaText
import Derived.Lib.Strings
namespace Go.Proofs.YtfjcajccfnpfbaaDoor
open Go.RowKit
open Sha
theorem KAt.drew {w : World} (h : KAt w) : KAt w.drew := h
def lenOf : Value → Nat | .string t => t.size | _ => 0
def Z8 : List Int := [0, 0, 0, 0, 0, 0, 0, 0]
def agg8 (s : S8) : Array Value := #[.int .u32 s.a, .int .u32 s.b, .int .u32 s.c, .int .u32 s.d, .int .u32 s.e, .int .u32 s.f, .int .u32 s.g, .int .u32 s.h]
structure St (w : World) (h : S8) (wr : World) : Prop where
  own : wr.heap[w.heap.size]? = some (.cells (u32s h.list).toArray 110)
  res : wr.heap[w.heap.size + 1]? = some (.cells (u32s Z8).toArray 110)
  below : Below w.heap.size w wr
theorem St.lt {w wr : World} {h : S8} (s : St w h wr) : w.heap.size + 1 < wr.heap.size := (Array.getElem?_eq_some_iff.1 s.res).1
theorem St.later {w wr w1 : World} {h : S8} (s : St w h wr) (hb : Below wr.heap.size wr w1) : St w h w1 := by
  have := s.lt
  exact ⟨(hb.block _ (by omega)).trans s.own, (hb.block _ (by omega)).trans s.res, s.below.trans (hb.mono (by omega))⟩
theorem St.drew {w wr : World} {h : S8} (s : St w h wr) : St w h wr.drew := ⟨s.own, s.res, s.below.drew⟩
theorem cells8 {W : World} {g : Nat} {s : S8} (hA : W.heap[g]? = some (.cells (u32s s.list).toArray 110)) :
    W.cell? ⟨g, 0, none⟩ = some (.int .u32 s.a) ∧ W.cell? ⟨g, 1, none⟩ = some (.int .u32 s.b) ∧ W.cell? ⟨g, 2, none⟩ = some (.int .u32 s.c) ∧ W.cell? ⟨g, 3, none⟩ = some (.int .u32 s.d) ∧
    W.cell? ⟨g, 4, none⟩ = some (.int .u32 s.e) ∧ W.cell? ⟨g, 5, none⟩ = some (.int .u32 s.f) ∧ W.cell? ⟨g, 6, none⟩ = some (.int .u32 s.g) ∧ W.cell? ⟨g, 7, none⟩ = some (.int .u32 s.h) ∧ ∀ i, W.frozen? ⟨g, i, none⟩ = false :=
  ⟨cell_u32s s.list W _ 0 110 (0, 0) hA (by rw [len8]; omega), cell_u32s s.list W _ 1 110 (0, 0) hA (by rw [len8]; omega), cell_u32s s.list W _ 2 110 (0, 0) hA (by rw [len8]; omega), cell_u32s s.list W _ 3 110 (0, 0) hA (by rw [len8]; omega),
   cell_u32s s.list W _ 4 110 (0, 0) hA (by rw [len8]; omega), cell_u32s s.list W _ 5 110 (0, 0) hA (by rw [len8]; omega), cell_u32s s.list W _ 6 110 (0, 0) hA (by rw [len8]; omega), cell_u32s s.list W _ 7 110 (0, 0) hA (by rw [len8]; omega),
   fun i => frozen_of_row W g i _ 110 hA⟩
/-- eight stores, one behind the other -/
def set8 (w : World) (g : Nat) (t : S8) : World :=
  (((((((w.setCell ⟨g, 0, none⟩ (.int .u32 t.a)).setCell ⟨g, 1, none⟩ (.int .u32 t.b)).setCell ⟨g, 2, none⟩ (.int .u32 t.c)).setCell ⟨g, 3, none⟩ (.int .u32 t.d)).setCell ⟨g, 4, none⟩ (.int .u32 t.e)).setCell ⟨g, 5, none⟩ (.int .u32 t.f)).setCell ⟨g, 6, none⟩ (.int .u32 t.g)).setCell ⟨g, 7, none⟩ (.int .u32 t.h)
theorem set8_other {w : World} {g k : Nat} (t : S8) (h : k ≠ g) : (set8 w g t).heap[k]? = w.heap[k]? := by
  unfold set8
  rw [heap_setCell_other _ _ _ _ h, heap_setCell_other _ _ _ _ h, heap_setCell_other _ _ _ _ h, heap_setCell_other _ _ _ _ h, heap_setCell_other _ _ _ _ h, heap_setCell_other _ _ _ _ h, heap_setCell_other _ _ _ _ h, heap_setCell_other _ _ _ _ h]
theorem set8_below {B : Nat} {a w : World} {g : Nat} (t : S8) (h : Below B a w) (hg : B ≤ g) : Below B a (set8 w g t) := by
  unfold set8
  exact (((((((h.setCell hg _).setCell hg _).setCell hg _).setCell hg _).setCell hg _).setCell hg _).setCell hg _).setCell hg _
theorem toList_extract (t : ByteArray) (i j : Nat) : (t.extract i j).data.toList = (t.data.toList.take j).drop i := by
  rw [ByteArray.data_extract]
  simp [List.drop_take]
theorem size_toList (t : ByteArray) : t.data.toList.length = t.size := by simp
theorem set8_same1 {w : World} {g : Nat} (x0 x1 x2 x3 x4 x5 x6 x7 y0 y1 y2 y3 y4 y5 y6 y7 : Value) (h : w.heap[g]? = some (.cells #[x0, x1, x2, x3, x4, x5, x6, x7] 110)) :
    ((((((((w.setCell ⟨g, 0, none⟩ y0).setCell ⟨g, 1, none⟩ y1).setCell ⟨g, 2, none⟩ y2).setCell ⟨g, 3, none⟩ y3).setCell ⟨g, 4, none⟩ y4).setCell ⟨g, 5, none⟩ y5).setCell ⟨g, 6, none⟩ y6).setCell ⟨g, 7, none⟩ y7).heap[g]? = some (.cells #[y0, y1, y2, y3, y4, y5, y6, y7] 110) := by
  have h0 := heap_setCell_same w g 0 _ 110 y0 h
  simp at h0
  have h1 := heap_setCell_same _ g 1 _ 110 y1 h0
  simp at h1
  have h2 := heap_setCell_same _ g 2 _ 110 y2 h1
  simp at h2
  have h3 := heap_setCell_same _ g 3 _ 110 y3 h2
  simp at h3
  have h4 := heap_setCell_same _ g 4 _ 110 y4 h3
  simp at h4
  have h5 := heap_setCell_same _ g 5 _ 110 y5 h4
  simp at h5
  have h6 := heap_setCell_same _ g 6 _ 110 y6 h5
  simp at h6
  have h7 := heap_setCell_same _ g 7 _ 110 y7 h6
  simpa using h7
theorem set8_same {w : World} {g : Nat} {s : S8} (t : S8) (h : w.heap[g]? = some (.cells (u32s s.list).toArray 110)) : (set8 w g t).heap[g]? = some (.cells (u32s t.list).toArray 110) :=
  set8_same1 _ _ _ _ _ _ _ _ _ _ _ _ _ _ _ _ h
theorem St.set {w wr : World} {h : S8} (s : St w h wr) (t : S8) : St w t (set8 wr w.heap.size t) :=
  ⟨set8_same t s.own, (set8_other t (by omega)).trans s.res, set8_below t s.below (Nat.le_refl _)⟩
set_option maxRecDepth 100000 in
set_option maxHeartbeats 1000000 in
theorem stirAll_any (h : S8) (hh : h.Ok) (s : ByteArray) (hs : s.size ≤ maxLen) (w : World) (hk : KAt w) :
    Calls Tryd.prog 58 #[.agg (u32s h.list).toArray, .string s] w fun e w' => e = .returned (.agg (u32s (sa h s.data.toList (s.size / 64)).list).toArray) ∧ Below w.heap.size w w' := by
  unfold maxLen at hs
  go_enter Tryd.func58, Tryd.ntmps58
  go_wp2
  go_loopw [1] (fun b wr => ∃ (k : Nat) (t : ByteArray), 64 * k ≤ s.size ∧ b = .string t ∧ t.data.toList = s.data.toList.drop (64 * k) ∧ St w (sa h s.data.toList k) wr) (fun b _ => lenOf b)
  case atStart =>
    exact ⟨0, s, by omega, rfl, rfl, (heap_push2 w _ _).1, (heap_push2 w _ _).2, ((Below.refl _ _).alloc (Nat.le_refl _) _).alloc (by simp) _⟩
  case round =>
    obtain ⟨k, t, hk64, rfl, ht, hst⟩ := hrel
    have hts : t.size + 64 * k = s.size := by
      have h1 : t.data.toList.length = t.size := by simp
      have h2 : s.data.toList.length = s.size := by simp
      rw [ht, List.length_drop, h2] at h1
      omega
    by_cases hlt : 64 ≤ t.size
    · have hok := sa_ok hh s.data.toList k
      have hkr := hk.below hst.below (Nat.le_refl _)
      obtain ⟨c0, c1, c2, c3, c4, c5, c6, c7, cf⟩ := cells8 hst.own
      have hsz : (t.extract 0 64).size = 64 := by simp; omega
      have hbl : (t.extract 0 64).data.toList = (s.data.toList.drop (64 * k)).take 64 := by rw [toList_extract, ht]; simp
      have HSA : Hid (sa h s.data.toList (k + 1) = comp (sa h s.data.toList k) (bf (t.extract 0 64).data.toList)) := by
        show sa h s.data.toList (k + 1) = _
        rw [hbl]; rfl
      have HTD : Hid ((t.extract 64 t.size).data.toList = s.data.toList.drop (64 * (k + 1))) := by
        show (t.extract 64 t.size).data.toList = _
        rw [toList_extract, ← size_toList, List.take_length, ht, List.drop_drop]; rfl
      have H54 : Hid (∀ w, Calls Tryd.prog 81 #[.string (t.extract 0 64)] w fun e w' => e = .returned (.agg (u32s (sched (bf (t.extract 0 64).data.toList) 48)).toArray) ∧ Below w.heap.size w w') := fun w => spread_any _ hsz w
      have HL : Hid ((sched (bf (t.extract 0 64).data.toList) 48).length = 64) := sched_len _ 48
      have H53 : Hid (∀ w, KAt w → Calls Tryd.prog 80 #[.agg (agg8 (sa h s.data.toList k)), .agg (u32s (sched (bf (t.extract 0 64).data.toList) 48)).toArray] w fun e w' => e = .returned (.agg (agg8 (comp (sa h s.data.toList k) (bf (t.extract 0 64).data.toList)))) ∧ Below w.heap.size w w') :=
        fun w hkw => stir_any _ hok _ HL.out w hkw
      generalize sched (bf (t.extract 0 64).data.toList) 48 = L at H53 H54
      generalize hY : comp (sa h s.data.toList k) (bf (t.extract 0 64).data.toList) = Y at HSA H53
      generalize hX : sa h s.data.toList k = X at *
      have HK := hide hkr
      have HST := hide hst
      have HT := hide ht
      have HTS := hide hts
      have hlt' : (64 : Int) ≤ (t.size : Int) := by omega
      clear hst hkr ht hts hk hY hX hok HL hbl hsz
      unfold agg8 at H53
      go_wp2
      go_region_with (first | (go_at_call 81; refine (H54.out _).mono ?_; rintro e w1 ⟨rfl, hb1⟩; have HS1 := hide (HST.out.drew.later hb1); have HK1 := hide (HK.out.drew.below hb1 (Nat.le_refl _)); obtain ⟨d0, d1, d2, d3, d4, d5, d6, d7, df⟩ := cells8 HS1.out.own) | (go_at_call 80; refine (H53.out _ HK1.out).mono ?_; rintro e w2 ⟨rfl, hb2⟩; have HS2 := hide (HS1.out.later hb2); obtain ⟨e0, e1, e2, e3, e4, e5, e6, e7, ef⟩ := cells8 HS2.out.own))
      all_goals
        have HS3 := hide (HS2.out.set Y)
        clear c0 c1 c2 c3 c4 c5 c6 c7 cf d0 d1 d2 d3 d4 d5 d6 d7 df e0 e1 e2 e3 e4 e5 e6 e7 ef
        go_wp2
        go_roundw
        case rel =>
          first
            | exact ⟨k + 1, _, by have := HTS.out; omega, rfl, HTD.out, by rw [HSA.out]; exact HS3.out⟩
            | ((repeat apply Exists.intro); refine And.intro ?_ rfl; exact ⟨k + 1, _, by have := HTS.out; omega, rfl, HTD.out, by rw [HSA.out]; exact HS3.out⟩)
        case measure => simp [lenOf]; omega
    · have hkk : s.size / 64 = k := by omega
      obtain ⟨c0, c1, c2, c3, c4, c5, c6, c7, cf⟩ := cells8 hst.own
      have hlt' : ¬ (64 : Int) ≤ (t.size : Int) := by omega
      have HST := hide hst
      have HKK := hide hkk
      clear hst hkk ht hts hk
      generalize hX : sa h s.data.toList k = X at *
      have HX := hide hX
      clear hX
      go_wp2_with (refine wpList_store_row rfl 110 (.tmp 4) (.tmp 15) rfl (w.heap.size + 1) (u32s X.list).toArray rfl rfl 110 _ HST.out.res info66 rfl (u32s_one _) ?_)
      refine bodyPost_ret (v := .agg (u32s X.list).toArray) ?_ rfl ⟨by rw [HKK.out, HX.out], ?_⟩
      · exact results_cell_row (p := 4) (ty := 110) rfl _ _ (w.heap.size + 1) 110 _ (0, 0) (.array 8 108) rfl (setRow_heap _ _ _ _ _ _ HST.out.res) (by kernel_rfl) rfl info66
      · exact below_setRow HST.out.below (by omega) _
end Go.Proofs.YtfjcajccfnpfbaaDoor
