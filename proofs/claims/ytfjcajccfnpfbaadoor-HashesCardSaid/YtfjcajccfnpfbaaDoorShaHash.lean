import Derived.Test.YtfjcajccfnpfbaaDoorShaSumAll
namespace Go.Proofs.YtfjcajccfnpfbaaDoor
open Go.RowKit
open Sha
theorem wpList_store_gen {P : Program} {ops : Array Oper} {rest : List Oper} {o : Oper} {a : Act} {w : World} {Q : Exit → Act → World → Prop} (hgd : o.guard = none) (ty : TypeId) (x y : Operand) (ho : o.op = .store ty x y)
    (g : Nat) (cells : Array Value) (hx : a.eval x = .pointer (some ⟨g, 0, none⟩)) (hy : a.eval y = .agg cells)
    (t : TypeId) (old : Array Value) (hg : w.heap[g]? = some (.cells old t (0, 0))) (hi : (P.info? ty).map (·.size) = some cells.size)
    (hold : old.size = cells.size) (h1 : cells.all (·.oneCell') = true)
    (h : ∀ w', Hid (w'.heap[g]? = some (.cells cells t (0, 0))) → Hid (∀ B a, Below B a w → B ≤ g → Below B a w') → wpList P ops Q rest (a.put o.dst undef) w') : wpList P ops Q (o :: rest) a w :=
  wpList_store_row hgd ty x y ho g cells hx hy t old hg hi hold h1 (h _ (setRow_heap _ _ _ _ _ _ hg) (fun _ _ hb hB => below_setRow hb hB _))
theorem sha_len (l : List UInt8) : (sha l).length = 32 := outb_len _
set_option maxRecDepth 100000 in
set_option maxHeartbeats 1000000 in
theorem fHash_any (s : ByteArray) (hs : s.size < 72057594037927936) (w : World) (hk : KAt w) :
    Calls Tryd.prog 24 #[.string s] w fun e w' => e = .returned (.string ⟨(sha s.data.toList).toArray⟩) ∧ Below w.heap.size w w' := by
  have hl := sha_len s.data.toList
  have H := hide (Sum_any s hs w hk)
  generalize hR : sha s.data.toList = R at *
  have HR := hide hR
  clear hR hk
  go_enter Tryd.func24, Tryd.ntmps24
  go_wp2_with fail
  refine H.out.mono ?_
  rintro e w1 ⟨rfl, hb1⟩
  clear H
  go_wp2_with (refine wpList_store_gen rfl 95 (.tmp 3) (.tmp 5) rfl w1.heap.size (u8s R).toArray rfl rfl 95 _ (heap_alloc_last w1 _) (u8s_info hl) (by simp [u8s, hl]) (u8s_one _) ?_; intro W2 hW2 hW3; have HB := hide (hW3.out _ _ (hb1.alloc hb1.size _) hb1.size); have hcv := run_row_string W2 w1.heap.size 32 32 R 95 (0, 0) hW2.out (by omega); rw [List.take_of_length_le (by omega)] at hcv)
  go_ret
  exact ⟨rfl, HB.out⟩
set_option maxRecDepth 100000 in
set_option maxHeartbeats 1000000 in
theorem pHash_any (s : ByteArray) (hs : s.size < 72057594037927936) (w : World) (hk : KAt w) :
    Calls Tryd.prog 9 #[.string s] w fun e w' => e = .returned (.string ⟨(sha s.data.toList).toArray⟩) ∧ Below w.heap.size w w' := by
  have H := hide (fHash_any s hs w hk)
  clear hk
  go_enter Tryd.func9, Tryd.ntmps9
  go_wp2_with fail
  refine H.out.mono ?_
  rintro e w1 ⟨rfl, hb1⟩
  clear H
  go_wp2_with fail
  go_ret
  exact ⟨rfl, hb1⟩
end Go.Proofs.YtfjcajccfnpfbaaDoor
