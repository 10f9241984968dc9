import Derived.Test.YtfjcajccfnpfbaaDoorShaLeaf
import Derived.Outline
import Derived.Deep.WholeRow
namespace Go.Proofs.YtfjcajccfnpfbaaDoor
open Go.RowKit
open Sha
theorem hide {p : Prop} (h : p) : Hid p := h
def u32s (l : List Int) : List Value := l.map fun x => Value.int .u32 x
def i64s (l : List Int) : List Value := l.map fun x => Value.int .i64 x
def u8s (l : List UInt8) : List Value := l.map fun x => Value.int .u8 (x.toNat : Int)
theorem heap_push3 (w : World) (A B C : Obj) : (((w.alloc A).alloc B).alloc C).heap[w.heap.size]? = some A ∧ (((w.alloc A).alloc B).alloc C).heap[w.heap.size + 1]? = some B ∧ (((w.alloc A).alloc B).alloc C).heap[w.heap.size + 1 + 1]? = some C := by
  have e1 : (w.alloc A).heap.size = w.heap.size + 1 := by simp
  have e2 : ((w.alloc A).alloc B).heap.size = w.heap.size + 1 + 1 := by simp
  refine ⟨?_, ?_, ?_⟩
  · rw [Below.heap_alloc _ C _ (by omega), Below.heap_alloc _ B _ (by omega)]; exact heap_alloc_last w A
  · rw [Below.heap_alloc _ C _ (by omega), ← e1]; exact heap_alloc_last _ B
  · rw [← e2]; exact heap_alloc_last _ C
theorem heap_push2 (w : World) (A B : Obj) : ((w.alloc A).alloc B).heap[w.heap.size]? = some A ∧ ((w.alloc A).alloc B).heap[w.heap.size + 1]? = some B := by
  have e1 : (w.alloc A).heap.size = w.heap.size + 1 := by simp
  refine ⟨?_, ?_⟩
  · rw [Below.heap_alloc _ B _ (by omega)]; exact heap_alloc_last w A
  · rw [← e1]; exact heap_alloc_last _ B
theorem cell_u32s (l : List Int) (W : World) (g i : Nat) (t : TypeId) (fr : Nat × Nat) (hg : W.heap[g]? = some (.cells (u32s l).toArray t fr)) (hi : i < l.length) : W.cell? ⟨g, i, none⟩ = some (.int .u32 (l.getD i 0)) := by
  rw [cell_of_row W g i _ t fr hg]
  simp [u32s, List.getElem?_eq_getElem hi]
theorem cell_i64s (l : List Int) (W : World) (g i : Nat) (t : TypeId) (fr : Nat × Nat) (hg : W.heap[g]? = some (.cells (i64s l).toArray t fr)) (hi : i < l.length) : W.cell? ⟨g, i, none⟩ = some (.int .i64 (l.getD i 0)) := by
  rw [cell_of_row W g i _ t fr hg]
  simp [i64s, List.getElem?_eq_getElem hi]
theorem len8 (s : S8) : s.list.length = 8 := rfl
/-- The constants' table lies at variable 1. -/
def KAt (w : World) : Prop := ∀ i, i < 64 → w.cell? ⟨1, i, none⟩ = some (.int .u32 (kw i))
theorem KAt.lt {w : World} (h : KAt w) : 1 < w.heap.size := World.block_lt_of_cell? w ⟨1, 0, none⟩ (h 0 (by omega))
theorem KAt.below {B : Nat} {w w' : World} (h : KAt w) (hb : Below B w w') (hB : w.heap.size ≤ B) : KAt w' := fun i hi => by
  have := h.lt
  rw [hb.cell (p := ⟨1, i, none⟩) (by show 1 < B; omega)]; exact h i hi
theorem below_drewN {B : Nat} {a w : World} (h : Below B a w) : ∀ n, Below B a (w.drewN n) := fun _ => ⟨h.os, h.tape, h.output, h.size, h.block⟩
theorem heap_drewN (w : World) (n : Nat) : (w.drewN n).heap = w.heap := rfl
theorem u32s_one (l : List Int) : (u32s l).toArray.all (·.oneCell') = true := by
  simp [u32s, Value.oneCell']
theorem below_setRow {B : Nat} {a w : World} (h : Below B a w) {g : Nat} (hg : B ≤ g) (cs : Array Value) : Below B a (w.setRow g cs) :=
  h.trans ⟨rfl, rfl, rfl, by simp, fun k hk => setRow_other w g k cs (by omega)⟩
theorem info66 : (Tryd.prog.info? 110).map (·.size) = some 8 := by kernel_rfl
theorem info96 : (Tryd.prog.info? 145).map (·.size) = some 64 := by kernel_rfl
theorem info53 : (Tryd.prog.info? 95).map (·.size) = some 32 := by kernel_rfl
theorem info98 : (Tryd.prog.info? 147).map (·.size) = some 128 := by kernel_rfl
theorem u32_max : IntKind.u32.max = 4294967295 := by decide
theorem ch_code {e f g : Int} (he : W32 e) (hf : W32 f) (hg : W32 g) : bits BinOp.xor IntKind.u32 (bits BinOp.and IntKind.u32 e f) (bits BinOp.and IntKind.u32 (bits BinOp.xor IntKind.u32 IntKind.u32.max e) g) = ch e f g := by
  rw [u32_max, u32_an he hf, u32_xo m32_w he, u32_an (xo_w m32_w he) hg, u32_xo (an_w he hf) (an_w (xo_w m32_w he) hg)]; rfl
theorem maj_code {a b c : Int} (ha : W32 a) (hb : W32 b) (hc : W32 c) : bits BinOp.xor IntKind.u32 (bits BinOp.xor IntKind.u32 (bits BinOp.and IntKind.u32 a b) (bits BinOp.and IntKind.u32 a c)) (bits BinOp.and IntKind.u32 b c) = maj a b c := by
  rw [u32_an ha hb, u32_an ha hc, u32_an hb hc, u32_xo (an_w ha hb) (an_w ha hc), u32_xo (xo_w (an_w ha hb) (an_w ha hc)) (an_w hb hc)]; rfl
end Go.Proofs.YtfjcajccfnpfbaaDoor
