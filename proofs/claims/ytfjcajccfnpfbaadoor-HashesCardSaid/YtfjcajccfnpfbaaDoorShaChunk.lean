import Derived.Test.YtfjcajccfnpfbaaDoorShaHash
import Derived.RegionTactic
import Derived.Laws.CopyOwn
import Derived.BigRegion
import Derived.Deep.RegionHeld3
namespace Go.Proofs.YtfjcajccfnpfbaaDoor
open Go.RowKit
open Sha
set_option maxRecDepth 100000 in
set_option maxHeartbeats 1000000 in
theorem consts_any (w : World) :
    Calls Tryd.prog 25 #[] w fun e w' => e = .returned (.slice (some ⟨w.heap.size, 0, none⟩) 64 64) ∧ w' = w.alloc (.cells (i64s kl).toArray 3) := by
  go_enter Tryd.func25, Tryd.ntmps25
  go_wp2
  go_ret
  exact ⟨rfl, rfl⟩
theorem make64 (w : World) : (Instr.makeSlice 57 (.int .i64 64) (.int .i64 64)).run Tryd.prog w = .ok (.slice (some ⟨w.heap.size, 0, none⟩) 64 64) (w.alloc (.cells (i64s Z64).toArray 3)) := by kernel_rfl
theorem make8 (w : World) : (Instr.makeSlice 57 (.int .i64 8) (.int .i64 8)).run Tryd.prog w = .ok (.slice (some ⟨w.heap.size, 0, none⟩) 8 8) (w.alloc (.cells (i64s Z8).toArray 3)) := by kernel_rfl
theorem cell_set_ned (w : World) (b i j : Nat) (v : Value) (h : ¬ j = i) : (w.setCell ⟨b, i, none⟩ v).drew.cell? ⟨b, j, none⟩ = w.cell? ⟨b, j, none⟩ := cell_set_ne w b i j v h
theorem ss_paper {x : Int} (hx : W32 x) (a b s : Nat) : bits .xor .i64 (bits .xor .i64 (rr a x) (rr b x)) (x / 2 ^ s) = ss a b s x := by
  rw [i64_xo (rr_w hx).w62 (rr_w hx).w62, i64_xo (xo_w (rr_w hx) (rr_w hx)).w62 (shr_w hx).w62]; rfl
/-- the words' row, filled so far -/
structure Ch (w : World) (L : List Int) (wr : World) : Prop where
  own : wr.heap[w.heap.size]? = some (.cells (i64s L).toArray 3)
  below : Below w.heap.size w wr
theorem Ch.cell {w wr : World} {L : List Int} (h : Ch w L wr) (i : Nat) (hi : i < L.length) : wr.cell? ⟨w.heap.size, i, none⟩ = some (.int .i64 (L.getD i 0)) := cell_i64s L wr _ i 3 (0, 0) h.own hi
theorem Ch.frozen {w wr : World} {L : List Int} (h : Ch w L wr) (i : Nat) : wr.frozen? ⟨w.heap.size, i, none⟩ = false := frozen_of_row wr _ i _ 3 h.own
theorem Ch.set {w wr : World} {L : List Int} (h : Ch w L wr) (i : Nat) (x : Int) : Ch w (L.set i x) (wr.setCell ⟨w.heap.size, i, none⟩ (.int .i64 x)) := by
  refine ⟨?_, h.below.setCell (Nat.le_refl _) _⟩
  rw [heap_setCell_same _ _ _ _ _ _ h.own]
  simp [i64s, List.map_set]
theorem Ch.drew {w wr : World} {L : List Int} (h : Ch w L wr) : Ch w L wr.drew := ⟨h.own, h.below.drew⟩
theorem Ch.drewN {w wr : World} {L : List Int} (h : Ch w L wr) (n : Nat) : Ch w L (wr.drewN n) := ⟨h.own, below_drewN h.below n⟩
/-- a cell of old memory -/
theorem cell_set_blk (w : World) (g i b j : Nat) (v : Value) (h : ¬ b = g) : (w.setCell ⟨g, i, none⟩ v).cell? ⟨b, j, none⟩ = w.cell? ⟨b, j, none⟩ :=
  World.cell?_setCell_other w _ _ v (fun e => h (by injection e with e1 _ _; exact e1.symm))
theorem cell_set_blkd (w : World) (g i b j : Nat) (v : Value) (h : ¬ b = g) : (w.setCell ⟨g, i, none⟩ v).drew.cell? ⟨b, j, none⟩ = w.cell? ⟨b, j, none⟩ :=
  cell_set_blk w g i b j v h
theorem Ch.old {w wr : World} {L : List Int} (h : Ch w L wr) {p : Addr} {v : Value} (hc : w.cell? p = some v) : wr.cell? p = some v := by
  rw [h.below.cell (World.block_lt_of_cell? w p hc)]; exact hc
def wz (b : Nat → Int) (i : Nat) : List Int := (List.range i).map (word b) ++ List.replicate (64 - i) 0
theorem wz_len (b : Nat → Int) (i : Nat) (hi : i ≤ 64) : (wz b i).length = 64 := by simp [wz, -List.reduceReplicate]; omega
theorem wz_step (b : Nat → Int) (i : Nat) (hi : i < 64) : (wz b i).set i (word b i) = wz b (i + 1) := by
  unfold wz
  rw [List.set_append_right _ _ (by simp), List.length_map, List.length_range, Nat.sub_self, show 64 - i = (64 - (i + 1)) + 1 by omega, List.replicate_succ, List.range_succ]
  simp
theorem wz_zero (b : Nat → Int) : wz b 0 = Z64 := rfl
theorem wz_done (b : Nat → Int) : wz b 16 = sz b 0 := rfl
theorem word_paper {b : Nat → Int} (hb : Byt b) (j : Nat) : bits .or .i64 (bits .or .i64 (bits .or .i64 (b (4 * j) * 16777216) (b (4 * j + 1) * 65536)) (b (4 * j + 2) * 256)) (b (4 * j + 3)) = word b j := by
  obtain ⟨a0, a1⟩ := hb (4 * j); obtain ⟨b0, b1⟩ := hb (4 * j + 1); obtain ⟨c0, c1⟩ := hb (4 * j + 2); obtain ⟨d0, d1⟩ := hb (4 * j + 3)
  unfold word
  generalize b (4 * j) = y0 at *
  generalize b (4 * j + 1) = y1 at *
  generalize b (4 * j + 2) = y2 at *
  generalize b (4 * j + 3) = y3 at *
  have j1 : bits .or .i64 (y0 * 16777216) (y1 * 65536) = y0 * 16777216 + y1 * 65536 := bits_join .i64 62 (by decide) wraps_i64 24 _ _ (by omega) (by omega) (by omega) (by omega) (by omega) (by omega)
  have j2 : bits .or .i64 (y0 * 16777216 + y1 * 65536) (y2 * 256) = y0 * 16777216 + y1 * 65536 + y2 * 256 := bits_join .i64 62 (by decide) wraps_i64 16 _ _ (by omega) (by omega) (by omega) (by omega) (by omega) (by omega)
  have j3 : bits .or .i64 (y0 * 16777216 + y1 * 65536 + y2 * 256) y3 = y0 * 16777216 + y1 * 65536 + y2 * 256 + y3 := bits_join .i64 62 (by decide) wraps_i64 8 _ _ (by omega) (by omega) (by omega) (by omega) (by omega) (by omega)
  rw [j1, j2, j3]
theorem plus_get (s t : S8) (i : Nat) (hi : i < 8) : (s.plus t).list.getD i 0 = (s.list.getD i 0 + t.list.getD i 0) % 4294967296 := by
  match i, hi with
  | 0, _ => rfl
  | 1, _ => rfl
  | 2, _ => rfl
  | 3, _ => rfl
  | 4, _ => rfl
  | 5, _ => rfl
  | 6, _ => rfl
  | 7, _ => rfl
def op (s t : S8) (k : Nat) : List Int := (s.plus t).list.take k ++ List.replicate (8 - k) 0
theorem op_len (s t : S8) (k : Nat) (hk : k ≤ 8) : (op s t k).length = 8 := by
  simp [op, len8, -List.reduceReplicate]; omega
theorem op_step (s t : S8) (k : Nat) (hk : k < 8) : (op s t k).set k ((s.list.getD k 0 + t.list.getD k 0) % 4294967296) = op s t (k + 1) := by
  have hg := plus_get s t k hk
  have hl : ((s.plus t).list.take k).length = k := by rw [List.length_take, len8]; omega
  have hx : (s.plus t).list[k]? = some ((s.plus t).list.getD k 0) := by
    rw [List.getD_eq_getElem?_getD, List.getElem?_eq_getElem (by rw [len8]; exact hk)]; rfl
  rw [← hg]
  unfold op
  rw [List.set_append_right _ _ (by omega), hl, Nat.sub_self, show 8 - k = (8 - (k + 1)) + 1 by omega, List.replicate_succ, List.take_add_one, hx]
  simp
theorem op_done (s t : S8) : op s t 8 = (s.plus t).list := rfl
/-- the last loop's relation -/
structure Ou (w : World) (s t : S8) (gh gv go k : Nat) (wq : World) : Prop where
  h : ∀ i, i < 8 → wq.cell? ⟨gh, i, none⟩ = some (.int .i64 (s.list.getD i 0))
  v : ∀ i, i < 8 → wq.cell? ⟨gv, i, none⟩ = some (.int .i64 (t.list.getD i 0))
  own : wq.heap[go]? = some (.cells (i64s (op s t k)).toArray 3)
  ne1 : ¬ gh = go
  ne2 : ¬ gv = go
  ge : w.heap.size ≤ go
  below : Below w.heap.size w wq
theorem Ou.cell {w : World} {s t : S8} {gh gv go k : Nat} {wq : World} (f : Ou w s t gh gv go k wq) (i : Nat) (hi : i < (op s t k).length) : wq.cell? ⟨go, i, none⟩ = some (.int .i64 ((op s t k).getD i 0)) := cell_i64s _ wq go i 3 (0, 0) f.own hi
theorem Ou.frozen {w : World} {s t : S8} {gh gv go k : Nat} {wq : World} (f : Ou w s t gh gv go k wq) (i : Nat) : wq.frozen? ⟨go, i, none⟩ = false := frozen_of_row wq go i _ 3 f.own
theorem Ou.drew {w : World} {s t : S8} {gh gv go k : Nat} {wq : World} (f : Ou w s t gh gv go k wq) : Ou w s t gh gv go k wq.drew := ⟨f.h, f.v, f.own, f.ne1, f.ne2, f.ge, f.below.drew⟩
theorem Ou.set {w : World} {s t : S8} {gh gv go k : Nat} {wq : World} (f : Ou w s t gh gv go k wq) (hk : k < 8) : Ou w s t gh gv go (k + 1) (wq.setCell ⟨go, k, none⟩ (.int .i64 ((s.list.getD k 0 + t.list.getD k 0) % 4294967296))) := by
  refine ⟨fun i hi => ?_, fun i hi => ?_, ?_, f.ne1, f.ne2, f.ge, f.below.setCell f.ge _⟩
  · rw [cell_set_blk _ _ _ _ _ _ f.ne1]; exact f.h i hi
  · rw [cell_set_blk _ _ _ _ _ _ f.ne2]; exact f.v i hi
  · rw [heap_setCell_same _ _ _ _ _ _ f.own, ← op_step s t k hk]
    simp [i64s, List.map_set]
theorem Ou.done {w : World} {s t : S8} {gh gv go : Nat} {wq : World} (f : Ou w s t gh gv go 8 wq) : wq.heap[go]? = some (.cells (i64s (s.plus t).list).toArray 3) := f.own
theorem under38 : Tryd.prog.underlying 57 = some (.slice 3) := by kernel_rfl
theorem info3 : (Tryd.prog.info? 3).map (·.size) = some 1 := by kernel_rfl
theorem i64s_one (l : List Int) : ∀ v ∈ i64s l, v.oneCell' = true := fun v hv => by
  simp only [i64s, List.mem_map] at hv; obtain ⟨x, _, rfl⟩ := hv; rfl
theorem bs_paper {x : Int} (hx : W32 x) (a b c : Nat) : bits .xor .i64 (bits .xor .i64 (rr a x) (rr b x)) (rr c x) = bs a b c x := by
  rw [i64_xo (rr_w hx).w62 (rr_w hx).w62, i64_xo (xo_w (rr_w hx) (rr_w hx)).w62 (rr_w hx).w62]; rfl
theorem ch_paper {e f g : Int} (he : W32 e) (hf : W32 f) (hg : W32 g) : bits .xor .i64 (bits .and .i64 e f) (bits .and .i64 (bits .xor .i64 4294967295 e) g) = ch e f g := by
  rw [i64_an he.w62 hf.w62, i64_xo m32_w.w62 he.w62, i64_an (xo_w m32_w he).w62 hg.w62, i64_xo (an_w he hf).w62 (an_w (xo_w m32_w he) hg).w62]; rfl
theorem maj_paper {a b c : Int} (ha : W32 a) (hb : W32 b) (hc : W32 c) : bits .xor .i64 (bits .xor .i64 (bits .and .i64 a b) (bits .and .i64 a c)) (bits .and .i64 b c) = maj a b c := by
  rw [i64_an ha.w62 hb.w62, i64_an ha.w62 hc.w62, i64_an hb.w62 hc.w62, i64_xo (an_w ha hb).w62 (an_w ha hc).w62, i64_xo (xo_w (an_w ha hb) (an_w ha hc)).w62 (an_w hb hc).w62]; rfl
theorem rd_list (t : S8) (y x : Int) : (rd t y x).list = [(t.h + bs 6 11 25 t.e + ch t.e t.f t.g + y + x + (bs 2 13 22 t.a + maj t.a t.b t.c)) % 4294967296, t.a, t.b, t.c, (t.d + (t.h + bs 6 11 25 t.e + ch t.e t.f t.g + y + x)) % 4294967296, t.e, t.f, t.g] := by
  unfold rd S8.list t1 t2
  simp only [List.cons.injEq, and_true, true_and]
  omega
theorem cell_alloc_o (w : World) (o : Obj) (b j : Nat) (h : b < w.heap.size) : (w.alloc o).cell? ⟨b, j, none⟩ = w.cell? ⟨b, j, none⟩ := World.cell?_alloc_lt _ _ _ h
theorem cell_alloc_od (w : World) (o : Obj) (n : Nat) (b j : Nat) (h : b < w.heap.size) : ((w.alloc o).drewN n).cell? ⟨b, j, none⟩ = w.cell? ⟨b, j, none⟩ := World.cell?_alloc_lt w o ⟨b, j, none⟩ h
/-- what the rounds read of old memory -/
structure Fx (w : World) (s : S8) (b : Nat → Int) (gh gc : Nat) (wr : World) : Prop where
  h : ∀ i, i < 8 → wr.cell? ⟨gh, i, none⟩ = some (.int .i64 (s.list.getD i 0))
  c : ∀ i, i < 64 → wr.cell? ⟨gc, i, none⟩ = some (.int .i64 (kw i))
  ws : ∀ i, i < 64 → wr.cell? ⟨w.heap.size, i, none⟩ = some (.int .i64 (wd b i))
  lt : w.heap.size < wr.heap.size
  below : Below w.heap.size w wr
theorem Fx.later {w : World} {s : S8} {b : Nat → Int} {gh gc : Nat} {wr w1 : World} (f : Fx w s b gh gc wr) (hb : Below wr.heap.size wr w1) : Fx w s b gh gc w1 := by
  have hl := f.lt
  refine ⟨fun i hi => ?_, fun i hi => ?_, fun i hi => ?_, ?_, f.below.trans (hb.mono (by omega))⟩
  · rw [hb.cell (p := ⟨gh, i, none⟩) (World.block_lt_of_cell? wr _ (f.h i hi))]; exact f.h i hi
  · rw [hb.cell (p := ⟨gc, i, none⟩) (World.block_lt_of_cell? wr _ (f.c i hi))]; exact f.c i hi
  · rw [hb.cell (p := ⟨w.heap.size, i, none⟩) hl]; exact f.ws i hi
  · have := hb.size; omega
theorem Fx.later1 {w : World} {s : S8} {b : Nat → Int} {gh gc : Nat} {wr : World} (f : Fx w s b gh gc wr) (o : Obj) : Fx w s b gh gc (wr.alloc o) := f.later ((Below.refl _ _).alloc (Nat.le_refl _) o)
theorem h_src {w : World} {s : S8} {b : Nat → Int} {gh gc : Nat} {wr : World} (f : Fx w s b gh gc wr) (j : Nat) (v : Value) (hv : (i64s s.list)[j]? = some v) : wr.cell? ((⟨gh, 0, none⟩ : Addr).add j) = some v := by
  have hj : j < 8 := by
    have := (List.getElem?_eq_some_iff.1 hv).1
    simpa [i64s, S8.list] using this
  have hadd : (⟨gh, 0, none⟩ : Addr).add j = ⟨gh, j, none⟩ := by unfold Addr.add; split <;> simp_all
  rw [hadd, f.h j hj, ← hv]
  simp [i64s, List.getElem?_eq_getElem (show j < s.list.length by rw [len8]; exact hj)]
/-- the rounds' relation -/
def Rd (w : World) (s : S8) (b : Nat → Int) (gh gc k : Nat) (v : Value) (wq : World) : Prop :=
  Fx w s b gh gc wq ∧ ∃ gv, v = .slice (some ⟨gv, 0, none⟩) 8 8 ∧ wq.heap[gv]? = some (.cells (i64s (rds s (wd b) k).list).toArray 3)
theorem Fx.begun {w : World} {s : S8} {b : Nat → Int} {gh gc : Nat} {wr W3 : World} {o : Obj} (f : Fx w s b gh gc wr) (h1 : Hid (W3.heap[wr.heap.size]? = some (.cells (i64s s.list).toArray 3 (0, 0)))) (h2 : Hid (∀ B a, Below B a (wr.alloc o) → B ≤ wr.heap.size → Below B a W3)) :
    Rd w s b gh gc 0 (.slice (some ⟨wr.heap.size, 0, none⟩) 8 8) W3 :=
  ⟨f.later (h2.out _ _ ((Below.refl _ _).alloc (Nat.le_refl _) o) (Nat.le_refl _)), _, rfl, h1.out⟩
theorem wpList_copy_gen {P : Program} {w : World} {ops : Array Oper} {rest : List Oper} {o : Oper} {a : Act} {Q : Exit → Act → World → Prop} (hgd : o.guard = none) (d s : Operand) (dT sT : TypeId)
    (ho : o.op = .call { callee := .builtin .copy, args := #[d, s], argTypes := #[dT, sT] }) (elem : TypeId) (hu : P.underlying dT = some (.slice elem)) (hsz : (P.info? elem).map (·.size) = some 1)
    (g dLen dCap : Nat) (ad : Addr) (sLen sCap : Nat) (hd : a.eval d = .slice (some ⟨g, 0, none⟩) dLen dCap) (hs : a.eval s = .slice (some ad) sLen sCap)
    (cur : Array Value) (t : TypeId) (hg : w.heap[g]? = some (.cells cur t (0, 0))) (cs : List Value) (hn : cs.length = Nat.min sLen dLen)
    (hsrc : ∀ j v, cs[j]? = some v → w.cell? (ad.add j) = some v) (hfit : cs.length = cur.size) (h1 : ∀ v ∈ cs, v.oneCell' = true)
    (h : ∀ w', Hid (w'.heap[g]? = some (.cells cs.toArray t (0, 0))) → Hid (∀ B a, Below B a w → B ≤ g → Below B a w') → wpList P ops Q rest (a.put o.dst (goInt cs.length)) w') : wpList P ops Q (o :: rest) a w := by
  refine wpList_copy_own hgd d s dT sT ho elem hu hsz g 0 dLen dCap ad sLen sCap hd hs cur t hg cs hn hsrc (by omega) h1 ?_
  refine h _ ?_ (fun _ _ hb hB => below_setRow hb hB _)
  show _ = _
  rw [setRow_heap _ _ _ _ _ _ hg]
  simp [hfit]
theorem Fx.out0 {w : World} {s : S8} {b : Nat → Int} {gh gc gv : Nat} {wr : World} (f : Fx w s b gh gc wr) (t : S8) (hgv : wr.heap[gv]? = some (.cells (i64s t.list).toArray 3)) : Ou w s t gh gv wr.heap.size 0 (wr.alloc (.cells (i64s Z8).toArray 3)) := by
  have hl : gv < wr.heap.size := (Array.getElem?_eq_some_iff.1 hgv).1
  have hh : gh < wr.heap.size := World.block_lt_of_cell? wr ⟨gh, 0, none⟩ (f.h 0 (by omega))
  refine ⟨(f.later1 _).h, fun i hi => ?_, heap_alloc_last wr _, by omega, by omega, by have := f.lt; omega, (f.later1 _).below⟩
  rw [cell_alloc_o _ _ _ _ hl]
  exact cell_i64s t.list wr gv i 3 (0, 0) hgv (by rw [len8]; exact hi)
theorem cells8i {W : World} {g : Nat} {s : S8} (hA : W.heap[g]? = some (.cells (i64s s.list).toArray 3)) :
    W.cell? ⟨g, 0, none⟩ = some (.int .i64 s.a) ∧ W.cell? ⟨g, 1, none⟩ = some (.int .i64 s.b) ∧ W.cell? ⟨g, 2, none⟩ = some (.int .i64 s.c) ∧ W.cell? ⟨g, 3, none⟩ = some (.int .i64 s.d) ∧
    W.cell? ⟨g, 4, none⟩ = some (.int .i64 s.e) ∧ W.cell? ⟨g, 5, none⟩ = some (.int .i64 s.f) ∧ W.cell? ⟨g, 6, none⟩ = some (.int .i64 s.g) ∧ W.cell? ⟨g, 7, none⟩ = some (.int .i64 s.h) :=
  ⟨cell_i64s s.list W _ 0 3 (0, 0) hA (by rw [len8]; omega), cell_i64s s.list W _ 1 3 (0, 0) hA (by rw [len8]; omega), cell_i64s s.list W _ 2 3 (0, 0) hA (by rw [len8]; omega), cell_i64s s.list W _ 3 3 (0, 0) hA (by rw [len8]; omega),
   cell_i64s s.list W _ 4 3 (0, 0) hA (by rw [len8]; omega), cell_i64s s.list W _ 5 3 (0, 0) hA (by rw [len8]; omega), cell_i64s s.list W _ 6 3 (0, 0) hA (by rw [len8]; omega), cell_i64s s.list W _ 7 3 (0, 0) hA (by rw [len8]; omega)⟩
set_option maxRecDepth 100000 in
set_option maxHeartbeats 6000000 in
theorem chunk_any (s : S8) (hs : s.Ok) (b : Nat → Int) (hb : Byt b) (gh gb off gc cap : Nat) (w : World)
    (hh : ∀ i, i < 8 → w.cell? ⟨gh, i, none⟩ = some (.int .i64 (s.list.getD i 0)))
    (hbb : ∀ i, i < 64 → w.cell? ⟨gb, off + i, none⟩ = some (.int .u8 (b i)))
    (hc : ∀ i, i < 64 → w.cell? ⟨gc, i, none⟩ = some (.int .i64 (kw i))) :
    Calls Tryd.prog 26 #[.slice (some ⟨gh, 0, none⟩) 8 8, .slice (some ⟨gb, off, none⟩) 64 cap, .slice (some ⟨gc, 0, none⟩) 64 64] w fun e w' =>
      ∃ g, e = .returned (.slice (some ⟨g, 0, none⟩) 8 8) ∧ w.heap.size ≤ g ∧ w'.heap[g]? = some (.cells (i64s (comp s b).list).toArray 3) ∧ Below w.heap.size w w' := by
  have hgb : ¬ gb = w.heap.size := by
    have := World.block_lt_of_cell? w ⟨gb, off + 0, none⟩ (hbb 0 (by omega))
    simp at this; omega
  have HH := hide hh
  have HBB := hide hbb
  have HC := hide hc
  clear hh hbb hc
  have hm64 := make64
  have hm8 := make8
  go_enter Tryd.func26, Tryd.ntmps26
  go_wp2
  go_loopw [8] (fun i wr => ∃ k : Nat, k ≤ 16 ∧ i = .int .i64 k ∧ Ch w (wz b k) wr) (fun i _ => 16 - (intOf i).toNat)
  case atStart => exact ⟨0, by omega, rfl, heap_alloc_last w _, (Below.refl _ _).alloc (Nat.le_refl _) _⟩
  case round =>
    obtain ⟨k, hk, rfl, hch⟩ := hrel
    by_cases hlt : k < 16
    · have hl := wz_len b k (by omega)
      have b0 := hch.old (HBB.out (4 * k) (by omega))
      have b1 := hch.old (HBB.out (4 * k + 1) (by omega))
      have b2 := hch.old (HBB.out (4 * k + 2) (by omega))
      have b3 := hch.old (HBB.out (4 * k + 3) (by omega))
      have c1 := hch.cell k (by omega)
      have f1 := hch.frozen k
      have HCH := hide hch
      have HW := hide (word_paper hb k)
      have HZ := hide (wz_step b k (by omega))
      clear hch hl
      obtain ⟨x00, x01⟩ := hb (4 * k)
      obtain ⟨x10, x11⟩ := hb (4 * k + 1)
      obtain ⟨x20, x21⟩ := hb (4 * k + 2)
      obtain ⟨x30, x31⟩ := hb (4 * k + 3)
      generalize b (4 * k) = y0 at *
      generalize b (4 * k + 1) = y1 at *
      generalize b (4 * k + 2) = y2 at *
      generalize b (4 * k + 3) = y3 at *
      have g0 : IntKind.i64.wrap (4 * (k : Int)) = 4 * (k : Int) := by rw [IntKind.wrap_i64]; omega
      have g1 : IntKind.i64.wrap (4 * (k : Int) + 1) = 4 * (k : Int) + 1 := by rw [IntKind.wrap_i64]; omega
      have g2 : IntKind.i64.wrap (4 * (k : Int) + 2) = 4 * (k : Int) + 2 := by rw [IntKind.wrap_i64]; omega
      have g3 : IntKind.i64.wrap (4 * (k : Int) + 3) = 4 * (k : Int) + 3 := by rw [IntKind.wrap_i64]; omega
      have t0 : (4 * (k : Int)).toNat = 4 * k := by omega
      have t1 : (4 * (k : Int) + 1).toNat = 4 * k + 1 := by omega
      have t2 : (4 * (k : Int) + 2).toNat = 4 * k + 2 := by omega
      have t3 : (4 * (k : Int) + 3).toNat = 4 * k + 3 := by omega
      have p0 : (0 : Int) ≤ 4 * (k : Int) := by omega
      have p1 : (0 : Int) ≤ 4 * (k : Int) + 1 := by omega
      have p2 : (0 : Int) ≤ 4 * (k : Int) + 2 := by omega
      have p3 : (0 : Int) ≤ 4 * (k : Int) + 3 := by omega
      have qk : (k : Int) < 64 := by omega
      have q0 : 4 * (k : Int) < 64 := by omega
      have q1 : 4 * (k : Int) + 1 < 64 := by omega
      have q2 : 4 * (k : Int) + 2 < 64 := by omega
      have q3 : 4 * (k : Int) + 3 < 64 := by omega
      have v0 : IntKind.i64.wrap y0 = y0 := by rw [IntKind.wrap_i64]; omega
      have v1 : IntKind.i64.wrap y1 = y1 := by rw [IntKind.wrap_i64]; omega
      have v2 : IntKind.i64.wrap y2 = y2 := by rw [IntKind.wrap_i64]; omega
      have v3 : IntKind.i64.wrap y3 = y3 := by rw [IntKind.wrap_i64]; omega
      have s0 : IntKind.i64.wrap (y0 * 16777216) = y0 * 16777216 := by rw [IntKind.wrap_i64]; omega
      have s1 : IntKind.i64.wrap (y1 * 65536) = y1 * 65536 := by rw [IntKind.wrap_i64]; omega
      have s2 : IntKind.i64.wrap (y2 * 256) = y2 * 256 := by rw [IntKind.wrap_i64]; omega
      go_wp2
      go_region_held3 (fun w' => w'.cell? ⟨gb, off + 4 * k, none⟩ = some (.int .u8 y0) ∧ w'.cell? ⟨gb, off + (4 * k + 1), none⟩ = some (.int .u8 y1) ∧ w'.cell? ⟨gb, off + (4 * k + 2), none⟩ = some (.int .u8 y2) ∧ w'.cell? ⟨gb, off + (4 * k + 3), none⟩ = some (.int .u8 y3)) (first | (go_keep; done) | exact ⟨(cell_set_blkd _ _ _ _ _ _ hgb).trans b0, (cell_set_blkd _ _ _ _ _ _ hgb).trans b1, (cell_set_blkd _ _ _ _ _ _ hgb).trans b2, (cell_set_blkd _ _ _ _ _ _ hgb).trans b3⟩) (fail)
      rw [HW.out]
      go_wp2
      go_roundw
      case rel =>
        refine ⟨k + 1, by omega, by go_num, ?_⟩
        rw [← HZ.out]
        exact (HCH.out.set k _).drew
      case measure => simp [intOf]; omega
    · have hk16 : k = 16 := by omega
      subst hk16
      rw [wz_done] at hch
      have HCH := hide hch
      clear hch hlt hk
      go_wp2
      go_loopw [9] (fun i wr => ∃ m : Nat, 16 ≤ m ∧ m ≤ 64 ∧ i = .int .i64 m ∧ Ch w (sz b (m - 16)) wr) (fun i _ => 64 - (intOf i).toNat)
      case atStart => exact ⟨16, by omega, by omega, rfl, HCH.out⟩
      case round =>
        obtain ⟨m, hm, hm64', rfl, hch⟩ := hrel
        clear HCH
        by_cases hlt : m < 64
        · have hlen := sz_len b (m - 16) (by omega)
          have c16 := hch.cell (m - 16) (by omega)
          have c15 := hch.cell (m - 15) (by omega)
          have c7 := hch.cell (m - 7) (by omega)
          have c2 := hch.cell (m - 2) (by omega)
          have c0 := hch.cell m (by omega)
          have hfr := hch.frozen m
          rw [sz_get _ _ _ (by omega)] at c16 c15 c7 c2
          have w16 := getD_w (sched_w hb (m - 16)) (m - 16)
          have w15 := getD_w (sched_w hb (m - 16)) (m - 15)
          have w7 := getD_w (sched_w hb (m - 16)) (m - 7)
          have w2 := getD_w (sched_w hb (m - 16)) (m - 2)
          have HS := hide hch
          have HST : Hid ((sz b (m - 16)).set m (Sha.step ((sched b (m - 16)).getD (m - 16) 0) ((sched b (m - 16)).getD (m - 15) 0) ((sched b (m - 16)).getD (m - 7) 0) ((sched b (m - 16)).getD (m - 2) 0)) = sz b (m + 1 - 16)) := by
            have := sz_step b (m - 16) (by omega)
            rw [show 16 + (m - 16) = m by omega, show m - 16 + 1 = m - 15 by omega, show m - 16 + 9 = m - 7 by omega, show m - 16 + 14 = m - 2 by omega] at this
            rw [show m + 1 - 16 = m - 15 by omega]; exact this
          clear hch hlen
          generalize (sched b (m - 16)).getD (m - 16) 0 = x16 at *
          generalize (sched b (m - 16)).getD (m - 15) 0 = x15 at *
          generalize (sched b (m - 16)).getD (m - 7) 0 = x7 at *
          generalize (sched b (m - 16)).getD (m - 2) 0 = x2 at *
          have T7 : Hid (∀ w, Calls Tryd.prog 48 #[.int .i64 x15, .int .i64 7] w fun e w' => e = .returned (.int .i64 (rr 7 x15)) ∧ ∃ n, w' = w.drewN n) := fun w => turn_any x15 7 w w15 (by decide) (by decide)
          have T18 : Hid (∀ w, Calls Tryd.prog 48 #[.int .i64 x15, .int .i64 18] w fun e w' => e = .returned (.int .i64 (rr 18 x15)) ∧ ∃ n, w' = w.drewN n) := fun w => turn_any x15 18 w w15 (by decide) (by decide)
          have T17 : Hid (∀ w, Calls Tryd.prog 48 #[.int .i64 x2, .int .i64 17] w fun e w' => e = .returned (.int .i64 (rr 17 x2)) ∧ ∃ n, w' = w.drewN n) := fun w => turn_any x2 17 w w2 (by decide) (by decide)
          have T19 : Hid (∀ w, Calls Tryd.prog 48 #[.int .i64 x2, .int .i64 19] w fun e w' => e = .returned (.int .i64 (rr 19 x2)) ∧ ∃ n, w' = w.drewN n) := fun w => turn_any x2 19 w w2 (by decide) (by decide)
          have S1 : Hid (bits .xor .i64 (bits .xor .i64 (rr 7 x15) (rr 18 x15)) (x15 / 8) = ss 7 18 3 x15) := ss_paper w15 7 18 3
          have S2 : Hid (bits .xor .i64 (bits .xor .i64 (rr 17 x2) (rr 19 x2)) (x2 / 1024) = ss 17 19 10 x2) := ss_paper w2 17 19 10
          have u1 := ss_w (a := 7) (b := 18) (s := 3) w15
          have u2 := ss_w (a := 17) (b := 19) (s := 10) w2
          have P16 := hide w16
          have P7 := hide w7
          have p16 : (16 : Int) ≤ (m : Int) := by omega
          have p15 : (15 : Int) ≤ (m : Int) := by omega
          have p7 : (7 : Int) ≤ (m : Int) := by omega
          have p2 : (2 : Int) ≤ (m : Int) := by omega
          have e16 : ((m : Int) - 16).toNat = m - 16 := by omega
          have e15 : ((m : Int) - 15).toNat = m - 15 := by omega
          have e7 : ((m : Int) - 7).toNat = m - 7 := by omega
          have e2 : ((m : Int) - 2).toNat = m - 2 := by omega
          have g16 : IntKind.i64.wrap ((m : Int) - 16) = (m : Int) - 16 := by rw [IntKind.wrap_i64]; omega
          have g15 : IntKind.i64.wrap ((m : Int) - 15) = (m : Int) - 15 := by rw [IntKind.wrap_i64]; omega
          have g7 : IntKind.i64.wrap ((m : Int) - 7) = (m : Int) - 7 := by rw [IntKind.wrap_i64]; omega
          have g2 : IntKind.i64.wrap ((m : Int) - 2) = (m : Int) - 2 := by rw [IntKind.wrap_i64]; omega
          have f16 : ¬ m - 16 = m := by omega
          have f15 : ¬ m - 15 = m := by omega
          have f7 : ¬ m - 7 = m := by omega
          have f2 : ¬ m - 2 = m := by omega
          have q16 : (m : Int) - 16 < 64 := by omega
          have q15 : (m : Int) - 15 < 64 := by omega
          have q7 : (m : Int) - 7 < 64 := by omega
          have q2 : (m : Int) - 2 < 64 := by omega
          have qm : (m : Int) < 64 := by omega
          obtain ⟨a16, b16⟩ := w16
          obtain ⟨a15, b15⟩ := w15
          obtain ⟨a7, b7⟩ := w7
          obtain ⟨a2, b2⟩ := w2
          go_wp2_with fail
          refine (T7.out _).mono ?_
          rintro e w1 ⟨rfl, n1, rfl⟩
          go_wp2_with fail
          refine (T18.out _).mono ?_
          rintro e w1 ⟨rfl, n2, rfl⟩
          go_wp2_with fail
          refine (T17.out _).mono ?_
          rintro e w1 ⟨rfl, n3, rfl⟩
          go_wp2_with fail
          refine (T19.out _).mono ?_
          rintro e w1 ⟨rfl, n4, rfl⟩
          go_wp2_with fail
          rw [S1.out, S2.out]
          have HV : Hid ((x16 + ss 7 18 3 x15 + x7 + ss 17 19 10 x2) % 4294967296 = Sha.step x16 x15 x7 x2) := rfl
          obtain ⟨u10, u11⟩ := u1
          obtain ⟨u20, u21⟩ := u2
          generalize ss 7 18 3 x15 = y1 at *
          generalize ss 17 19 10 x2 = y2 at *
          have k1 : IntKind.i64.wrap (x16 + y1) = x16 + y1 := by rw [IntKind.wrap_i64]; omega
          have k2 : IntKind.i64.wrap (x16 + y1 + x7) = x16 + y1 + x7 := by rw [IntKind.wrap_i64]; omega
          have k3 : IntKind.i64.wrap (x16 + y1 + x7 + y2) = x16 + y1 + x7 + y2 := by rw [IntKind.wrap_i64]; omega
          have k4 : bits .and .i64 (x16 + y1 + x7 + y2) 4294967295 = Sha.step x16 x15 x7 x2 := by rw [i64_low ⟨by omega, by omega⟩]; exact HV.out
          clear T7 T18 T17 T19 S1 S2 c15 c2
          go_region_held3 (fun w' => w'.cell? ⟨w.heap.size, m - 16, none⟩ = some (.int .i64 x16) ∧ w'.cell? ⟨w.heap.size, m - 7, none⟩ = some (.int .i64 x7)) (first | (go_keep; done) | exact ⟨(cell_set_ne _ _ _ _ _ f16).trans c16, (cell_set_ne _ _ _ _ _ f7).trans c7⟩ | exact ⟨(cell_set_ned _ _ _ _ _ f16).trans c16, (cell_set_ned _ _ _ _ _ f7).trans c7⟩) (fail)
          go_wp2
          go_roundw
          case rel =>
            (repeat apply Exists.intro)
            refine And.intro ?_ rfl
            refine ⟨m + 1, by omega, by omega, by go_num, ?_⟩
            rw [← HST.out]
            first | exact ((HS.out.drewN _).set m _).drew | exact ((HS.out.drewN _).drew).set m _ | exact (HS.out.drewN _).set m _
          case measure => simp [intOf]; omega
        · have hm64e : m = 64 := by omega
          subst hm64e
          rw [show 64 - 16 = 48 by rfl, sz_done] at hch
          have hlt48 := sched_len b 48
          have hW1 : ∀ i, i < 64 → wr.cell? ⟨w.heap.size, i, none⟩ = some (.int .i64 (wd b i)) := fun i hi => hch.cell i (by omega)
          have hbel := hch.below
          have hN : w.heap.size < wr.heap.size := (Array.getElem?_eq_some_iff.1 hch.own).1
          have HF : Hid (Fx w s b gh gc wr) := ⟨fun i hi => hch.old (HH.out i hi), fun i hi => hch.old (HC.out i hi), hW1, hN, hbel⟩
          clear hch hlt48 hW1 hbel hN hlt hm hm64' HH HBB HC hgb
          go_wp2_with (refine wpList_copy_gen rfl (.tmp 115) (.tmp 116) 57 57 rfl 3 under38 info3 wr.heap.size 8 8 ⟨gh, 0, none⟩ 8 8 rfl rfl (i64s Z8).toArray 3 (heap_alloc_last wr _) (i64s s.list) rfl (fun j v hv => h_src (HF.out.later1 _) j v hv) rfl (i64s_one _) ?_; intro W3 hW3 hW4; have HV := hide (HF.out.begun hW3 hW4))
          have HM8 := hide hm8
          clear hm64 hm8
          go_loopw [14, 15] (fun v i wq => ∃ k : Nat, k ≤ 64 ∧ i = .int .i64 k ∧ Rd w s b gh gc k v wq) (fun _ i _ => 64 - (intOf i).toNat)
          case atStart => exact ⟨0, by omega, rfl, HV.out⟩
          case round =>
            obtain ⟨k, hk, rfl, hrd⟩ := hrel
            clear HV HF
            obtain ⟨fx, gv, rfl, hgv⟩ := hrd
            by_cases hlt : k < 64
            · have hto : (rds s (wd b) k).Ok := rds_ok hs _ _
              obtain ⟨c0, c1, c2, c3, c4, c5, c6, c7⟩ := cells8i hgv
              have cw := fx.ws k hlt
              have cc := fx.c k hlt
              have HFX := hide fx
              have HT : Hid (rds s (wd b) (k + 1) = rd (rds s (wd b) k) (kw k) (wd b k)) := rfl
              have wk := wd_w hb k
              have kk := kw_w k
              have hgl : gv < wr.heap.size := (Array.getElem?_eq_some_iff.1 hgv).1
              generalize rds s (wd b) k = t at *
              generalize wd b k = x at *
              generalize kw k = y at *
              clear fx hgv
              have TE6 : Hid (∀ w, Calls Tryd.prog 48 #[.int .i64 t.e, .int .i64 6] w fun e w' => e = .returned (.int .i64 (rr 6 t.e)) ∧ ∃ n, w' = w.drewN n) := fun w => turn_any t.e 6 w hto.e (by decide) (by decide)
              have TE11 : Hid (∀ w, Calls Tryd.prog 48 #[.int .i64 t.e, .int .i64 11] w fun e w' => e = .returned (.int .i64 (rr 11 t.e)) ∧ ∃ n, w' = w.drewN n) := fun w => turn_any t.e 11 w hto.e (by decide) (by decide)
              have TE25 : Hid (∀ w, Calls Tryd.prog 48 #[.int .i64 t.e, .int .i64 25] w fun e w' => e = .returned (.int .i64 (rr 25 t.e)) ∧ ∃ n, w' = w.drewN n) := fun w => turn_any t.e 25 w hto.e (by decide) (by decide)
              have TA2 : Hid (∀ w, Calls Tryd.prog 48 #[.int .i64 t.a, .int .i64 2] w fun e w' => e = .returned (.int .i64 (rr 2 t.a)) ∧ ∃ n, w' = w.drewN n) := fun w => turn_any t.a 2 w hto.a (by decide) (by decide)
              have TA13 : Hid (∀ w, Calls Tryd.prog 48 #[.int .i64 t.a, .int .i64 13] w fun e w' => e = .returned (.int .i64 (rr 13 t.a)) ∧ ∃ n, w' = w.drewN n) := fun w => turn_any t.a 13 w hto.a (by decide) (by decide)
              have TA22 : Hid (∀ w, Calls Tryd.prog 48 #[.int .i64 t.a, .int .i64 22] w fun e w' => e = .returned (.int .i64 (rr 22 t.a)) ∧ ∃ n, w' = w.drewN n) := fun w => turn_any t.a 22 w hto.a (by decide) (by decide)
              have hP := bs_paper hto.e 6 11 25
              have hA := bs_paper hto.a 2 13 22
              have hC := ch_paper hto.e hto.f hto.g
              have hM := maj_paper hto.a hto.b hto.c
              obtain ⟨P0, P1⟩ := bs_w (a := 6) (b := 11) (c := 25) hto.e
              obtain ⟨A0, A1⟩ := bs_w (a := 2) (b := 13) (c := 22) hto.a
              obtain ⟨C0, C1⟩ := ch_w hto.e hto.f hto.g
              obtain ⟨M0, M1⟩ := maj_w hto.a hto.b hto.c
              have HR := hide (rd_list t y x)
              generalize bs 6 11 25 t.e = P at *
              generalize bs 2 13 22 t.a = A at *
              generalize ch t.e t.f t.g = C at *
              generalize maj t.a t.b t.c = M at *
              obtain ⟨x0, x1⟩ := wk
              obtain ⟨y0, y1⟩ := kk
              obtain ⟨h0', h1'⟩ := hto.h
              obtain ⟨d0', d1'⟩ := hto.d
              clear hto
              have k1 : IntKind.i64.wrap (t.h + P) = t.h + P := by rw [IntKind.wrap_i64]; omega
              have k2 : IntKind.i64.wrap (t.h + P + C) = t.h + P + C := by rw [IntKind.wrap_i64]; omega
              have k3 : IntKind.i64.wrap (t.h + P + C + y) = t.h + P + C + y := by rw [IntKind.wrap_i64]; omega
              have k4 : IntKind.i64.wrap (t.h + P + C + y + x) = t.h + P + C + y + x := by rw [IntKind.wrap_i64]; omega
              have k5 : IntKind.i64.wrap (A + M) = A + M := by rw [IntKind.wrap_i64]; omega
              have k6 : IntKind.i64.wrap (t.h + P + C + y + x + (A + M)) = t.h + P + C + y + x + (A + M) := by rw [IntKind.wrap_i64]; omega
              have k7 : IntKind.i64.wrap (t.d + (t.h + P + C + y + x)) = t.d + (t.h + P + C + y + x) := by rw [IntKind.wrap_i64]; omega
              have k8 : bits .and .i64 (t.h + P + C + y + x + (A + M)) 4294967295 = (t.h + P + C + y + x + (A + M)) % 4294967296 := i64_low ⟨by omega, by omega⟩
              have k9 : bits .and .i64 (t.d + (t.h + P + C + y + x)) 4294967295 = (t.d + (t.h + P + C + y + x)) % 4294967296 := i64_low ⟨by omega, by omega⟩
              have qk : (k : Int) < 64 := by omega
              go_wp2_with fail
              refine (TE6.out _).mono ?_
              rintro e w1 ⟨rfl, n1, rfl⟩
              go_wp2_with fail
              refine (TE11.out _).mono ?_
              rintro e w1 ⟨rfl, n2, rfl⟩
              go_wp2_with fail
              refine (TE25.out _).mono ?_
              rintro e w1 ⟨rfl, n3, rfl⟩
              go_wp2_with fail
              go_quiet (fail)
              go_wp2_with fail
              go_quiet (fail)
              go_wp2_with fail
              refine (TA2.out _).mono ?_
              rintro e w1 ⟨rfl, n4, rfl⟩
              go_wp2_with fail
              refine (TA13.out _).mono ?_
              rintro e w1 ⟨rfl, n5, rfl⟩
              go_wp2_with fail
              refine (TA22.out _).mono ?_
              rintro e w1 ⟨rfl, n6, rfl⟩
              go_wp2_with fail
              go_quiet (fail)
              go_wp2_with fail
              clear TE6 TE11 TE25 TA2 TA13 TA22 hP hA hC hM k1 k2 k3 k4 k5 cw cc c7
              go_region_held3 (fun w' => w'.cell? ⟨gv, 0, none⟩ = some (.int .i64 t.a) ∧ w'.cell? ⟨gv, 1, none⟩ = some (.int .i64 t.b) ∧ w'.cell? ⟨gv, 2, none⟩ = some (.int .i64 t.c) ∧ w'.cell? ⟨gv, 3, none⟩ = some (.int .i64 t.d) ∧ w'.cell? ⟨gv, 4, none⟩ = some (.int .i64 t.e) ∧ w'.cell? ⟨gv, 5, none⟩ = some (.int .i64 t.f) ∧ w'.cell? ⟨gv, 6, none⟩ = some (.int .i64 t.g)) (first | (go_keep; done) | exact ⟨(cell_alloc_o _ _ gv 0 hgl).trans c0, (cell_alloc_o _ _ gv 1 hgl).trans c1, (cell_alloc_o _ _ gv 2 hgl).trans c2, (cell_alloc_o _ _ gv 3 hgl).trans c3, (cell_alloc_o _ _ gv 4 hgl).trans c4, (cell_alloc_o _ _ gv 5 hgl).trans c5, (cell_alloc_o _ _ gv 6 hgl).trans c6⟩ | exact ⟨(cell_alloc_od _ _ _ gv 0 hgl).trans c0, (cell_alloc_od _ _ _ gv 1 hgl).trans c1, (cell_alloc_od _ _ _ gv 2 hgl).trans c2, (cell_alloc_od _ _ _ gv 3 hgl).trans c3, (cell_alloc_od _ _ _ gv 4 hgl).trans c4, (cell_alloc_od _ _ _ gv 5 hgl).trans c5, (cell_alloc_od _ _ _ gv 6 hgl).trans c6⟩) (fail)
              go_wp2
              go_roundw
              case rel =>
                refine ⟨k + 1, by omega, by go_num, HFX.out.later ((below_drewN (Below.refl _ _) _).alloc (Nat.le_refl _) _), _, rfl, ?_⟩
                rw [HT.out, HR.out]
                exact heap_alloc_last (wr.drewN _) _
              case measure => simp [intOf]; omega
            · have hk64 : k = 64 := by omega
              subst hk64
              have hto : (rds s (wd b) 64).Ok := rds_ok hs _ _
              have HCO : Hid (comp s b = s.plus (rds s (wd b) 64)) := rfl
              generalize rds s (wd b) 64 = t at *
              have hm8 := HM8.out
              have HB0 := hide (fx.out0 t hgv)
              clear fx hgv
              go_wp2
              go_loopw [23] (fun i wq => ∃ k : Nat, k ≤ 8 ∧ i = .int .i64 k ∧ Ou w s t gh gv wr.heap.size k wq) (fun i _ => 8 - (intOf i).toNat)
              case atStart => exact ⟨0, by omega, rfl, HB0.out⟩
              case round =>
                obtain ⟨k, hk8, rfl, hou⟩ := hrel
                clear HB0
                by_cases hlt : k < 8
                · have c1 := hou.h k hlt
                  have c2 := hou.v k hlt
                  have hl := op_len s t k hk8
                  have c3 := hou.cell k (by omega)
                  have f3 := hou.frozen k
                  have HO2 := hide (hou.set hlt)
                  obtain ⟨x0, x1⟩ := getD_w8 hs k
                  obtain ⟨y0, y1⟩ := getD_w8 hto k
                  have hne1 := hou.ne1
                  have hne2 := hou.ne2
                  clear hou hl
                  generalize s.list.getD k 0 = x at *
                  generalize t.list.getD k 0 = y at *
                  have k1 : IntKind.i64.wrap (x + y) = x + y := by rw [IntKind.wrap_i64]; omega
                  have k2 : bits .and .i64 (x + y) 4294967295 = (x + y) % 4294967296 := i64_low ⟨by omega, by omega⟩
                  have qk : (k : Int) < 8 := by omega
                  go_wp2
                  go_region_held3 (fun w' => w'.cell? ⟨gh, k, none⟩ = some (.int .i64 x) ∧ w'.cell? ⟨gv, k, none⟩ = some (.int .i64 y)) (first | (go_keep; done) | exact ⟨(cell_set_blkd _ _ _ _ _ _ hne1).trans c1, (cell_set_blkd _ _ _ _ _ _ hne2).trans c2⟩ | exact ⟨(cell_set_blk _ _ _ _ _ _ hne1).trans c1, (cell_set_blk _ _ _ _ _ _ hne2).trans c2⟩) (fail)
                  go_wp2
                  go_roundw
                  case rel =>
                    (repeat apply Exists.intro)
                    refine And.intro ?_ rfl
                    exact ⟨k + 1, by omega, by go_num, HO2.out.drew⟩
                  case measure => simp [intOf]; omega
                · have hk8e : k = 8 := by omega
                  subst hk8e
                  have HO := hide hou
                  clear hou
                  go_wp2
                  go_ret
                  exact ⟨_, rfl, HO.out.ge, by rw [HCO.out]; exact HO.out.done, HO.out.below⟩
end Go.Proofs.YtfjcajccfnpfbaaDoor
