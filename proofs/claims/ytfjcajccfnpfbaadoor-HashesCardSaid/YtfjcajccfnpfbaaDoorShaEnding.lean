import Derived.Test.YtfjcajccfnpfbaaDoorShaEnd
namespace Go.Proofs.YtfjcajccfnpfbaaDoor
open Go.RowKit
open Sha
structure En (w : World) (L : List UInt8) (wr : World) : Prop where
  own : wr.heap[w.heap.size]? = some (.cells (u8s L).toArray 147)
  below : Below w.heap.size w wr
theorem En.set {w wr : World} {L : List UInt8} (h : En w L wr) (i : Nat) (x : UInt8) : En w (L.set i x) (wr.setCell ⟨w.heap.size, i, none⟩ (.int .u8 (x.toNat : Int))) := by
  refine ⟨?_, h.below.setCell (Nat.le_refl _) _⟩
  rw [heap_setCell_same _ _ _ _ _ _ h.own]
  simp [u8s, List.map_set]
theorem En.frozen {w wr : World} {L : List UInt8} (h : En w L wr) (i : Nat) : wr.frozen? ⟨w.heap.size, i, none⟩ = false := frozen_of_row wr _ i _ 147 h.own
theorem En.cell {w wr : World} {L : List UInt8} (h : En w L wr) (i : Nat) (hi : i < L.length) : wr.cell? ⟨w.heap.size, i, none⟩ = some (.int .u8 ((L.getD i 0).toNat : Int)) := by
  rw [cell_of_row wr _ i _ 147 (0, 0) h.own]
  simp [u8s, List.getElem?_eq_getElem hi]
theorem wpList_copy_str' {P : Program} {w : World} {ops : Array Oper} {rest : List Oper} {o : Oper} {a : Act} {Q : Exit → Act → World → Prop} (hgd : o.guard = none) (d s : Operand) (dT sT : TypeId)
    (ho : o.op = .call { callee := .builtin .copy, args := #[d, s], argTypes := #[dT, sT] }) (elem : TypeId) (hu : P.underlying dT = some (.slice elem)) (hsz : (P.info? elem).map (·.size) = some 1)
    (g dLen dCap : Nat) (str : ByteArray) (hd : a.eval d = .slice (some ⟨g, 0, none⟩) dLen dCap) (hs : a.eval s = .string str)
    (cur : List Value) (t : TypeId) (hg : w.heap[g]? = some (.cells cur.toArray t (0, 0))) (hn : str.size ≤ dLen) (hfit : str.size ≤ cur.length)
    (h : ∀ w', Hid (w' = w.setRow g (u8s str.data.toList ++ cur.drop str.size).toArray) → wpList P ops Q rest (a.put o.dst (goInt str.size)) w') : wpList P ops Q (o :: rest) a w :=
  wpList_copy_str hgd d s dT sT ho elem hu hsz g dLen dCap str hd hs cur t hg hn hfit (h _ rfl)
def Z128 : List UInt8 := List.replicate 128 0
theorem zero98 : Tryd.zeroCells147 = (u8s Z128).toArray := by kernel_rfl
theorem En.zero (w : World) : En w Z128 (w.alloc (.cells Tryd.zeroCells147 147)) :=
  ⟨by rw [zero98]; exact heap_alloc_last w _, (Below.refl _ _).alloc (Nat.le_refl _) _⟩
theorem En.copy {w wr : World} (h : En w Z128 wr) (r : ByteArray) (_hr : r.size < 64) : En w (r.data.toList ++ List.replicate (128 - r.size) 0) (wr.setRow w.heap.size (u8s r.data.toList ++ (u8s Z128).drop r.size).toArray) := by
  refine ⟨?_, below_setRow h.below (Nat.le_refl _) _⟩
  rw [setRow_heap _ _ _ _ _ _ h.own]
  have : u8s r.data.toList ++ (u8s Z128).drop r.size = u8s (r.data.toList ++ List.replicate (128 - r.size) 0) := by
    simp [u8s, Z128, -List.reduceReplicate]
  rw [this]
theorem ebase_set (r : List UInt8) (h : r.length < 64) : (r ++ List.replicate (128 - r.length) 0).set r.length 128 = ebase r := by
  rw [List.set_append_right _ _ (Nat.le_refl _), Nat.sub_self, show 128 - r.length = (127 - r.length) + 1 by omega, List.replicate_succ]
  rfl
theorem En.copied {w W1 : World} {r : ByteArray} (h : Hid (W1 = (w.alloc (Obj.cells Tryd.zeroCells147 147)).setRow w.heap.size (u8s r.data.toList ++ (u8s Z128).drop r.size).toArray)) (hr : r.size < 64) :
    Hid (En w (r.data.toList ++ List.replicate (128 - r.size) 0) W1) ∧ W1.cell? ⟨w.heap.size, r.size, none⟩ = some (.int .u8 (((r.data.toList ++ List.replicate (128 - r.size) 0).getD r.size 0).toNat : Int)) ∧ W1.frozen? ⟨w.heap.size, r.size, none⟩ = false := by
  have e1 : En w (r.data.toList ++ List.replicate (128 - r.size) 0) W1 := by rw [h.out]; exact (En.zero w).copy r hr
  have hrl : r.data.toList.length = r.size := by simp
  exact ⟨e1, e1.cell r.size (by simp; omega), e1.frozen r.size⟩
theorem En.based {w W1 : World} {r : ByteArray} (h : Hid (En w (r.data.toList ++ List.replicate (128 - r.size) 0) W1)) (hr : r.size < 64) : En w (ebase r.data.toList) (W1.setCell ⟨w.heap.size, r.size, none⟩ (.int .u8 128)) := by
  have hrl : r.data.toList.length = r.size := by simp
  have h2 := h.out.set r.size 128
  have hset : (r.data.toList ++ List.replicate (128 - r.size) 0).set r.size 128 = ebase r.data.toList := by
    have := ebase_set r.data.toList (by omega)
    rw [hrl] at this; exact this
  rw [hset] at h2; exact h2
theorem under37 : Tryd.prog.underlying 56 = some (.slice 5) := by kernel_rfl
theorem info5 : (Tryd.prog.info? 5).map (·.size) = some 1 := by kernel_rfl
theorem under5 : Tryd.prog.underlying 5 = some (.int .u8) := by kernel_rfl
theorem under9 : Tryd.prog.underlying 9 = some .string := by kernel_rfl
theorem byte_val (n i : Nat) : ((UInt8.ofNat (8 * n / 2 ^ (8 * i))).toNat : Int) = (n : Int) * 8 / 2 ^ (8 * i) % 256 := by
  rw [Nat.mul_comm 8 n]; simp
/-- a row of bytes as a text -/
theorem push_fold (l : List UInt8) : ∀ b : ByteArray, (l.map fun x => (x.toNat : Int)).foldl (fun r n => r.push (UInt8.ofNat n.toNat)) b = ⟨(b.data.toList ++ l).toArray⟩ := by
  induction l with
  | nil => intro b; simp
  | cons x l ih =>
    intro b
    simp only [List.map_cons, List.foldl_cons]
    rw [ih]
    simp
theorem run_row_string (w : World) (g n cap : Nat) (L : List UInt8) (t : TypeId) (fr : Nat × Nat) (hg : w.heap[g]? = some (.cells (u8s L).toArray t fr)) (hn : n ≤ L.length) :
    (convert 56 9 (.slice (some ⟨g, 0, none⟩) n cap)).run Tryd.prog w = .ok (.string ⟨(L.take n).toArray⟩) w := by
  rw [run_convert_bytes_string w 56 9 5 _ n cap under37 under5 under9]
  have hl : (loadCells ⟨g, 0, none⟩ n).run Tryd.prog w = .ok (((L.take n).map fun x => (x.toNat : Int)).map (Value.int .u8)).toArray w := by
    have hlen : (((L.take n).map fun x => (x.toNat : Int)).map (Value.int .u8)).length = n := by simp; omega
    have := run_loadCells_list (P := Tryd.prog) w ⟨g, 0, none⟩ (((L.take n).map fun x => (x.toNat : Int)).map (Value.int .u8)) (fun j v hv => by
      have hadd : (⟨g, 0, none⟩ : Addr).add j = ⟨g, j, none⟩ := by unfold Addr.add; split <;> simp_all
      rw [hadd, cell_of_row w g j _ t fr hg]
      have hj : j < n := by
        have := (List.getElem?_eq_some_iff.1 hv).1
        omega
      rw [List.getElem?_map, List.getElem?_map, List.getElem?_take, if_pos hj] at hv
      simp only [u8s, List.getElem?_toArray, List.getElem?_map]
      rw [← hv]; simp; rfl)
    rw [hlen] at this
    exact this
  rw [run_bytesToString w _ n cap _ hl, push_fold]
  simp

set_option maxRecDepth 100000 in
set_option maxHeartbeats 1000000 in
theorem ending_64 (r : ByteArray) (n : Nat) (hr : r.size = n % 64) (hn : n < 72057594037927936) (w : World) (hbig : r.size + 9 ≤ 64) :
    Calls Tryd.prog 59 #[.string r, .int .i64 n] w fun e w' => e = .returned (.string ⟨(r.data.toList ++ 128 :: (List.replicate (zeros n) 0 ++ lenb n)).toArray⟩) ∧ Below w.heap.size w w' := by
  have h64 : r.size < 64 := by omega
  have hb1 : (r.size : Int) + 1 + 8 ≤ 64 := by omega
  have hdone : (eat r.data.toList n 64 8).take 64 = r.data.toList ++ 128 :: (List.replicate (zeros n) 0 ++ lenb n) := eat_done r.data.toList n 64 (by simpa using hr) (by rw [← hr]; split <;> omega)
  have HD := hide hdone
  have HR := hide hr
  have hrl : r.data.toList.length = r.size := by simp
  have HRL := hide hrl
  clear hr hdone hrl
  have h128 : (r.size : Int) < 128 := by omega
  go_enter Tryd.func59, Tryd.ntmps59
  go_wp2_with (refine wpList_copy_str' rfl (.tmp 14) (.tmp 15) 56 9 rfl 5 under37 info5 w.heap.size 128 128 r rfl rfl (u8s Z128) 147 (En.zero w).own (by omega) (by simp [u8s, Z128, -List.reduceReplicate]; omega) ?_; intro W1 hW1; obtain ⟨E1, c1, f1⟩ := En.copied hW1 h64)
  have E2 := hide (En.based E1 h64)
  clear c1 f1 hW1
  have hrl : r.data.toList.length < 64 := by have := HRL.out; omega
  go_loopw [23] (fun i wr => ∃ k : Nat, k ≤ 8 ∧ i = .int .i64 k ∧ En w (eat r.data.toList n 64 k) wr) (fun i _ => 8 - (intOf i).toNat)
  case atStart => exact ⟨0, by omega, rfl, by rw [eat_zero]; exact E2.out⟩
  case round =>
    obtain ⟨k, hk, rfl, hen⟩ := hrel
    clear E2 E1
    by_cases hlt : k < 8
    · have hl := eat_len r.data.toList n 64 k hrl (by omega) (by omega) hk
      have c1 := hen.cell (64 - 1 - k) (by omega)
      have f1 := hen.frozen (64 - 1 - k)
      have HE := hide hen
      have HS := hide (eat_step r.data.toList n 64 k hrl (by omega) (by omega) hlt)
      have HV := hide (byte_val n k)
      have ek : ((64 : Int) - 1 - (k : Int)).toNat = 64 - 1 - k := by omega
      have p1 : (0 : Int) ≤ (64 : Int) - 1 - (k : Int) := by omega
      have p2 : (64 : Int) - 1 - (k : Int) < 128 := by omega
      clear hen hl
      go_wp2
      go_roundw
      case rel =>
        refine ⟨k + 1, by omega, by go_num, ?_⟩
        rw [← HS.out, ← HV.out]
        exact HE.out.set _ _
      case measure => simp [intOf]; omega
    · have hk8 : k = 8 := by omega
      subst hk8
      have hl := eat_len r.data.toList n 64 8 hrl (by omega) (by omega) hk
      have hcv := run_row_string wr w.heap.size 64 128 (eat r.data.toList n 64 8) 147 (0, 0) hen.own (by omega)
      have HB := hide hen.below
      rw [HD.out] at hcv
      generalize hR : r.data.toList ++ 128 :: (List.replicate (zeros n) 0 ++ lenb n) = R at *
      have HRR := hide hR
      clear hen hl hR
      go_wp2
      go_ret
      exact ⟨by rw [HRR.out]; rfl, HB.out⟩

set_option maxRecDepth 100000 in
set_option maxHeartbeats 1000000 in
theorem ending_128 (r : ByteArray) (n : Nat) (hr : r.size = n % 64) (hn : n < 72057594037927936) (w : World) (hbig : ¬ r.size + 9 ≤ 64) :
    Calls Tryd.prog 59 #[.string r, .int .i64 n] w fun e w' => e = .returned (.string ⟨(r.data.toList ++ 128 :: (List.replicate (zeros n) 0 ++ lenb n)).toArray⟩) ∧ Below w.heap.size w w' := by
  have h64 : r.size < 64 := by omega
  have hb1 : (64 : Int) < (r.size : Int) + 1 + 8 := by omega
  have hdone : (eat r.data.toList n 128 8).take 128 = r.data.toList ++ 128 :: (List.replicate (zeros n) 0 ++ lenb n) := eat_done r.data.toList n 128 (by simpa using hr) (by rw [← hr]; split <;> omega)
  have HD := hide hdone
  have HR := hide hr
  have hrl : r.data.toList.length = r.size := by simp
  have HRL := hide hrl
  clear hr hdone hrl
  have h128 : (r.size : Int) < 128 := by omega
  go_enter Tryd.func59, Tryd.ntmps59
  go_wp2_with (refine wpList_copy_str' rfl (.tmp 14) (.tmp 15) 56 9 rfl 5 under37 info5 w.heap.size 128 128 r rfl rfl (u8s Z128) 147 (En.zero w).own (by omega) (by simp [u8s, Z128, -List.reduceReplicate]; omega) ?_; intro W1 hW1; obtain ⟨E1, c1, f1⟩ := En.copied hW1 h64)
  have E2 := hide (En.based E1 h64)
  clear c1 f1 hW1
  have hrl : r.data.toList.length < 64 := by have := HRL.out; omega
  go_loopw [23] (fun i wr => ∃ k : Nat, k ≤ 8 ∧ i = .int .i64 k ∧ En w (eat r.data.toList n 128 k) wr) (fun i _ => 8 - (intOf i).toNat)
  case atStart => exact ⟨0, by omega, rfl, by rw [eat_zero]; exact E2.out⟩
  case round =>
    obtain ⟨k, hk, rfl, hen⟩ := hrel
    clear E2 E1
    by_cases hlt : k < 8
    · have hl := eat_len r.data.toList n 128 k hrl (by omega) (by omega) hk
      have c1 := hen.cell (128 - 1 - k) (by omega)
      have f1 := hen.frozen (128 - 1 - k)
      have HE := hide hen
      have HS := hide (eat_step r.data.toList n 128 k hrl (by omega) (by omega) hlt)
      have HV := hide (byte_val n k)
      have ek : ((128 : Int) - 1 - (k : Int)).toNat = 128 - 1 - k := by omega
      have p1 : (0 : Int) ≤ (128 : Int) - 1 - (k : Int) := by omega
      have p2 : (128 : Int) - 1 - (k : Int) < 128 := by omega
      clear hen hl
      go_wp2
      go_roundw
      case rel =>
        refine ⟨k + 1, by omega, by go_num, ?_⟩
        rw [← HS.out, ← HV.out]
        exact HE.out.set _ _
      case measure => simp [intOf]; omega
    · have hk8 : k = 8 := by omega
      subst hk8
      have hl := eat_len r.data.toList n 128 8 hrl (by omega) (by omega) hk
      have hcv := run_row_string wr w.heap.size 128 128 (eat r.data.toList n 128 8) 147 (0, 0) hen.own (by omega)
      have HB := hide hen.below
      rw [HD.out] at hcv
      generalize hR : r.data.toList ++ 128 :: (List.replicate (zeros n) 0 ++ lenb n) = R at *
      have HRR := hide hR
      clear hen hl hR
      go_wp2
      go_ret
      exact ⟨by rw [HRR.out]; rfl, HB.out⟩
theorem ending_any (r : ByteArray) (n : Nat) (hr : r.size = n % 64) (hn : n < 72057594037927936) (w : World) :
    Calls Tryd.prog 59 #[.string r, .int .i64 n] w fun e w' => e = .returned (.string ⟨(r.data.toList ++ 128 :: (List.replicate (zeros n) 0 ++ lenb n)).toArray⟩) ∧ Below w.heap.size w w' := by
  by_cases hbig : r.size + 9 ≤ 64
  · exact ending_64 r n hr hn w hbig
  · exact ending_128 r n hr hn w hbig
end Go.Proofs.YtfjcajccfnpfbaaDoor
