import Derived.Test.YtfjcajccfnpfbaaDoorShaHash
import Derived.ArgAppend
import Derived.Lib.ConvBytes
import Derived.Laws.CopyOwn
namespace Go.Proofs.YtfjcajccfnpfbaaDoor
open Go.RowKit
open Sha
/-- v is a slice of the bytes L, in a row of the call's own (made since w0), whose spare room may be written; nothing of w0 has turned. -/
structure BR (w0 : World) (v : Value) (L : List UInt8) (wr : World) : Prop where
  form : (v = .slice none 0 0 ∧ L = []) ∨ ∃ g cap, v = .slice (some ⟨g, 0, none⟩) L.length cap ∧ w0.heap.size ≤ g ∧ L.length ≤ cap ∧
    (∀ j u, (u8s L)[j]? = some u → wr.cell? ⟨g, j, none⟩ = some u) ∧ (∀ j, j < cap → (wr.cell? ⟨g, j, none⟩).isSome = true ∧ wr.frozen? ⟨g, j, none⟩ = false)
  below : Below w0.heap.size w0 wr
theorem BR.nil (w0 wr : World) (h : Below w0.heap.size w0 wr) : BR w0 (.slice none 0 0) [] wr := ⟨.inl ⟨rfl, rfl⟩, h⟩
theorem u8s_len (L : List UInt8) : (u8s L).length = L.length := by simp [u8s]
theorem u8s_append (L M : List UInt8) : u8s (L ++ M) = u8s L ++ u8s M := by simp [u8s]
theorem u8s_mem (L : List UInt8) : ∀ u ∈ u8s L, u.oneCell' = true := fun v hv => by
  simp only [u8s, List.mem_map] at hv; obtain ⟨x, _, rfl⟩ := hv; rfl
theorem BR.later {w0 w w1 : World} {v : Value} {L : List UInt8} (h : BR w0 v L w) (hb : Below w.heap.size w w1) : BR w0 v L w1 := by
  refine ⟨?_, h.below.trans (hb.mono h.below.size)⟩
  rcases h.form with h' | ⟨g, cap, h1, h2, h3, h4, h5⟩
  · exact .inl h'
  · refine .inr ⟨g, cap, h1, h2, h3, fun j u hu => ?_, fun j hj => ?_⟩
    · have hc := h4 j u hu
      rw [hb.cell (p := ⟨g, j, none⟩) (World.block_lt_of_cell? w _ hc)]; exact hc
    · obtain ⟨a, ha⟩ := Option.isSome_iff_exists.1 (h5 j hj).1
      have hlt := World.block_lt_of_cell? w _ ha
      rw [hb.cell (p := ⟨g, j, none⟩) hlt, hb.frozen (p := ⟨g, j, none⟩) hlt]
      exact h5 j hj
theorem BR.alloc {w0 w : World} {v : Value} {L : List UInt8} (h : BR w0 v L w) (o : Obj) : BR w0 v L (w.alloc o) := h.later ((Below.refl _ _).alloc (Nat.le_refl _) o)
theorem BR.drewN {w0 w : World} {v : Value} {L : List UInt8} (h : BR w0 v L w) (n : Nat) : BR w0 v L (w.drewN n) := h.later (below_drewN (Below.refl _ _) n)
theorem below_setCells {B : Nat} {a : World} {g : Nat} (hg : B ≤ g) : ∀ (vs : List Value) (o : Nat) (w : World), Below B a w → Below B a (w.setCells g o vs)
  | [], _, _, h => h
  | v :: r, o, _, h => below_setCells hg r (o + 1) _ (h.setCell (p := ⟨g, o, none⟩) hg v)
theorem br_owns {w0 w w' : World} {v : Value} {L : List UInt8} (hb : Below w0.heap.size w0 w) (ho : w'.ownsRow w.heap.size 5 1 v L.length (u8s L)) (hg : w.grownBy w' none) : BR w0 v L w' := by
  refine ⟨?_, hb.grown hg hb.size (fun k hk => by cases hk)⟩
  rcases ho.2 with ⟨h1, h2⟩ | ⟨g, cap, cur, h1, h2, h3, h4, _, h6, h7⟩
  · exact .inl ⟨h1, List.eq_nil_of_length_eq_zero h2⟩
  · refine .inr ⟨g, cap, h1, Nat.le_trans hb.size h2, h4, fun j u hu => ?_, fun j hj => ?_⟩
    · rw [cell_of_row w' g j cur 5 (0, 0) h3]
      rw [← h7, List.getElem?_take] at hu
      split at hu
      · simpa using hu
      · cases hu
    · refine ⟨?_, frozen_of_row w' g j cur 5 h3⟩
      rw [cell_of_row w' g j cur 5 (0, 0) h3, Array.getElem?_eq_getElem (by omega)]; rfl
theorem info5' : ∃ i : TypeInfo, Tryd.prog.info? 5 = some i ∧ i.zero = some (.int .u8 0) ∧ i.size = 1 ∧ i.bytes = 1 := by
  have h : (Tryd.prog.info? 5).map (fun i => (i.zero, i.size, i.bytes)) = some (some (.int .u8 0), 1, 1) := by kernel_rfl
  cases hq : Tryd.prog.info? 5 with
  | none => simp [hq] at h
  | some i => simp [hq] at h; exact ⟨i, rfl, h.1, h.2.1, h.2.2⟩
theorem run_append_bytes (w0 w : World) (ty : TypeId) (v : Value) (L : List UInt8) (h : BR w0 v L w) (ad : Addr) (c : Nat) (N : List UInt8)
    (hnews : ∀ j u, (u8s N)[j]? = some u → w.cell? (ad.add j) = some u) (hlen : L.length + N.length ≤ 140737488355328) :
    ∃ v' w', (Builtin.append_ #[56, 56] ty #[v, .slice (some ad) N.length c]).run Tryd.prog w = .ok v' w' ∧ BR w0 v' (L ++ N) w' := by
  obtain ⟨i, hi, hz, hsz, hby⟩ := info5'
  have hml : L.length + N.length ≤ maxLen := by unfold maxLen; omega
  have hn1 : (u8s N).length = N.length * 1 := by rw [u8s_len]; omega
  have hl1 : (u8s L).length = L.length * 1 := by rw [u8s_len]; omega
  rcases h.form with ⟨rfl, rfl⟩ | ⟨g, cap, rfl, hg, hcap, hcell, hsp⟩
  · obtain ⟨v', w', hr, h2, h3, _⟩ := run_append_own (P := Tryd.prog) w w.heap.size 56 ty 5 i (.int .u8 0) 1 1 under37 hi hz hsz hby rfl (by omega) (.slice none 0 0) 0 [] (World.ownsRow_nil w _ 5 1) ad N.length c (u8s N) hn1 hnews (u8s_mem N) (by simpa using hml) (by simp at hlen ⊢; omega) (Nat.le_refl _)
    refine ⟨v', w', hr, ?_⟩
    simp only [List.nil_append, Nat.zero_add] at h2 ⊢
    exact br_owns h.below h2 h3
  · by_cases hroom : L.length + N.length ≤ cap
    · have hr := run_append_room_cells (P := Tryd.prog) w 56 ty 5 i under37 hi g 0 L.length cap ad N.length c (u8s N) (by rw [hsz]; exact hn1) hnews (u8s_mem N) hroom
        (fun j hj => by rw [u8s_len] at hj; rw [hsz]; simpa using (hsp (L.length + j) (by omega)).1) (fun j hj => by rw [u8s_len] at hj; rw [hsz]; simpa using (hsp (L.length + j) (by omega)).2)
      rw [hsz] at hr
      simp only [Nat.mul_one, Nat.zero_add] at hr
      refine ⟨_, _, hr, ⟨.inr ⟨g, cap, by rw [List.length_append], hg, by rw [List.length_append]; exact hroom, fun j u hu => ?_, fun j hj => ?_⟩, below_setCells hg _ _ _ h.below⟩⟩
      · rw [u8s_append] at hu
        by_cases hj : j < L.length
        · rw [List.getElem?_append_left (by rw [u8s_len]; exact hj)] at hu
          rw [World.cell?_setCells_out g (u8s N) L.length w ⟨g, j, none⟩ (fun _ _ => .inl hj)]
          exact hcell j u hu
        · rw [List.getElem?_append_right (by rw [u8s_len]; omega), u8s_len] at hu
          have hjn : j - L.length < (u8s N).length := (List.getElem?_eq_some_iff.1 hu).1
          have := World.cell?_setCells_in g (u8s N) L.length w (fun q hq => by rw [u8s_len] at hq; exact (hsp (L.length + q) (by omega)).1) (j - L.length) hjn
          rw [show L.length + (j - L.length) = j by omega] at this
          rw [this, ← hu, List.getElem?_eq_getElem hjn]
      · refine ⟨?_, by rw [World.frozen?_setCells]; exact (hsp j hj).2⟩
        by_cases hin : L.length ≤ j ∧ j < L.length + N.length
        · have hjn : j - L.length < (u8s N).length := by rw [u8s_len]; omega
          have := World.cell?_setCells_in g (u8s N) L.length w (fun q hq => by rw [u8s_len] at hq; exact (hsp (L.length + q) (by omega)).1) (j - L.length) hjn
          rw [show L.length + (j - L.length) = j by omega] at this
          rw [this]; rfl
        · rw [World.cell?_setCells_out g (u8s N) L.length w ⟨g, j, none⟩ (fun _ _ => by rw [u8s_len]; simp only; omega)]
          exact (hsp j hj).1
    · obtain ⟨v', w', hr, h2, h3⟩ := run_append_arg_grows (P := Tryd.prog) w 56 ty 5 i (.int .u8 0) 1 1 under37 hi hz hsz hby rfl (by omega) ⟨g, 0, none⟩ L.length cap (u8s L) hl1
        (fun j u hu => by
          have hadd : (⟨g, 0, none⟩ : Addr).add j = ⟨g, j, none⟩ := by unfold Addr.add; split <;> simp_all
          rw [hadd]; exact hcell j u hu) ad N.length c (u8s N) hn1 hnews (by omega) hml (by simpa using hlen)
      refine ⟨v', w', hr, br_owns h.below ?_ h3⟩
      rw [List.length_append, u8s_append]; exact h2
theorem wp_append_bytes {w0 w : World} {o : Oper} {a : Act} {K : Act → World → Prop} {Q : Exit → Act → World → Prop} (s x : Operand)
    (ho : o.op = .call { callee := .builtin .append, args := #[s, x], argTypes := #[56, 56] })
    (v : Value) (L : List UInt8) (hs : a.eval s = v) (h : BR w0 v L w) (ad : Addr) (m c : Nat) (N : List UInt8) (hm : m = N.length) (hx : a.eval x = .slice (some ad) m c)
    (hnews : ∀ j u, (u8s N)[j]? = some u → w.cell? (ad.add j) = some u) (hlen : L.length + N.length ≤ 140737488355328)
    (hK : ∀ v' w', Hid (BR w0 v' (L ++ N) w') → K (a.put o.dst v') w') : o.wp Tryd.prog a w K Q := by
  obtain ⟨v', w', hr, h2⟩ := run_append_bytes w0 w o.type v L h ad c N hnews hlen
  unfold Oper.wp execOp
  subst hm
  simp only [ho, resolve, invoke, builtin, Sem.run_bind, Sem.run_pure, Result.andThen_ok, List.map_toArray, List.map_cons, List.map_nil, hs, hx, hr]
  exact hK v' w' h2
theorem wpList_append_bytes {w0 w : World} {ops : Array Oper} {rest : List Oper} {o : Oper} {a : Act} {Q : Exit → Act → World → Prop} (hgd : o.guard = none) (s x : Operand)
    (ho : o.op = .call { callee := .builtin .append, args := #[s, x], argTypes := #[56, 56] })
    (v : Value) (L : List UInt8) (hs : a.eval s = v) (h : BR w0 v L w) (ad : Addr) (m c : Nat) (N : List UInt8) (hm : m = N.length) (hx : a.eval x = .slice (some ad) m c)
    (hnews : ∀ j u, (u8s N)[j]? = some u → w.cell? (ad.add j) = some u) (hlen : L.length + N.length ≤ 140737488355328)
    (hK : ∀ v' w', Hid (BR w0 v' (L ++ N) w') → wpList Tryd.prog ops Q rest (a.put o.dst v') w') : wpList Tryd.prog ops Q (o :: rest) a w :=
  wpList_plain hgd fun _ hK' => wp_append_bytes s x ho v L hs h ad m c N hm hx hnews hlen fun v' w' h2 => hK' _ _ (hK v' w' h2)
theorem step_append_bytes {w0 w : World} {ops : Array Oper} {o : Oper} {a : Act} {K : Act → World → Prop} {Q : Exit → Act → World → Prop} {E : Prop} (hgd : o.guard = none) (s x : Operand)
    (ho : o.op = .call { callee := .builtin .append, args := #[s, x], argTypes := #[56, 56] })
    (v : Value) (L : List UInt8) (hs : a.eval s = v) (h : BR w0 v L w) (ad : Addr) (m c : Nat) (N : List UInt8) (hm : m = N.length) (hx : a.eval x = .slice (some ad) m c)
    (hnews : ∀ j u, (u8s N)[j]? = some u → w.cell? (ad.add j) = some u) (hlen : L.length + N.length ≤ 140737488355328)
    (hK : ∀ v' w', Hid (BR w0 v' (L ++ N) w') → K (a.put o.dst v') w') :
    if Region.wanted o (yielded ops a.tmps) = true then Oper.wp Tryd.prog o a w K Q else E := by
  have hw : Region.wanted o (yielded ops a.tmps) = true := by simp [Region.wanted, hgd]
  rw [if_pos hw]
  exact wp_append_bytes s x ho v L hs h ad m c N hm hx hnews hlen hK
/-- the cells of a block that was laid last -/
theorem news_last (w : World) (N : List UInt8) (t : TypeId) : ∀ j u, (u8s N)[j]? = some u → (w.alloc (.cells (u8s N).toArray t)).cell? ((⟨w.heap.size, 0, none⟩ : Addr).add j) = some u := fun j u hu => by
  have hadd : (⟨w.heap.size, 0, none⟩ : Addr).add j = ⟨w.heap.size, j, none⟩ := by unfold Addr.add; split <;> simp_all
  rw [hadd, cell_of_row _ _ j _ t (0, 0) (heap_alloc_last w _)]
  simpa using hu
/-- a text's bytes, converted -/
theorem BR.conv (w : World) (s : ByteArray) : BR w (.slice (some ⟨w.heap.size, 0, none⟩) s.size (grownCap w s.size 0 5)) s.data.toList (Lib.bytesWorld w 5 s) := by
  have hl : s.data.toList.length = s.size := by simp
  have hge := grownCap_ge w s.size 0 5
  have hsz : (Lib.bytesCells w 5 s).size = grownCap w s.size 0 5 := by
    simp [Lib.bytesCells]; omega
  refine ⟨.inr ⟨w.heap.size, _, by rw [hl], Nat.le_refl _, by rw [hl]; exact hge, fun j u hu => ?_, fun j hj => ?_⟩, ?_⟩
  · have hj : j < s.size := by
      have := (List.getElem?_eq_some_iff.1 hu).1
      rw [u8s_len, hl] at this; exact this
    rw [Lib.bytesWorld_cell w 5 s j hj, ← hu]
    simp [u8s, List.getElem?_eq_getElem (show j < s.data.toList.length by rw [hl]; exact hj)]
  · have hat := Lib.bytesWorld_at_new w 5 s
    refine ⟨?_, ?_⟩
    · rw [cell_of_row _ _ j _ 5 _ hat, Array.getElem?_eq_getElem (by omega)]; rfl
    · simp only [World.frozen?, hat]
      simp; omega
  · refine ⟨rfl, rfl, rfl, ?_, fun k hk => Lib.bytesWorld_at_old w 5 s k hk⟩
    rw [Lib.bytesWorld_size]; omega
end Go.Proofs.YtfjcajccfnpfbaaDoor
