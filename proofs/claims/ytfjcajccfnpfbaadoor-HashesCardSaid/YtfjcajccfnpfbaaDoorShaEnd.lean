import Derived.Test.YtfjcajccfnpfbaaDoorShaText
import Derived.Test.YtfjcajccfnpfbaaDoorShaMem
namespace Go.Proofs.YtfjcajccfnpfbaaDoor
open Go.RowKit
open Sha

/-! plain lists -/
theorem lenb_get (n i : Nat) (hi : i < 8) : (lenb n)[7 - i]? = some (UInt8.ofNat (8 * n / 2 ^ (8 * i))) := by
  match i, hi with
  | 0, _ => simp [lenb]
  | 1, _ => rfl
  | 2, _ => rfl
  | 3, _ => rfl
  | 4, _ => rfl
  | 5, _ => rfl
  | 6, _ => rfl
  | 7, _ => rfl
theorem lenb_len (n : Nat) : (lenb n).length = 8 := rfl
def ebase (r : List UInt8) : List UInt8 := r ++ 128 :: List.replicate (127 - r.length) 0
theorem ebase_len (r : List UInt8) (h : r.length < 64) : (ebase r).length = 128 := by simp [ebase, -List.reduceReplicate]; omega
def eat (r : List UInt8) (n size i : Nat) : List UInt8 := (ebase r).take (size - i) ++ ((lenb n).drop (8 - i) ++ (ebase r).drop size)
theorem eat_zero (r : List UInt8) (n size : Nat) : eat r n size 0 = ebase r := by
  unfold eat
  rw [List.drop_of_length_le (by rw [lenb_len]; omega), List.nil_append, Nat.sub_zero, List.take_append_drop]
theorem eat_step (r : List UInt8) (n size i : Nat) (h : r.length < 64) (hs : size ≤ 128) (hs2 : 64 ≤ size) (hi : i < 8) :
    (eat r n size i).set (size - 1 - i) (UInt8.ofNat (8 * n / 2 ^ (8 * i))) = eat r n size (i + 1) := by
  have hb := ebase_len r h
  have hg := lenb_get n i hi
  unfold eat
  have hlt : (ebase r).length = 128 := hb
  generalize ebase r = E at *
  have e1 : E.take (size - i) = E.take (size - (i + 1)) ++ (E[size - 1 - i]?).toList := by
    have : size - i = (size - 1 - i) + 1 := by omega
    rw [this, List.take_add_one, show size - (i + 1) = size - 1 - i by omega]
  have e2 : (lenb n).drop (8 - (i + 1)) = UInt8.ofNat (8 * n / 2 ^ (8 * i)) :: (lenb n).drop (8 - i) := by
    have h7 : 7 - i < (lenb n).length := by rw [lenb_len]; omega
    rw [show 8 - (i + 1) = 7 - i by omega, List.drop_eq_getElem_cons h7, show 7 - i + 1 = 8 - i by omega]
    rw [List.getElem?_eq_getElem h7] at hg
    rw [Option.some.inj hg]
  have e3 : E[size - 1 - i]? = some E[size - 1 - i] := List.getElem?_eq_getElem (by omega)
  have hl : (E.take (size - (i + 1))).length = size - 1 - i := by rw [List.length_take]; omega
  rw [e1, e2, e3, List.append_assoc, List.set_append_right _ _ (by omega), hl]
  simp
theorem eat_len (r : List UInt8) (n size i : Nat) (h : r.length < 64) (hs : size ≤ 128) (hs2 : 64 ≤ size) (hi : i ≤ 8) : (eat r n size i).length = 128 := by
  simp [eat, ebase_len r h, lenb_len]; omega
theorem eat_done (r : List UInt8) (n size : Nat) (hr : r.length = n % 64) (hsz : size = if n % 64 + 9 ≤ 64 then 64 else 128) :
    (eat r n size 8).take size = r ++ 128 :: (List.replicate (zeros n) 0 ++ lenb n) := by
  have h64 : r.length < 64 := by omega
  have hb := ebase_len r h64
  have h128 : 64 ≤ size ∧ size ≤ 128 ∧ zeros n = size - 9 - r.length ∧ r.length + 9 ≤ size := by
    unfold zeros; split at hsz <;> omega
  obtain ⟨a1, a2, a3, a4⟩ := h128
  unfold eat
  rw [← List.append_assoc, List.take_append_of_le_length (by simp [hb, lenb_len]; omega), List.take_of_length_le (by simp [hb, lenb_len]; omega)]
  have e : (ebase r).take (size - 8) = r ++ 128 :: List.replicate (zeros n) 0 := by
    unfold ebase
    rw [List.take_append, List.take_of_length_le (by omega)]
    have : size - 8 - r.length = (size - 9 - r.length) + 1 := by omega
    rw [this, List.take_succ_cons, List.take_replicate, a3]
    congr 3
    omega
  rw [e, List.append_assoc]
  simp [-List.reduceReplicate]

/-! copy(dst, text) -/
theorem run_copy_str {P : Program} (w : World) (dT sT ty elem : TypeId) (g dLen dCap : Nat) (s : ByteArray) (cur : List Value) (t : TypeId)
    (hu : P.underlying dT = some (.slice elem)) (hs : (P.info? elem).map (·.size) = some 1)
    (hg : w.heap[g]? = some (.cells cur.toArray t (0, 0))) (hn : s.size ≤ dLen) (hfit : s.size ≤ cur.length) :
    (Builtin.copy_ #[dT, sT] ty #[.slice (some ⟨g, 0, none⟩) dLen dCap, .string s]).run P w =
      .ok (goInt s.size) (w.setRow g (u8s s.data.toList ++ cur.drop s.size).toArray) := by
  have hm : Nat.min s.size dLen = s.size := Nat.min_eq_left hn
  have hx : ((s.extract 0 s.size).data.map fun b => Value.int .u8 (b.toNat : Int)) = (u8s s.data.toList).toArray := by
    rw [ByteArray.data_extract]
    apply Array.ext'
    have : s.data.toList.length = s.size := by simp
    simp [u8s]
    exact List.take_of_length_le (by simp)
  have hl : (u8s s.data.toList).length = s.size := by simp [u8s]
  have hst := run_storeCells_at P g 0 t (u8s s.data.toList) 0 cur.toArray w hg (by simp [hl]; omega) (fun v hv => by
    simp only [u8s, List.mem_map] at hv; obtain ⟨x, _, rfl⟩ := hv; rfl)
  cases hq : P.info? elem with
  | none => simp [hq] at hs
  | some i =>
    have hi : i.size = 1 := by simpa [hq] using hs
    simp only [Nat.zero_add, List.take_zero, List.nil_append, hl] at hst
    simp only [Builtin.copy_, List.getElem?_toArray, List.getElem?_cons_zero, List.getElem?_cons_succ, Sem.run_bind, run_underlying hu, Result.andThen_ok, Builtin.lenOf, Sem.run_pure, hm, Builtin.firstCells, sizeOf, typeInfo, hx]
    simp [hst, hq, hi]
theorem wpList_copy_str {P : Program} {w : World} {ops : Array Oper} {rest : List Oper} {o : Oper} {a : Act} {Q : Exit → Act → World → Prop} (hgd : o.guard = none) (d s : Operand) (dT sT : TypeId)
    (ho : o.op = .call { callee := .builtin .copy, args := #[d, s], argTypes := #[dT, sT] }) (elem : TypeId) (hu : P.underlying dT = some (.slice elem)) (hsz : (P.info? elem).map (·.size) = some 1)
    (g dLen dCap : Nat) (str : ByteArray) (hd : a.eval d = .slice (some ⟨g, 0, none⟩) dLen dCap) (hs : a.eval s = .string str)
    (cur : List Value) (t : TypeId) (hg : w.heap[g]? = some (.cells cur.toArray t (0, 0))) (hn : str.size ≤ dLen) (hfit : str.size ≤ cur.length)
    (h : wpList P ops Q rest (a.put o.dst (goInt str.size)) (w.setRow g (u8s str.data.toList ++ cur.drop str.size).toArray)) : wpList P ops Q (o :: rest) a w := by
  refine wpList_plain hgd fun K hK => ?_
  have hrun := run_copy_str (P := P) w dT sT o.type elem g dLen dCap str cur t hu hsz hg hn hfit
  unfold Oper.wp
  simp [execOp, ho, resolve, invoke, builtin, hd, hs, hrun, Result.andThen]
  exact hK _ _ h
end Go.Proofs.YtfjcajccfnpfbaaDoor
