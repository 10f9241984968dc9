import Derived.Test.YtfjcajccfnpfbaaDoorShaRow
import Derived.Test.YtfjcajccfnpfbaaDoorShaChunk
import Derived.RegionTactic
import Derived.Deep.RegionLaw
import Derived.Deep.RegionHeldLaw
namespace Go.Proofs.YtfjcajccfnpfbaaDoor
open Go.RowKit
open Sha
def sliceLen : Value → Nat | .slice _ n _ => n | _ => 0
theorem zeros_lt (n k : Nat) (h : k < zeros n) : (n + 1 + k) % 64 ≠ 56 := by unfold zeros at h; omega
theorem zeros_at (n : Nat) : (n + 1 + zeros n) % 64 = 56 := by unfold zeros; omega
theorem zeros_64 (n : Nat) : zeros n < 64 := by unfold zeros; omega
/-- 's', 0x80, k noughts -/
def pz (l : List UInt8) (k : Nat) : List UInt8 := l ++ 128 :: List.replicate k 0
theorem pz_len (l : List UInt8) (k : Nat) : (pz l k).length = l.length + 1 + k := by simp [pz]; omega
theorem pz_step (l : List UInt8) (k : Nat) : pz l k ++ [0] = pz l (k + 1) := by
  simp [pz, List.replicate_succ']
theorem pz_zero (l : List UInt8) : l ++ [128] = pz l 0 := rfl
theorem BR.shape {w0 w : World} {v : Value} {L : List UInt8} (h : BR w0 v L w) : ∃ ao cap, v = .slice ao L.length cap := by
  rcases h.form with ⟨rfl, rfl⟩ | ⟨g, cap, rfl, _⟩
  · exact ⟨none, 0, rfl⟩
  · exact ⟨_, cap, rfl⟩
theorem u8s_single (x : UInt8) : u8s [x] = [.int .u8 (x.toNat : Int)] := rfl
/-- a slice of something lies somewhere -/
theorem br_some {w0 w : World} {ao : Option Addr} {n cap : Nat} {L : List UInt8} (h : BR w0 (.slice ao n cap) L w) (hp : 0 < L.length) : ∃ g, ao = some ⟨g, 0, none⟩ ∧ L.length ≤ cap := by
  rcases h.form with ⟨_, rfl⟩ | ⟨g, cap', h1, _, h3, _⟩
  · simp at hp
  · injection h1 with e1 e2 e3; exact ⟨g, e1, by omega⟩
theorem wbyte {x : Int} (hx : W32 x) (k : Nat) : x / 2 ^ k % 256 = ((UInt8.ofNat (x.toNat / 2 ^ k)).toNat : Int) := (word_byte hx k).symm
theorem wbyte0 {x : Int} (hx : W32 x) : x % 256 = ((UInt8.ofNat x.toNat).toNat : Int) := by
  have := word_byte hx 0
  simpa using this.symm
theorem outb_step (X : S8) (j : Nat) (hj : j < 8) : (outb X).take (4 * j) ++ wb (X.list.getD j 0) = (outb X).take (4 * (j + 1)) := by
  match j, hj with
  | 0, _ => rfl
  | 1, _ => rfl
  | 2, _ => rfl
  | 3, _ => rfl
  | 4, _ => rfl
  | 5, _ => rfl
  | 6, _ => rfl
  | 7, _ => rfl
theorem BR.old {w0 w : World} {v : Value} {L : List UInt8} (h : BR w0 v L w) {p : Addr} {u : Value} (hc : w0.cell? p = some u) : w.cell? p = some u := by
  rw [h.below.cell (World.block_lt_of_cell? w0 p hc)]; exact hc
theorem BR.text {w0 w : World} {ao : Option Addr} {n cap : Nat} {L : List UInt8} (h : BR w0 (.slice ao n cap) L w) (hp : 0 < L.length) : (convert 56 9 (.slice ao L.length cap)).run Tryd.prog w = .ok (.string ⟨L.toArray⟩) w := by
  rcases h.form with ⟨_, h2⟩ | ⟨g, cap', h1, _, _, h4, _⟩
  · rw [h2] at hp; simp at hp
  · have e1 : ao = some ⟨g, 0, none⟩ := by injection h1
    subst e1
    refine (run_convert_bytes_string w 56 9 5 (some ⟨g, 0, none⟩) L.length cap under37 under5 under9).trans ?_
    have hl : (loadCells ⟨g, 0, none⟩ L.length).run Tryd.prog w = .ok ((L.map fun x => (x.toNat : Int)).map (Value.int .u8)).toArray w := by
      have hlen : ((L.map fun x => (x.toNat : Int)).map (Value.int .u8)).length = L.length := by simp
      have := run_loadCells_list (P := Tryd.prog) w ⟨g, 0, none⟩ ((L.map fun x => (x.toNat : Int)).map (Value.int .u8)) (fun j v hv => by
        have hadd : (⟨g, 0, none⟩ : Addr).add j = ⟨g, j, none⟩ := by unfold Addr.add; split <;> simp_all
        rw [hadd]
        refine h4 j v ?_
        rw [← hv]; simp [u8s]; rfl)
      rw [hlen] at this
      exact this
    rw [run_bytesToString w _ L.length cap _ hl, push_fold]
    simp
/-- the blocks' loop -/
structure Lp (w : World) (B : List UInt8) (gb gc k : Nat) (h : Value) (wq : World) : Prop where
  bb : ∀ j u, (u8s B)[j]? = some u → wq.cell? ⟨gb, j, none⟩ = some u
  cc : ∀ i, i < 64 → wq.cell? ⟨gc, i, none⟩ = some (.int .i64 (kw i))
  hh : ∃ gh, h = .slice (some ⟨gh, 0, none⟩) 8 8 ∧ ∀ i, i < 8 → wq.cell? ⟨gh, i, none⟩ = some (.int .i64 ((sa h0 B k).list.getD i 0))
  below : Below w.heap.size w wq
theorem Lp.start {w wr w5 : World} {gb n cap : Nat} {B : List UInt8} (h : BR w (.slice (some ⟨gb, 0, none⟩) n cap) B wr) (h5 : w5 = (wr.alloc (.cells (i64s h0.list).toArray 3)).alloc (.cells (i64s kl).toArray 3)) :
    Lp w B gb (wr.heap.size + 1) 0 (.slice (some ⟨wr.heap.size, 0, none⟩) 8 8) w5 := by
  have h2 := (h.alloc (.cells (i64s h0.list).toArray 3)).alloc (.cells (i64s kl).toArray 3)
  rw [← h5] at h2
  obtain ⟨hA, hC⟩ := heap_push2 wr (.cells (i64s h0.list).toArray 3) (.cells (i64s kl).toArray 3)
  rw [← h5] at hA hC
  refine ⟨?_, fun i hi => cell_i64s kl w5 _ i 3 (0, 0) hC (by rw [kl_len]; exact hi), ⟨_, rfl, fun i hi => cell_i64s h0.list w5 _ i 3 (0, 0) hA (by rw [len8]; exact hi)⟩, h2.below⟩
  rcases h2.form with ⟨h', _⟩ | ⟨g, cap', h1, _, _, h4, _⟩
  · cases h'
  · injection h1 with e1 _ _
    injection e1 with e1
    injection e1 with e1 _ _
    subst e1
    exact h4
theorem Lp.blk {w : World} {B : List UInt8} {gb gc k : Nat} {h : Value} {wq : World} (f : Lp w B gb gc k h wq) (hk : 64 * (k + 1) ≤ B.length) : ∀ i, i < 64 → wq.cell? ⟨gb, 64 * k + i, none⟩ = some (.int .u8 (bf ((B.drop (64 * k)).take 64) i)) := fun i hi => by
  refine f.bb _ _ ?_
  have hlt : 64 * k + i < B.length := by omega
  have e : ((B.drop (64 * k)).take 64).getD i 0 = B[64 * k + i] := by
    rw [List.getD_eq_getElem?_getD, List.getElem?_take, if_pos hi, List.getElem?_drop, List.getElem?_eq_getElem hlt]; rfl
  unfold bf
  rw [e]
  simp [u8s, List.getElem?_eq_getElem hlt]
theorem Lp.next {w : World} {B : List UInt8} {gb gc k : Nat} {h : Value} {wq w1 : World} {g : Nat} (f : Lp w B gb gc k h wq) (hb : Below wq.heap.size wq w1)
    (hg : w1.heap[g]? = some (.cells (i64s (comp (sa h0 B k) (bf ((B.drop (64 * k)).take 64))).list).toArray 3)) : Lp w B gb gc (k + 1) (.slice (some ⟨g, 0, none⟩) 8 8) w1 := by
  refine ⟨fun j u hu => ?_, fun i hi => ?_, ⟨g, rfl, fun i hi => ?_⟩, f.below.trans (hb.mono f.below.size)⟩
  · have hc := f.bb j u hu
    rw [hb.cell (p := ⟨gb, j, none⟩) (World.block_lt_of_cell? wq _ hc)]; exact hc
  · have hc := f.cc i hi
    rw [hb.cell (p := ⟨gc, i, none⟩) (World.block_lt_of_cell? wq _ hc)]; exact hc
  · exact cell_i64s (sa h0 B (k + 1)).list w1 g i 3 (0, 0) hg (by rw [len8]; exact hi)
set_option maxRecDepth 100000 in
set_option maxHeartbeats 4000000 in
theorem rHash_any (s : ByteArray) (hs : s.size ≤ 1099511627776) (w : World) :
    Calls Tryd.prog 10 #[.string s] w fun e w' => e = .returned (.string ⟨(sha s.data.toList).toArray⟩) ∧ Below w.heap.size w w' := by
  have hcv := Lib.run_convert_string_bytes (P := Tryd.prog) w 9 56 5 s under9 under37 under5
  have hl : s.data.toList.length = s.size := by simp
  have B0 := BR.conv w s
  have HB0 := hide B0
  have HL := hide hl
  clear B0 hl
  generalize Lib.bytesWorld w 5 s = W0 at *
  generalize grownCap w s.size 0 5 = cap0 at *
  go_enter Tryd.func10, Tryd.ntmps10
  go_wp2_with (refine wpList_append_bytes rfl (.tmp 12) (.tmp 13) rfl (.slice (some ⟨w.heap.size, 0, none⟩) s.size cap0) s.data.toList rfl (HB0.out.alloc _) ⟨W0.heap.size, 0, none⟩ 1 1 [128] rfl rfl (news_last W0 [128] 5) (by have := HL.out; simp; omega) ?_; intro v1 W1 HB1)
  rw [pz_zero] at HB1
  clear hcv HB0
  have hz := zeros_64 s.size
  go_loopw [3] (fun v wr => ∃ k : Nat, k ≤ zeros s.size ∧ BR w v (pz s.data.toList k) wr) (fun v _ => s.size + 1 + zeros s.size - sliceLen v)
  case atStart => exact ⟨0, by omega, HB1.out⟩
  case round =>
    obtain ⟨k, hk, hbr⟩ := hrel
    clear HB1
    obtain ⟨ao, cap, rfl⟩ := hbr.shape
    have hpl : (pz s.data.toList k).length = s.size + 1 + k := by rw [pz_len, HL.out]
    rw [hpl] at hbr ⊢
    have HBR := hide hbr
    have HPL := hide hpl
    clear hbr hpl
    by_cases hlt : k < zeros s.size
    · have hne := zeros_lt s.size k hlt
      have hne' : (((s.size + 1 + k : Nat) : Int) % 64 != 56) = true := by rw [bne_iff_ne]; omega
      clear hne
      go_wp2_with (refine wpList_append_bytes rfl (.tmp 19) (.tmp 20) rfl (.slice ao (s.size + 1 + k) cap) (pz s.data.toList k) rfl (HBR.out.alloc _) ⟨wr.heap.size, 0, none⟩ 1 1 [0] rfl rfl (news_last wr [0] 5) (by rw [HPL.out]; simp; omega) ?_; intro v2 W2 HB2)
      rw [pz_step] at HB2
      obtain ⟨ao2, cap2, hv2⟩ := HB2.out.shape
      refine ⟨⟨k + 1, by omega, HB2.out⟩, ?_⟩
      rw [hv2]
      have := HL.out
      simp only [sliceLen, pz_len]
      omega
    · have hkz : k = zeros s.size := by omega
      subst hkz
      have heq := zeros_at s.size
      have heq' : (((s.size : Int) + 1 + (zeros s.size : Int)) % 64 != 56) = false := by rw [bne_eq_false_iff_eq]; omega
      clear heq
      have hlb := lenb_len s.size
      go_wp2
      go_loopw [3, 4] (fun v i wr => ∃ x : Int, i = .int .i64 x ∧ -1 ≤ x ∧ x ≤ 7 ∧ BR w v (pz s.data.toList (zeros s.size) ++ (lenb s.size).take (7 - x).toNat) wr) (fun _ i _ => (intOf i + 1).toNat)
      case atStart => exact ⟨7, rfl, by omega, by omega, by simpa using HBR.out⟩
      case round =>
        obtain ⟨x, rfl, hx0, hx1, hbr⟩ := hrel
        clear HBR
        obtain ⟨ao1, cap1, rfl⟩ := hbr.shape
        by_cases hge : 0 ≤ x
        · obtain ⟨i, rfl⟩ := Int.eq_ofNat_of_zero_le hge
          have hpl2 : (pz s.data.toList (zeros s.size) ++ (lenb s.size).take (7 - (i : Int)).toNat).length = s.size + 1 + zeros s.size + (7 - i) := by
            rw [List.length_append, HPL.out, List.length_take, hlb]; omega
          rw [hpl2] at hbr ⊢
          have hst : (lenb s.size).take (7 - (i : Int)).toNat ++ [UInt8.ofNat (8 * s.size / 2 ^ (8 * i))] = (lenb s.size).take (7 - ((i : Int) - 1)).toNat := by
            have hg := lenb_get s.size i (by omega)
            rw [show (7 - ((i : Int) - 1)).toNat = (7 - i) + 1 by omega, show (7 - (i : Int)).toNat = 7 - i by omega, List.take_add_one, hg]; rfl
          have HST := hide hst
          have hv : 8 * (s.size : Int) / 2 ^ (8 * i) % 256 = ((UInt8.ofNat (8 * s.size / 2 ^ (8 * i))).toNat : Int) := by rw [byte_val, Int.mul_comm]
          have HBR2 := hide hbr
          have HPL2 := hide hpl2
          clear hbr hpl2 hst
          have hi7 : (i : Int) ≤ 7 := by omega
          generalize UInt8.ofNat (8 * s.size / 2 ^ (8 * i)) = y at *
          go_wp2_with (refine wpList_append_bytes rfl (.tmp 26) (.tmp 34) rfl (.slice ao1 (s.size + 1 + zeros s.size + (7 - i)) cap1) (pz s.data.toList (zeros s.size) ++ (lenb s.size).take (7 - (i : Int)).toNat) rfl (HBR2.out.alloc _) ⟨wr.heap.size, 0, none⟩ 1 1 [y] rfl rfl (news_last wr [y] 5) (by rw [HPL2.out]; simp; omega) ?_; intro v2 W2 HB2)
          rw [List.append_assoc, HST.out] at HB2
          go_roundw
          case rel =>
            exact ⟨(i : Int) - 1, rfl, by omega, by omega, HB2.out⟩
          case measure => simp [intOf]
        · have hx : x = -1 := by omega
          subst hx
          have hfull : pz s.data.toList (zeros s.size) ++ (lenb s.size).take (7 - (-1 : Int)).toNat = pad s.data.toList := by
            rw [List.take_of_length_le (by rw [hlb]; omega)]
            unfold pz pad
            rw [HL.out]; simp
          rw [hfull] at hbr ⊢
          have hpb : (pad s.data.toList).length ≤ s.size + 200 := by
            have := HL.out
            rw [← hfull, List.length_append, HPL.out, List.length_take]; omega
          have hp0 : 0 < (pad s.data.toList).length := by
            rw [← hfull, List.length_append, HPL.out]; omega
          have hmod := pad_len s.data.toList
          have HSH : Hid (sha s.data.toList = outb (sa h0 (pad s.data.toList) ((pad s.data.toList).length / 64))) := rfl
          have HBR3 := hide hbr
          clear hbr hfull HPL
          generalize pad s.data.toList = B at *
          go_wp2_with fail
          refine (consts_any _).mono ?_
          rintro e w5 ⟨rfl, hw5⟩
          obtain ⟨gb, hao⟩ := br_some HBR3.out hp0
          obtain ⟨rfl, hcap⟩ := hao
          have HLP := hide (Lp.start HBR3.out hw5)
          clear HBR3 hw5
          go_wp2_with fail
          generalize wr.heap.size + 1 = gc at *
          go_loopw [5, 7] (fun h i wq => ∃ k : Nat, 64 * k ≤ B.length ∧ i = .int .i64 (64 * k : Nat) ∧ Lp w B gb gc k h wq) (fun _ i _ => B.length - (intOf i).toNat)
          case atStart => exact ⟨0, by omega, rfl, HLP.out⟩
          case round =>
            obtain ⟨k, hk64, rfl, hlp⟩ := hrel
            clear HLP
            obtain ⟨gh, rfl, hhh⟩ := hlp.hh
            by_cases hlt : 64 * k < B.length
            · have hk1 : 64 * (k + 1) ≤ B.length := by omega
              have HC := hide (chunk_any (sa h0 B k) (sa_ok h0_ok _ _) (bf ((B.drop (64 * k)).take 64)) (bf_byt _) gh gb (64 * k) gc (cap1 - 64 * k) wr hhh (hlp.blk hk1) hlp.cc)
              have HLP := hide hlp
              clear hlp hhh
              generalize hm : 64 * k = m at *
              have HM := hide hm
              clear hm
              have h1 : (m : Int) < (B.length : Int) := by omega
              have h2 : (m : Int) + 64 ≤ (cap1 : Int) := by have := HM.out; omega
              have h3 : IntKind.i64.wrap ((m : Int) + 64) = (m : Int) + 64 := by rw [IntKind.wrap_i64]; omega
              have h4 : ((m : Int) + 64).toNat = m + 64 := by omega
              go_wp2_with fail
              refine HC.out.mono ?_
              rintro e w7 ⟨g, rfl, hge, hg, hb7⟩
              have HN := hide (HLP.out.next hb7 (by rw [HM.out]; exact hg))
              clear hb7 hg HC HLP
              go_wp2
              go_roundw
              case rel => exact ⟨k + 1, hk1, by have := HM.out; go_num, HN.out⟩
              case measure => simp [intOf]; omega
            · have hke : k = B.length / 64 := by omega
              have HX : Hid (sha s.data.toList = outb (sa h0 B k)) := by show sha s.data.toList = _; rw [HSH.out, hke]
              have hok := sa_ok h0_ok B k
              have hlt' : ¬ ((64 * k : Nat) : Int) < (B.length : Int) := by omega
              have HBL := hide hlp.below
              have hbnil := BR.nil wr wr (Below.refl _ _)
              have HNIL := hide hbnil
              clear hlp hke HSH hbnil
              generalize sa h0 B k = X at *
              have HHH := hide hhh
              clear hhh
              go_wp2
              generalize wr = V at *
              go_loopw [8, 9] (fun v i wq => ∃ j : Nat, j ≤ 8 ∧ i = .int .i64 j ∧ BR V v ((outb X).take (4 * j)) wq) (fun _ i _ => 8 - (intOf i).toNat)
              case atStart => exact ⟨0, by omega, rfl, HNIL.out⟩
              case round =>
                obtain ⟨j, hj8, rfl, hbr⟩ := hrel
                clear HNIL
                obtain ⟨ao3, cap3, rfl⟩ := hbr.shape
                have hol := outb_len X
                have hpl3 : ((outb X).take (4 * j)).length = 4 * j := by rw [List.length_take, hol]; omega
                rw [hpl3] at hbr ⊢
                by_cases hlt : j < 8
                · have hc : wr.cell? ⟨gh, j, none⟩ = some (.int .i64 (X.list.getD j 0)) := by
                    have h1 := HHH.out j hlt
                    rw [hbr.below.cell (p := ⟨gh, j, none⟩) (World.block_lt_of_cell? V _ h1)]; exact h1
                  have HCV := hide (HHH.out j hlt)
                  have hgl : gh < wr.heap.size := World.block_lt_of_cell? wr _ hc
                  have HOT := hide (outb_step X j hlt)
                  have hxw := getD_w8 hok j
                  have HBR4 := hide hbr
                  clear hbr HHH
                  have y24 := wbyte hxw 24
                  have y16 := wbyte hxw 16
                  have y8 := wbyte hxw 8
                  have y0 := wbyte0 hxw
                  unfold wb at HOT
                  obtain ⟨x0, x1⟩ := hxw
                  generalize X.list.getD j 0 = x at *
                  generalize UInt8.ofNat (x.toNat / 2 ^ 24) = b24 at *
                  generalize UInt8.ofNat (x.toNat / 2 ^ 16) = b16 at *
                  generalize UInt8.ofNat (x.toNat / 2 ^ 8) = b8 at *
                  generalize UInt8.ofNat x.toNat = b0 at *
                  have qj : (j : Int) < 8 := by omega
                  have z24 : IntKind.u8.wrap (x / 16777216) = (b24.toNat : Int) := by rw [IntKind.wrap_u8]; exact y24
                  have z16 : IntKind.u8.wrap (x / 65536) = (b16.toNat : Int) := by rw [IntKind.wrap_u8]; exact y16
                  have z8 : IntKind.u8.wrap (x / 256) = (b8.toNat : Int) := by rw [IntKind.wrap_u8]; exact y8
                  have z0 : IntKind.u8.wrap x = (b0.toNat : Int) := by rw [IntKind.wrap_u8]; exact y0
                  clear y24 y16 y8 y0
                  go_wp2
                  go_region_held_law (fun w' => w'.cell? ⟨gh, j, none⟩ = some (.int .i64 x)) (first | (go_keep; done) | exact (cell_alloc_o _ _ gh j hgl).trans hc | exact hc | exact HB5.out.old HCV.out)
                    ((refine step_append_bytes rfl (.tmp 56) (.tmp 80) rfl (.slice ao3 (4 * j) cap3) ((outb X).take (4 * j)) rfl ((HBR4.out.alloc _).drewN 1) ⟨wr.heap.size, 0, none⟩ 4 4 [b24, b16, b8, b0] rfl rfl (news_last wr [b24, b16, b8, b0] 5) (by rw [hpl3]; simp; omega) ?_; intro v5 W5 HB5))
                  rw [HOT.out] at HB5
                  go_wp2
                  go_roundw
                  case rel => exact ⟨j + 1, by omega, by go_num, HB5.out⟩
                  case measure => simp [intOf]; omega
                · have hj : j = 8 := by omega
                  subst hj
                  have h32 : (outb X).take (4 * 8) = outb X := List.take_of_length_le (by rw [hol]; omega)
                  rw [h32] at hbr hpl3
                  have hcvo := hbr.text (by rw [hol]; omega)
                  rw [hol] at hcvo
                  have HBW := hide (HBL.out.trans (hbr.below.mono HBL.out.size))
                  clear hbr h32 HHH
                  generalize outb X = R at *
                  go_wp2
                  go_ret
                  exact ⟨by rw [HX.out]; rfl, HBW.out⟩
end Go.Proofs.YtfjcajccfnpfbaaDoor
