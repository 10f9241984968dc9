import Derived.Test.YtfjcajccfnpfbaaDoorShaBits
namespace Go.Proofs.YtfjcajccfnpfbaaDoor.Sha

def bs (a b c : Nat) (x : Int) : Int := xo (xo (rr a x) (rr b x)) (rr c x)
def ss (a b s : Nat) (x : Int) : Int := xo (xo (rr a x) (rr b x)) (x / 2 ^ s)
def ch (e f g : Int) : Int := xo (an e f) (an (xo 4294967295 e) g)
def maj (a b c : Int) : Int := xo (xo (an a b) (an a c)) (an b c)
theorem m32_w : W32 4294967295 := ⟨by decide, by decide⟩
theorem bs_w {a b c : Nat} {x : Int} (h : W32 x) : W32 (bs a b c x) := xo_w (xo_w (rr_w h) (rr_w h)) (rr_w h)
theorem ss_w {a b s : Nat} {x : Int} (h : W32 x) : W32 (ss a b s x) := xo_w (xo_w (rr_w h) (rr_w h)) (shr_w h)
theorem ch_w {e f g : Int} (he : W32 e) (hf : W32 f) (hg : W32 g) : W32 (ch e f g) := xo_w (an_w he hf) (an_w (xo_w m32_w he) hg)
theorem maj_w {a b c : Int} (ha : W32 a) (hb : W32 b) (hc : W32 c) : W32 (maj a b c) := xo_w (xo_w (an_w ha hb) (an_w ha hc)) (an_w hb hc)

/-- The eight words. -/
structure S8 where
  a : Int
  b : Int
  c : Int
  d : Int
  e : Int
  f : Int
  g : Int
  h : Int
structure S8.Ok (s : S8) : Prop where
  a : W32 s.a
  b : W32 s.b
  c : W32 s.c
  d : W32 s.d
  e : W32 s.e
  f : W32 s.f
  g : W32 s.g
  h : W32 s.h
def S8.list (s : S8) : List Int := [s.a, s.b, s.c, s.d, s.e, s.f, s.g, s.h]

def kl : List Int := [1116352408, 1899447441, 3049323471, 3921009573, 961987163, 1508970993, 2453635748, 2870763221, 3624381080, 310598401, 607225278, 1426881987, 1925078388, 2162078206, 2614888103, 3248222580, 3835390401, 4022224774, 264347078, 604807628, 770255983, 1249150122, 1555081692, 1996064986, 2554220882, 2821834349, 2952996808, 3210313671, 3336571891, 3584528711, 113926993, 338241895, 666307205, 773529912, 1294757372, 1396182291, 1695183700, 1986661051, 2177026350, 2456956037, 2730485921, 2820302411, 3259730800, 3345764771, 3516065817, 3600352804, 4094571909, 275423344, 430227734, 506948616, 659060556, 883997877, 958139571, 1322822218, 1537002063, 1747873779, 1955562222, 2024104815, 2227730452, 2361852424, 2428436474, 2756734187, 3204031479, 3329325298]
theorem kl_len : kl.length = 64 := by decide
def kw (i : Nat) : Int := kl.getD i 0
theorem kw_w (i : Nat) : W32 (kw i) := by
  have h : ∀ x ∈ kl, 0 ≤ x ∧ x < 4294967296 := by decide
  unfold kw
  rw [List.getD_eq_getElem?_getD]
  cases hx : kl[i]? with
  | none => exact ⟨by decide, by decide⟩
  | some x => exact ⟨(h x (List.mem_of_getElem? hx)).1, (h x (List.mem_of_getElem? hx)).2⟩

def t1 (s : S8) (k w : Int) : Int := (s.h + bs 6 11 25 s.e + ch s.e s.f s.g + k + w) % 4294967296
def t2 (s : S8) : Int := (bs 2 13 22 s.a + maj s.a s.b s.c) % 4294967296
def rd (s : S8) (k w : Int) : S8 := ⟨(t1 s k w + t2 s) % 4294967296, s.a, s.b, s.c, (s.d + t1 s k w) % 4294967296, s.e, s.f, s.g⟩
theorem rd_ok {s : S8} {k w : Int} (h : s.Ok) : (rd s k w).Ok := ⟨mod_w _, h.a, h.b, h.c, mod_w _, h.e, h.f, h.g⟩
/-- i rounds. -/
def rds (s : S8) (w : Nat → Int) : Nat → S8
  | 0 => s
  | i + 1 => rd (rds s w i) (kw i) (w i)
theorem rds_ok {s : S8} (h : s.Ok) (w : Nat → Int) : ∀ i, (rds s w i).Ok
  | 0 => h
  | i + 1 => rd_ok (rds_ok h w i)
def S8.plus (s t : S8) : S8 := ⟨(s.a + t.a) % 4294967296, (s.b + t.b) % 4294967296, (s.c + t.c) % 4294967296, (s.d + t.d) % 4294967296, (s.e + t.e) % 4294967296, (s.f + t.f) % 4294967296, (s.g + t.g) % 4294967296, (s.h + t.h) % 4294967296⟩
theorem S8.plus_ok (s t : S8) : (s.plus t).Ok := ⟨mod_w _, mod_w _, mod_w _, mod_w _, mod_w _, mod_w _, mod_w _, mod_w _⟩

/-- The words of a block: 'sched b i' for i < 64. -/
def word (b : Nat → Int) (j : Nat) : Int := b (4 * j) * 16777216 + b (4 * j + 1) * 65536 + b (4 * j + 2) * 256 + b (4 * j + 3)
def step (p q r t : Int) : Int := (p + ss 7 18 3 q + r + ss 17 19 10 t) % 4294967296
/-- the list of the first 16 + k words -/
def sched (b : Nat → Int) : Nat → List Int
  | 0 => (List.range 16).map (word b)
  | k + 1 => sched b k ++ [step ((sched b k).getD k 0) ((sched b k).getD (k + 1) 0) ((sched b k).getD (k + 9) 0) ((sched b k).getD (k + 14) 0)]
theorem sched_len (b : Nat → Int) : ∀ k, (sched b k).length = 16 + k
  | 0 => by simp [sched]
  | k + 1 => by simp [sched, sched_len b k]; omega
def Byt (b : Nat → Int) : Prop := ∀ i, 0 ≤ b i ∧ b i < 256
theorem word_w {b : Nat → Int} (h : Byt b) (j : Nat) : W32 (word b j) := by
  have h0 := h (4 * j); have h1 := h (4 * j + 1); have h2 := h (4 * j + 2); have h3 := h (4 * j + 3)
  unfold word
  exact ⟨by omega, by omega⟩
theorem sched_w {b : Nat → Int} (h : Byt b) : ∀ k, ∀ x ∈ sched b k, W32 x
  | 0 => by
    intro x hx
    simp only [sched, List.mem_map] at hx
    obtain ⟨j, _, rfl⟩ := hx
    exact word_w h j
  | k + 1 => by
    intro x hx
    simp only [sched, List.mem_append, List.mem_singleton] at hx
    rcases hx with hx | rfl
    · exact sched_w h k x hx
    · exact mod_w _
def wd (b : Nat → Int) (i : Nat) : Int := (sched b 48).getD i 0
theorem getD_w {l : List Int} (h : ∀ x ∈ l, W32 x) (i : Nat) : W32 (l.getD i 0) := by
  rw [List.getD_eq_getElem?_getD]
  cases hx : l[i]? with
  | none => exact ⟨by decide, by decide⟩
  | some x => exact h x (List.mem_of_getElem? hx)
theorem wd_w {b : Nat → Int} (h : Byt b) (i : Nat) : W32 (wd b i) := getD_w (sched_w h 48) i
def comp (s : S8) (b : Nat → Int) : S8 := s.plus (rds s (wd b) 64)
theorem comp_ok (s : S8) (b : Nat → Int) : (comp s b).Ok := S8.plus_ok _ _

/-! the code's additions, as uint32 wraps them; the paper's, as int adds them -/
theorem t1_code (s : S8) (k w : Int) : ((((s.h + bs 6 11 25 s.e) % 4294967296 + ch s.e s.f s.g) % 4294967296 + k) % 4294967296 + w) % 4294967296 = t1 s k w := by
  unfold t1; omega
theorem t1_paper (s : S8) (k w u d : Int) : (s.h + bs 6 11 25 s.e + ch s.e s.f s.g + k + w + u) % 4294967296 = (t1 s k w + u) % 4294967296 ∧ (d + (s.h + bs 6 11 25 s.e + ch s.e s.f s.g + k + w)) % 4294967296 = (d + t1 s k w) % 4294967296 := by
  unfold t1; omega

/-! the words as the code's first loop fills them, byte by byte -/
def pv (b : Nat → Int) (i j : Nat) : Int :=
  match i - 4 * j with
  | 0 => 0
  | 1 => b (4 * j)
  | 2 => b (4 * j) * 256 + b (4 * j + 1)
  | 3 => b (4 * j) * 65536 + b (4 * j + 1) * 256 + b (4 * j + 2)
  | _ => word b j
theorem pv_full (b : Nat → Int) (i j : Nat) (h : 4 * j + 4 ≤ i) : pv b i j = word b j := by
  obtain ⟨d, rfl⟩ := Nat.exists_eq_add_of_le h
  have e : 4 * j + 4 + d - 4 * j = d + 4 := by omega
  unfold pv; rw [e]; rfl
theorem pv_none (b : Nat → Int) (i j : Nat) (h : i ≤ 4 * j) : pv b i j = 0 := by
  have e : i - 4 * j = 0 := by omega
  unfold pv; rw [e]; rfl
def pw (b : Nat → Int) (i : Nat) : List Int := (List.range 64).map (pv b i)
theorem pw_len (b : Nat → Int) (i : Nat) : (pw b i).length = 64 := by simp [pw]
theorem pw_get (b : Nat → Int) (i j : Nat) (hj : j < 64) : (pw b i).getD j 0 = pv b i j := by
  simp [pw, List.getD_eq_getElem?_getD, hj]
theorem pv_small {b : Nat → Int} (h : Byt b) (i : Nat) : 0 ≤ pv b i (i / 4) ∧ pv b i (i / 4) < 16777216 := by
  have hr : i - 4 * (i / 4) < 4 := by omega
  have h0 := h (4 * (i / 4)); have h1 := h (4 * (i / 4) + 1); have h2 := h (4 * (i / 4) + 2)
  unfold pv
  generalize i - 4 * (i / 4) = r at hr
  match r, hr with
  | 0, _ => simp
  | 1, _ => simp; omega
  | 2, _ => simp; omega
  | 3, _ => simp; omega
theorem pv_next (b : Nat → Int) (i : Nat) : pv b (i + 1) (i / 4) = pv b i (i / 4) * 256 + b i := by
  have hr : i - 4 * (i / 4) < 4 := by omega
  have e : i + 1 - 4 * (i / 4) = i - 4 * (i / 4) + 1 := by omega
  have ei : i = 4 * (i / 4) + (i - 4 * (i / 4)) := by omega
  unfold pv
  rw [e]
  generalize hj : i / 4 = j at *
  generalize hq : i - 4 * j = r at *
  match r, hr with
  | 0, _ => rw [ei]; simp
  | 1, _ => rw [ei]; simp
  | 2, _ => rw [ei]; simp; omega
  | 3, _ => rw [ei]; simp [word]; omega
theorem pv_same (b : Nat → Int) (i j : Nat) (h : j ≠ i / 4) : pv b (i + 1) j = pv b i j := by
  by_cases hlt : i < 4 * j
  · rw [pv_none b (i + 1) j (by omega), pv_none b i j (by omega)]
  · rw [pv_full b (i + 1) j (by omega), pv_full b i j (by omega)]
theorem pw_step (b : Nat → Int) (i : Nat) (_hi : i < 64) : (pw b i).set (i / 4) (pv b i (i / 4) * 256 + b i) = pw b (i + 1) := by
  apply List.ext_getElem?
  intro j
  unfold pw
  rw [List.getElem?_set]
  by_cases hj : i / 4 = j
  · subst hj
    have hl : i / 4 < 64 := by omega
    simp [hl, pv_next]
  · rw [if_neg hj, List.getElem?_map, List.getElem?_map]
    cases hq : (List.range 64)[j]? with
    | none => rfl
    | some q =>
      have : q = j := by
        have := List.getElem?_eq_some_iff.1 hq
        obtain ⟨h1, h2⟩ := this
        simpa using h2.symm
      subst this
      simp [pv_same b i q (fun e => hj e.symm)]
theorem pw_zero (b : Nat → Int) : pw b 0 = List.replicate 64 0 := by
  unfold pw
  have : pv b 0 = fun _ => 0 := funext fun j => pv_none b 0 j (by omega)
  rw [this]
  rfl
/-- 16 + k words, then noughts -/
def sz (b : Nat → Int) (k : Nat) : List Int := sched b k ++ List.replicate (48 - k) 0
theorem sz_len (b : Nat → Int) (k : Nat) (hk : k ≤ 48) : (sz b k).length = 64 := by simp [sz, sched_len]; omega
theorem sz_get (b : Nat → Int) (k i : Nat) (hi : i < 16 + k) : (sz b k).getD i 0 = (sched b k).getD i 0 := by
  unfold sz
  rw [List.getD_eq_getElem?_getD, List.getD_eq_getElem?_getD, List.getElem?_append_left (by rw [sched_len]; exact hi)]
theorem pw_done (b : Nat → Int) : pw b 64 = sz b 0 := by
  apply List.ext_getElem?
  intro j
  unfold pw sz sched
  by_cases h16 : j < 16
  · rw [List.getElem?_append_left (by simp; omega)]
    have h64 : j < 64 := by omega
    simp [-List.reduceReplicate, h16, h64, pv_full b 64 j (by omega)]
  · rw [List.getElem?_append_right (by simp; omega)]
    by_cases h64 : j < 64
    · have h48 : j - 16 < 48 := by omega
      simp [-List.reduceReplicate, h64, pv_none b 64 j (by omega), h48]
    · have h48 : ¬ j - 16 < 48 := by omega
      simp [-List.reduceReplicate, h64, h48]
theorem sz_step (b : Nat → Int) (k : Nat) (hk : k < 48) : (sz b k).set (16 + k) (step ((sched b k).getD k 0) ((sched b k).getD (k + 1) 0) ((sched b k).getD (k + 9) 0) ((sched b k).getD (k + 14) 0)) = sz b (k + 1) := by
  unfold sz
  have e : 48 - k = (48 - (k + 1)) + 1 := by omega
  rw [e, List.replicate_succ, List.set_append_right _ _ (by rw [sched_len]; omega), sched_len]
  simp [sched]
theorem sz_done (b : Nat → Int) : sz b 48 = sched b 48 := by simp [sz]

/-- a text's bytes -/
def bf (l : List UInt8) (i : Nat) : Int := ((l.getD i 0).toNat : Int)
theorem bf_byt (l : List UInt8) : Byt (bf l) := fun i => by
  have := (l.getD i 0).toNat_lt
  unfold bf
  omega
end Go.Proofs.YtfjcajccfnpfbaaDoor.Sha
