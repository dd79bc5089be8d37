/-
  What rmq.Top and the document's RmqTop return: contracts, walked over the translated text. No condition but what each theorem names.
-/
import Derived.Test.YtefgfkicacbmeaaRmqTp
namespace Go.Proofs.Ytefgfkicacbmeaa
open Go.RowKit Words

/-- What a call that returns a number and an error leaves. -/
def Answers (w : World) (x k : Int) (e : Ending) (w' : World) : Prop := e = .returned (.tuple #[.int .i64 x, .int .i64 k]) ∧ Below w.heap.size w w'

theorem sparse_get (l : List Int) (k : Nat) (h : k < lev l.length) : (sparse l)[k]? = some (asInts (spR l k)) := by
  unfold sparse
  rw [List.getElem?_map, List.getElem?_range h]
  rfl
theorem sparse_length (l : List Int) : (sparse l).length = lev l.length := by simp [sparse]
theorem lev_mono {n m : Nat} (h : n ≤ m) : lev n ≤ lev m := by
  rcases Nat.lt_or_ge (lev m) (lev n) with h1 | h1
  · have h2 := (lev_iff n _).1 h1
    exact absurd ((lev_iff m _).2 (by omega)) (Nat.lt_irrefl _)
  · exact h1

set_option maxHeartbeats 400000 in
/-- rmq.Top of what is no table. -/
theorem top_form (A : Option Addr) (n c : Nat) (A2 : Option Addr) (m c2 : Nat) (a b : Int) (w : World) (h : Calls Try.prog 55 #[.slice A n c, .slice A2 m c2] w fun e w' => e = .returned (.bool false) ∧ Below w.heap.size w w') :
    Calls Try.prog 34 #[.slice A n c, .slice A2 m c2, .int .i64 a, .int .i64 b] w (Answers w 0 4) := by
  have H := Lib.hid h
  clear h
  go_enter Try.func34, Try.ntmps34
  go_wp2_with fail
  refine H.out.mono ?_
  rintro e w1 ⟨rfl, hb1⟩
  go_wp2_with fail
  go_ret2
  exact ⟨rfl, hb1⟩

set_option maxHeartbeats 400000 in
/-- rmq.Top of a range that is none. -/
theorem top_range (A : Option Addr) (n c : Nat) (A2 : Option Addr) (m c2 : Nat) (a b : Int) (w : World) (h : Calls Try.prog 55 #[.slice A n c, .slice A2 m c2] w fun e w' => e = .returned (.bool true) ∧ Below w.heap.size w w') (hr : a < 0 ∨ b < a ∨ (n : Int) ≤ b) :
    Calls Try.prog 34 #[.slice A n c, .slice A2 m c2, .int .i64 a, .int .i64 b] w (Answers w 0 2) := by
  have H := Lib.hid h
  clear h
  have hc : a < 0 ∨ (decide (a < 0) = false ∧ b < a) ∨ (decide (a < 0) = false ∧ decide (b < a) = false ∧ (n : Int) ≤ b) := by
    by_cases h1 : a < 0
    · exact .inl h1
    · by_cases h2 : b < a
      · exact .inr (.inl ⟨by simpa using h1, h2⟩)
      · exact .inr (.inr ⟨by simpa using h1, by simpa using h2, by omega⟩)
  clear hr
  rcases hc with h1 | ⟨h1, h2⟩ | ⟨h1, h2, h3⟩
  all_goals
    go_enter Try.func34, Try.ntmps34
    go_wp2_with fail
    refine H.out.mono ?_
    rintro e w1 ⟨rfl, hb1⟩
    go_wp2_with fail
    go_ret2
    exact ⟨rfl, hb1⟩

set_option maxHeartbeats 2000000 in
/-- rmq.Top of a range. -/
theorem top_any (A : Option Addr) (l : List Int) (c : Nat) (A2 : Option Addr) (rs : List Row) (c2 a m : Nat) (w : World) (hn : l.length ≤ 300) (hL : Lies w w.heap.size A (l.map (.int .i64))) (hf : ∀ r ∈ rs, r.nums.length ≤ 17592186044416) (hG : Grid w w.heap.size A2 rs) (hT : tabOf rs = sparse l) (ha : a + m < l.length) :
    Calls Try.prog 34 #[.slice A l.length c, .slice A2 rs.length c2, .int .i64 a, .int .i64 (a + m : Nat)] w (Answers w (topN (nth l) a m : Nat) 0) := by
  have hlen : rs.length = lev l.length := by rw [← tabOf_length, hT, sparse_length]
  have hl9 := lev_small l.length _ hn (Nat.le_refl _)
  have HI := Lib.hid (isTable_any A l c A2 rs c2 w true hn hL (by omega) hf hG (by simp [hT]))
  -- the row
  have hi1 : 0 < lev (m + 1) := (lev_iff _ _).2 (by rw [Nat.pow_zero]; omega)
  have hi2 : lev (m + 1) ≤ lev l.length := lev_mono (by omega)
  obtain ⟨k, hk⟩ : ∃ k, lev (m + 1) = k + 1 := ⟨lev (m + 1) - 1, by omega⟩
  have hp1 : 2 ^ k ≤ m + 1 := (lev_iff _ _).1 (by omega)
  have hp2 : m + 1 < 2 ^ (k + 1) := by
    rcases Nat.lt_or_ge (m + 1) (2 ^ (k + 1)) with h | h
    · exact h
    · exact absurd ((lev_iff _ _).2 h) (by omega)
  have hcov := topN_cover (nth l) a m k (by omega) (by rw [Nat.pow_succ] at hp2; omega)
  obtain ⟨bt, ot, r, hA2, hbt, hrk, hct, hLr⟩ := hG.at_ (k := k) (by omega)
  have hr : r.nums = asInts (spR l k) := by
    have h1 := tabOf_get rs k r hrk
    rw [hT, sparse_get l k (by omega)] at h1
    exact (Option.some.inj h1).symm
  rw [hr] at hct hLr
  have hpp := Nat.two_pow_pos k
  obtain ⟨br, or_, hAr, hbr, hcr⟩ := nats_at hLr (by rw [spR_length]; omega)
  rw [asInts_length] at hct
  have hx1 := hcr a (by rw [spR_length]; omega)
  have hx2 := hcr (a + m + 1 - 2 ^ k) (by rw [spR_length]; omega)
  have hg1 : (spR l k).getD a 0 = topN (nth l) a (2 ^ k - 1) := by rw [List.getD, show (spR l k)[a]? = _ from spRow_get (nth l) l.length k a (by omega)]; rfl
  have hg2 : (spR l k).getD (a + m + 1 - 2 ^ k) 0 = topN (nth l) (a + m + 1 - 2 ^ k) (2 ^ k - 1) := by rw [List.getD, show (spR l k)[a + m + 1 - 2 ^ k]? = _ from spRow_get (nth l) l.length k _ (by omega)]; rfl
  rw [hg1] at hx1
  rw [hg2] at hx2
  have t1 := (topN_is (nth l) a (2 ^ k - 1)).hi
  have t2 := (topN_is (nth l) (a + m + 1 - 2 ^ k) (2 ^ k - 1)).hi
  have ht1 : topN (nth l) a (2 ^ k - 1) < l.length := by omega
  have ht2 : topN (nth l) (a + m + 1 - 2 ^ k) (2 ^ k - 1) < l.length := by omega
  have hal : a < (spR l k).length := by rw [spR_length]; omega
  have hjl : a + m + 1 - 2 ^ k < (spR l k).length := by rw [spR_length]; omega
  have hml : (spR l k).length ≤ 300 := by rw [spR_length]; omega
  have hk9 : k ≤ 9 := by omega
  have hkr : k < rs.length := by omega
  have hmr : lev (m + 1) ≤ rs.length := by omega
  have hrs9 : rs.length ≤ 9 := by omega
  have hz : a + m < l.length := ha
  have hsh := pow_small k hk9
  have HHi := Lib.hid (fun W hW => higher_any A l c _ _ W hn ht1 ht2 hW)
  have HRes := Lib.hid (show topN (nth l) a m = hiOf l (topN (nth l) a (2 ^ k - 1)) (topN (nth l) (a + m + 1 - 2 ^ k) (2 ^ k - 1)) from hcov)
  have HS := Lib.hid (fun g W (hf : ∀ k d, k < rs.length → Calls Try.prog 57 #[.int .i64 k, .pointer (some ⟨g, 0, none⟩)] (W.drewN d) fun e w' => e = .returned (.bool (decide (m + 1 < 2 ^ k))) ∧ ∃ m, w' = (W.drewN d).drewN m) => search1_any rs.length (k + 1) g (fun k => decide (m + 1 < 2 ^ k)) W (by omega) (by omega) (fun j hj => by
    have := (lev_iff (m + 1) j).1 (by omega)
    simpa using this) (fun j hj _ => by
    simp only [decide_eq_true_eq]
    rcases Nat.lt_or_ge (m + 1) (2 ^ j) with h | h
    · exact h
    · exact absurd ((lev_iff (m + 1) j).2 h) (by omega)) hf)
  have HL := Lib.hid hL
  have HC1 := Lib.hid (fun k g W hk hc => cl1_any k g (m + 1) W hk hc)
  clear hL hf hG hT hcov hrk hLr hcr hg1 hg2 t1 t2 hr hi1 hi2 hp2 hl9 hlen
  rw [HRes.out]
  clear HRes
  -- letters
  have hs1 : ((a + m : Nat) : Int) - (a : Int) = (m : Int) := by omega
  have hs2 : (m : Int) + 1 = ((m + 1 : Nat) : Int) := by omega
  have hs3 : ((k + 1 : Nat) : Int) - 1 = (k : Int) := by omega
  have hs4 : ((a + m : Nat) : Int) + 1 = ((a + m + 1 : Nat) : Int) := by omega
  have hs5 : ((a + m + 1 : Nat) : Int) - ((2 ^ k : Nat) : Int) = ((a + m + 1 - 2 ^ k : Nat) : Int) := by omega
  have hab : a ≤ a + m := by omega
  have hz1 : a + m + 1 ≤ 301 := by omega
  have hm1 : m + 1 ≤ 301 := by omega
  generalize hiOf l (topN (nth l) a (2 ^ k - 1)) (topN (nth l) (a + m + 1 - 2 ^ k) (2 ^ k - 1)) = y at *
  generalize topN (nth l) a (2 ^ k - 1) = x1 at *
  generalize topN (nth l) (a + m + 1 - 2 ^ k) (2 ^ k - 1) = x2 at *
  generalize a + m + 1 - 2 ^ k = j at *
  generalize 2 ^ k = p at *
  generalize a + m + 1 = z1 at *
  generalize a + m = z at *
  generalize m + 1 = q at *
  generalize hk1 : k + 1 = i at *
  generalize (spR l k).length = mr at *
  generalize l.length = n at *
  generalize rs.length = nr at *
  clear hk1 hk
  have hw1 : IntKind.i64.wrap (z1 : Int) = (z1 : Int) := by rw [IntKind.wrap_i64]; omega
  have hw2 : IntKind.i64.wrap (j : Int) = (j : Int) := by rw [IntKind.wrap_i64]; omega
  have hi1 : (a : Int) < (mr : Int) := by omega
  have hi2 : (j : Int) < (mr : Int) := by omega
  have hi3 : (k : Int) < (nr : Int) := by omega
  have hd1 : decide ((a : Int) < 0) = false := by simp
  have hd2 : decide (z < a) = false := by simp; omega
  have hd3 : decide (n ≤ z) = false := by simp; omega
  subst hA2
  rw [hAr] at hct
  go_enter Try.func34, Try.ntmps34
  go_wp2_with fail
  refine HI.out.mono ?_
  rintro e w1 ⟨rfl, hb1⟩
  have hc1 := bcell hb1
  have hv0 := (hc1 bt (ot + k) hbt).trans hct
  have hv1 := (hc1 br (or_ + a) hbr).trans hx1
  have hv2 := (hc1 br (or_ + j) hbr).trans hx2
  have hbt1 : bt < w1.heap.size := Nat.lt_of_lt_of_le hbt hb1.size
  have hbr1 : br < w1.heap.size := Nat.lt_of_lt_of_le hbr hb1.size
  have HL1 := Lib.hid (HL.out.on hb1)
  clear hct hx1 hx2 hc1
  go_wp2_with fail
  refine (HS.out w1.heap.size _ (fun k' d' hk' => HC1.out k' w1.heap.size _ (by omega) (((Blk.new w1 3 [.int .i64 q]).drewN d').cell 0))).mono ?_
  rintro e w2 ⟨rfl, d, rfl⟩
  have hu0 : ((w1.alloc (.cells #[.int .i64 q] 3)).drewN d).cell? ⟨bt, ot + k, none⟩ = some (.slice (some ⟨br, or_, none⟩) mr r.cap) := (World.cell?_alloc_lt w1 _ ⟨bt, ot + k, none⟩ hbt1).trans hv0
  have hu1 : ((w1.alloc (.cells #[.int .i64 q] 3)).drewN d).cell? ⟨br, or_ + a, none⟩ = some (.int .i64 x1) := (World.cell?_alloc_lt w1 _ ⟨br, or_ + a, none⟩ hbr1).trans hv1
  have hu2 : ((w1.alloc (.cells #[.int .i64 q] 3)).drewN d).cell? ⟨br, or_ + j, none⟩ = some (.int .i64 x2) := (World.cell?_alloc_lt w1 _ ⟨br, or_ + j, none⟩ hbr1).trans hv2
  have HB2 := Lib.hid (show Below w.heap.size w ((w1.alloc (.cells #[.int .i64 q] 3)).drewN d) from bdN (chain hb1 (bnew _ _)) d)
  have HL2 := Lib.hid ((HL1.out.alloc (.cells #[.int .i64 q] 3)).drewN d)
  have HH := Lib.hid (fun d' => HHi.out (((w1.alloc (.cells #[.int .i64 q] 3)).drewN d).drewN d') (HL2.out.drewN d'))
  clear hv0 hv1 hv2 hb1 hbt1 hbr1
  generalize (w1.alloc (.cells #[.int .i64 q] 3)).drewN d = W at *
  go_wp2_with fail
  go_quiet ((go_at_call 58; exact quietD1 HH))
  go_wp2_with fail
  go_ret2
  exact ⟨rfl, bdN HB2.out _⟩

theorem sparse_short {l : List Int} (hn : l.length ≤ 300) : ∀ r ∈ sparse l, r.length ≤ 300 := fun r hr => by
  obtain ⟨k, _, rfl⟩ := List.mem_map.1 hr
  rw [asInts_length, spR_length]
  have := Nat.two_pow_pos k
  omega


end Go.Proofs.Ytefgfkicacbmeaa
