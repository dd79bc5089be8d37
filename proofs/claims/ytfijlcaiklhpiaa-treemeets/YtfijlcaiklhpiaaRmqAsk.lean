/-
  What rmq.Top and the document's RmqTop return: contracts, walked over the translated text. No condition but what each theorem names.
-/
import Derived.Test.YtfijlcaiklhpiaaRmqTp
namespace Go.Proofs.Ytfijlcaiklhpiaa
open Go.RowKit Words

/-- What a call that returns a number and an error leaves. -/
def Answers (w : World) (x k : Int) (e : Ending) (w' : World) : Prop := e = .returned (.tuple #[.int .i64 x, .int .i64 k]) ∧ Below w.heap.size w w'

theorem sparse_get (l : List Int) (k : Nat) (h : k < lev l.length) : (sparse l)[k]? = some (asInts (spR l k)) := by
  unfold sparse
  rw [List.getElem?_map, List.getElem?_range h]
  rfl
theorem sparse_length (l : List Int) : (sparse l).length = lev l.length := by simp [sparse]
theorem lev_mono {n m : Nat} (h : n ≤ m) : lev n ≤ lev m := by
  rcases Nat.lt_or_ge (lev m) (lev n) with h1 | h1
  · have h2 := (lev_iff n _).1 h1
    exact absurd ((lev_iff m _).2 (by omega)) (Nat.lt_irrefl _)
  · exact h1

set_option maxHeartbeats 400000 in
/-- rmq.Top of what is no table. -/
theorem top_form (A : Option Addr) (n c : Nat) (A2 : Option Addr) (m c2 : Nat) (a b : Int) (w : World) (h : Calls Try.prog 23 #[.slice A n c, .slice A2 m c2] w fun e w' => e = .returned (.bool false) ∧ Below w.heap.size w w') :
    Calls Try.prog 12 #[.slice A n c, .slice A2 m c2, .int .i64 a, .int .i64 b] w (Answers w 0 4) := by
  have H := Lib.hid h
  clear h
  go_enter Try.func12, Try.ntmps12
  go_wp2_with fail
  refine H.out.mono ?_
  rintro e w1 ⟨rfl, hb1⟩
  go_wp2_with fail
  go_ret2
  exact ⟨rfl, hb1⟩

set_option maxHeartbeats 400000 in
/-- rmq.Top of a range that is none. -/
theorem top_range (A : Option Addr) (n c : Nat) (A2 : Option Addr) (m c2 : Nat) (a b : Int) (w : World) (h : Calls Try.prog 23 #[.slice A n c, .slice A2 m c2] w fun e w' => e = .returned (.bool true) ∧ Below w.heap.size w w') (hr : a < 0 ∨ b < a ∨ (n : Int) ≤ b) :
    Calls Try.prog 12 #[.slice A n c, .slice A2 m c2, .int .i64 a, .int .i64 b] w (Answers w 0 2) := by
  have H := Lib.hid h
  clear h
  have hc : a < 0 ∨ (decide (a < 0) = false ∧ b < a) ∨ (decide (a < 0) = false ∧ decide (b < a) = false ∧ (n : Int) ≤ b) := by
    by_cases h1 : a < 0
    · exact .inl h1
    · by_cases h2 : b < a
      · exact .inr (.inl ⟨by simpa using h1, h2⟩)
      · exact .inr (.inr ⟨by simpa using h1, by simpa using h2, by omega⟩)
  clear hr
  rcases hc with h1 | ⟨h1, h2⟩ | ⟨h1, h2, h3⟩
  all_goals
    go_enter Try.func12, Try.ntmps12
    go_wp2_with fail
    refine H.out.mono ?_
    rintro e w1 ⟨rfl, hb1⟩
    go_wp2_with fail
    go_ret2
    exact ⟨rfl, hb1⟩

set_option maxHeartbeats 2000000 in
/-- rmq.Top of a range. -/
theorem top_any (A : Option Addr) (l : List Int) (c : Nat) (A2 : Option Addr) (rs : List Row) (c2 a m : Nat) (w : World) (hn : l.length ≤ 300) (hL : Lies w w.heap.size A (l.map (.int .i64))) (hf : ∀ r ∈ rs, r.nums.length ≤ 17592186044416) (hG : Grid w w.heap.size A2 rs) (hT : tabOf rs = sparse l) (ha : a + m < l.length) :
    Calls Try.prog 12 #[.slice A l.length c, .slice A2 rs.length c2, .int .i64 a, .int .i64 (a + m : Nat)] w (Answers w (topN (nth l) a m : Nat) 0) := by
  have hlen : rs.length = lev l.length := by rw [← tabOf_length, hT, sparse_length]
  have hl9 := lev_small l.length _ hn (Nat.le_refl _)
  have HI := Lib.hid (isTable_any A l c A2 rs c2 w true hn hL (by omega) hf hG (by simp [hT]))
  -- the row
  have hi1 : 0 < lev (m + 1) := (lev_iff _ _).2 (by rw [Nat.pow_zero]; omega)
  have hi2 : lev (m + 1) ≤ lev l.length := lev_mono (by omega)
  obtain ⟨k, hk⟩ : ∃ k, lev (m + 1) = k + 1 := ⟨lev (m + 1) - 1, by omega⟩
  have hp1 : 2 ^ k ≤ m + 1 := (lev_iff _ _).1 (by omega)
  have hp2 : m + 1 < 2 ^ (k + 1) := by
    rcases Nat.lt_or_ge (m + 1) (2 ^ (k + 1)) with h | h
    · exact h
    · exact absurd ((lev_iff _ _).2 h) (by omega)
  have hcov := topN_cover (nth l) a m k (by omega) (by rw [Nat.pow_succ] at hp2; omega)
  obtain ⟨bt, ot, r, hA2, hbt, hrk, hct, hLr⟩ := hG.at_ (k := k) (by omega)
  have hr : r.nums = asInts (spR l k) := by
    have h1 := tabOf_get rs k r hrk
    rw [hT, sparse_get l k (by omega)] at h1
    exact (Option.some.inj h1).symm
  rw [hr] at hct hLr
  have hpp := Nat.two_pow_pos k
  obtain ⟨br, or_, hAr, hbr, hcr⟩ := nats_at hLr (by rw [spR_length]; omega)
  rw [asInts_length] at hct
  have hx1 := hcr a (by rw [spR_length]; omega)
  have hx2 := hcr (a + m + 1 - 2 ^ k) (by rw [spR_length]; omega)
  have hg1 : (spR l k).getD a 0 = topN (nth l) a (2 ^ k - 1) := by rw [List.getD, show (spR l k)[a]? = _ from spRow_get (nth l) l.length k a (by omega)]; rfl
  have hg2 : (spR l k).getD (a + m + 1 - 2 ^ k) 0 = topN (nth l) (a + m + 1 - 2 ^ k) (2 ^ k - 1) := by rw [List.getD, show (spR l k)[a + m + 1 - 2 ^ k]? = _ from spRow_get (nth l) l.length k _ (by omega)]; rfl
  rw [hg1] at hx1
  rw [hg2] at hx2
  have t1 := (topN_is (nth l) a (2 ^ k - 1)).hi
  have t2 := (topN_is (nth l) (a + m + 1 - 2 ^ k) (2 ^ k - 1)).hi
  have ht1 : topN (nth l) a (2 ^ k - 1) < l.length := by omega
  have ht2 : topN (nth l) (a + m + 1 - 2 ^ k) (2 ^ k - 1) < l.length := by omega
  have hal : a < (spR l k).length := by rw [spR_length]; omega
  have hjl : a + m + 1 - 2 ^ k < (spR l k).length := by rw [spR_length]; omega
  have hml : (spR l k).length ≤ 300 := by rw [spR_length]; omega
  have hk9 : k ≤ 9 := by omega
  have hkr : k < rs.length := by omega
  have hmr : lev (m + 1) ≤ rs.length := by omega
  have hrs9 : rs.length ≤ 9 := by omega
  have hz : a + m < l.length := ha
  have hsh := pow_small k hk9
  have HHi := Lib.hid (fun W hW => higher_any A l c _ _ W hn ht1 ht2 hW)
  have HRes := Lib.hid (show topN (nth l) a m = hiOf l (topN (nth l) a (2 ^ k - 1)) (topN (nth l) (a + m + 1 - 2 ^ k) (2 ^ k - 1)) from hcov)
  have HS := Lib.hid (fun g W (hf : ∀ k d, k < rs.length → Calls Try.prog 25 #[.int .i64 k, .pointer (some ⟨g, 0, none⟩)] (W.drewN d) fun e w' => e = .returned (.bool (decide (m + 1 < 2 ^ k))) ∧ ∃ m, w' = (W.drewN d).drewN m) => search1_any rs.length (k + 1) g (fun k => decide (m + 1 < 2 ^ k)) W (by omega) (by omega) (fun j hj => by
    have := (lev_iff (m + 1) j).1 (by omega)
    simpa using this) (fun j hj _ => by
    simp only [decide_eq_true_eq]
    rcases Nat.lt_or_ge (m + 1) (2 ^ j) with h | h
    · exact h
    · exact absurd ((lev_iff (m + 1) j).2 h) (by omega)) hf)
  have HL := Lib.hid hL
  have HC1 := Lib.hid (fun k g W hk hc => cl1_any k g (m + 1) W hk hc)
  clear hL hf hG hT hcov hrk hLr hcr hg1 hg2 t1 t2 hr hi1 hi2 hp2 hl9 hlen
  rw [HRes.out]
  clear HRes
  -- letters
  have hs1 : ((a + m : Nat) : Int) - (a : Int) = (m : Int) := by omega
  have hs2 : (m : Int) + 1 = ((m + 1 : Nat) : Int) := by omega
  have hs3 : ((k + 1 : Nat) : Int) - 1 = (k : Int) := by omega
  have hs4 : ((a + m : Nat) : Int) + 1 = ((a + m + 1 : Nat) : Int) := by omega
  have hs5 : ((a + m + 1 : Nat) : Int) - ((2 ^ k : Nat) : Int) = ((a + m + 1 - 2 ^ k : Nat) : Int) := by omega
  have hab : a ≤ a + m := by omega
  have hz1 : a + m + 1 ≤ 301 := by omega
  have hm1 : m + 1 ≤ 301 := by omega
  generalize hiOf l (topN (nth l) a (2 ^ k - 1)) (topN (nth l) (a + m + 1 - 2 ^ k) (2 ^ k - 1)) = y at *
  generalize topN (nth l) a (2 ^ k - 1) = x1 at *
  generalize topN (nth l) (a + m + 1 - 2 ^ k) (2 ^ k - 1) = x2 at *
  generalize a + m + 1 - 2 ^ k = j at *
  generalize 2 ^ k = p at *
  generalize a + m + 1 = z1 at *
  generalize a + m = z at *
  generalize m + 1 = q at *
  generalize hk1 : k + 1 = i at *
  generalize (spR l k).length = mr at *
  generalize l.length = n at *
  generalize rs.length = nr at *
  clear hk1 hk
  have hw1 : IntKind.i64.wrap (z1 : Int) = (z1 : Int) := by rw [IntKind.wrap_i64]; omega
  have hw2 : IntKind.i64.wrap (j : Int) = (j : Int) := by rw [IntKind.wrap_i64]; omega
  have hi1 : (a : Int) < (mr : Int) := by omega
  have hi2 : (j : Int) < (mr : Int) := by omega
  have hi3 : (k : Int) < (nr : Int) := by omega
  have hd1 : decide ((a : Int) < 0) = false := by simp
  have hd2 : decide (z < a) = false := by simp; omega
  have hd3 : decide (n ≤ z) = false := by simp; omega
  subst hA2
  rw [hAr] at hct
  go_enter Try.func12, Try.ntmps12
  go_wp2_with fail
  refine HI.out.mono ?_
  rintro e w1 ⟨rfl, hb1⟩
  have hc1 := bcell hb1
  have hv0 := (hc1 bt (ot + k) hbt).trans hct
  have hv1 := (hc1 br (or_ + a) hbr).trans hx1
  have hv2 := (hc1 br (or_ + j) hbr).trans hx2
  have hbt1 : bt < w1.heap.size := Nat.lt_of_lt_of_le hbt hb1.size
  have hbr1 : br < w1.heap.size := Nat.lt_of_lt_of_le hbr hb1.size
  have HL1 := Lib.hid (HL.out.on hb1)
  clear hct hx1 hx2 hc1
  go_wp2_with fail
  refine (HS.out w1.heap.size _ (fun k' d' hk' => HC1.out k' w1.heap.size _ (by omega) (((Blk.new w1 3 [.int .i64 q]).drewN d').cell 0))).mono ?_
  rintro e w2 ⟨rfl, d, rfl⟩
  have hu0 : ((w1.alloc (.cells #[.int .i64 q] 3)).drewN d).cell? ⟨bt, ot + k, none⟩ = some (.slice (some ⟨br, or_, none⟩) mr r.cap) := (World.cell?_alloc_lt w1 _ ⟨bt, ot + k, none⟩ hbt1).trans hv0
  have hu1 : ((w1.alloc (.cells #[.int .i64 q] 3)).drewN d).cell? ⟨br, or_ + a, none⟩ = some (.int .i64 x1) := (World.cell?_alloc_lt w1 _ ⟨br, or_ + a, none⟩ hbr1).trans hv1
  have hu2 : ((w1.alloc (.cells #[.int .i64 q] 3)).drewN d).cell? ⟨br, or_ + j, none⟩ = some (.int .i64 x2) := (World.cell?_alloc_lt w1 _ ⟨br, or_ + j, none⟩ hbr1).trans hv2
  have HB2 := Lib.hid (show Below w.heap.size w ((w1.alloc (.cells #[.int .i64 q] 3)).drewN d) from bdN (chain hb1 (bnew _ _)) d)
  have HL2 := Lib.hid ((HL1.out.alloc (.cells #[.int .i64 q] 3)).drewN d)
  have HH := Lib.hid (fun d' => HHi.out (((w1.alloc (.cells #[.int .i64 q] 3)).drewN d).drewN d') (HL2.out.drewN d'))
  clear hv0 hv1 hv2 hb1 hbt1 hbr1
  generalize (w1.alloc (.cells #[.int .i64 q] 3)).drewN d = W at *
  go_wp2_with fail
  go_quiet ((go_at_call 26; exact quietD1 HH))
  go_wp2_with fail
  go_ret2
  exact ⟨rfl, bdN HB2.out _⟩

theorem sparse_short {l : List Int} (hn : l.length ≤ 300) : ∀ r ∈ sparse l, r.length ≤ 300 := fun r hr => by
  obtain ⟨k, _, rfl⟩ := List.mem_map.1 hr
  rw [asInts_length, spR_length]
  have := Nat.two_pow_pos k
  omega

set_option maxHeartbeats 400000 in
/-- The document's RmqTop of a list that is too long. -/
theorem rtop_size (A : Option Addr) (n c : Nat) (A2 : Option Addr) (m c2 : Nat) (a b : Int) (w : World) (hn : 300 < n) (hb : n ≤ 17592186044416) :
    Calls Try.prog 13 #[.slice A n c, .slice A2 m c2, .int .i64 a, .int .i64 b] w (Answers w 0 4) := by
  have HM := Lib.hid (fun W => rrmake_size A n c W hn hb)
  go_enter Try.func13, Try.ntmps13
  go_wp2_with fail
  refine (HM.out _).mono ?_
  rintro e w1 ⟨rfl, hb1⟩
  go_wp2_with fail
  go_ret2
  exact ⟨rfl, hb1⟩

set_option maxHeartbeats 2000000 in
/-- The document's RmqTop of a range that is none. -/
theorem rtop_range (A : Option Addr) (l : List Int) (c : Nat) (A2 : Option Addr) (rs : List Row) (c2 : Nat) (a b : Int) (w : World) (hn : l.length ≤ 300) (hL : Lies w w.heap.size A (l.map (.int .i64))) (hG : Grid w w.heap.size A2 rs) (hT : tabOf rs = sparse l) (hr : a < 0 ∨ b < a ∨ (l.length : Int) ≤ b) :
    Calls Try.prog 13 #[.slice A l.length c, .slice A2 rs.length c2, .int .i64 a, .int .i64 b] w (Answers w 0 2) := by
  have HM := Lib.hid (fun W hL => rrmake_any A l c W hn hL)
  have HL := Lib.hid hL
  have HG := Lib.hid hG
  have HT := Lib.hid hT
  have hl9 : rs.length ≤ 9 := by rw [← tabOf_length, hT, sparse_length]; exact lev_small l.length _ hn (Nat.le_refl _)
  have HRL := Lib.hid (sparse_short hn)
  clear hL hG hT
  generalize sparse l = T at *
  generalize l.length = n at *
  have hc : a < 0 ∨ (decide (a < 0) = false ∧ b < a) ∨ (decide (a < 0) = false ∧ decide (b < a) = false ∧ (n : Int) ≤ b) := by
    by_cases h1 : a < 0
    · exact .inl h1
    · by_cases h2 : b < a
      · exact .inr (.inl ⟨by simpa using h1, h2⟩)
      · exact .inr (.inr ⟨by simpa using h1, by simpa using h2, by omega⟩)
  clear hr
  have HC := Lib.hid hc
  clear hc
  go_enter Try.func13, Try.ntmps13
  go_wp2_with fail
  refine (HM.out _ HL.out).mono ?_
  rintro e w1 ⟨A3, qs, c3, rfl, hG3, hT3, _, hb1⟩
  have hlq : qs.length = rs.length := by rw [← tabOf_length, ← tabOf_length, hT3, HT.out]
  have HG3 := Lib.hid hG3
  have HT3 := Lib.hid hT3
  have HG1 := Lib.hid (HG.out.on hb1)
  have HL1 := Lib.hid (HL.out.on hb1)
  clear hG3 hT3
  rw [hlq]
  have HLQ := Lib.hid hlq
  clear hlq
  generalize hmm : rs.length = m at *
  have HMM := Lib.hid hmm
  clear hmm
  have hne : ((m : Int) != (m : Int)) = false := by simp
  go_wp2_with fail
  go_loopw [30] (fun v w' => ∃ i d : Nat, i ≤ m ∧ v = .int .i64 i ∧ w' = w1.drewN d) (fun v _ => m - (intOf v).toNat)
  case atStart => exact ⟨0, 0, Nat.zero_le _, rfl, rfl⟩
  case round =>
    obtain ⟨i, d, hi, rfl, rfl⟩ := hrel
    by_cases hlt : i < m
    · obtain ⟨b, o, x, rfl, hb, hx, hc, hLx⟩ := HG1.out.at_ (k := i) (by rw [HMM.out]; exact hlt)
      obtain ⟨b2, o2, x2, rfl, hb2', hx2, hc2, hLx2⟩ := HG3.out.at_ (k := i) (by rw [HLQ.out]; exact hlt)
      have g1 := tabOf_get rs i x hx
      have g2 := tabOf_get qs i x2 hx2
      rw [HT.out] at g1
      rw [HT3.out] at g2
      have hxx : x.nums = x2.nums := Option.some.inj (g1.symm.trans g2)
      have hxl := HRL.out _ (List.mem_of_getElem? g1)
      rw [← hxx] at hLx2 hc2
      have HLx := Lib.hid hLx
      have HLx2 := Lib.hid hLx2
      clear g1 g2 hxx hx hx2 hLx hLx2
      have him : (i : Int) < (m : Int) := by omega
      generalize hqq : x.nums.length = q at *
      have HQ := Lib.hid hqq
      clear hqq
      have hne2 : ((q : Int) != (q : Int)) = false := by simp
      generalize hax : x.adr = ax at *
      generalize hax2 : x2.adr = ax2 at *
      clear hax hax2
      go_wp2_with fail
      go_quiet (fail)
      go_wp2_with fail
      go_loopw [49] (fun v w' => ∃ j d : Nat, j ≤ q ∧ v = .int .i64 j ∧ w' = w1.drewN d) (fun v _ => q - (intOf v).toNat)
      case atStart => exact ⟨0, _, Nat.zero_le _, rfl, by first | rfl | (simp only [World.drewN_drewN]; rfl)⟩
      case round =>
        obtain ⟨j, d, hj, rfl, rfl⟩ := hrel
        by_cases hjq : j < q
        · obtain ⟨b3, o3, y, rfl, hb3, hy, hc3⟩ := HLx.out.at_ (k := j) (by rw [HQ.out]; exact hjq)
          obtain ⟨b4, o4, y2, rfl, hb4, hy2, hc4⟩ := HLx2.out.at_ (k := j) (by rw [HQ.out]; exact hjq)
          rw [hy] at hy2
          obtain rfl := Option.some.inj hy2
          clear hy hy2
          have hne3 : (y != y) = false := by simp
          have hjm : (j : Int) < (q : Int) := by omega
          go_wp2_with fail
          go_quiet (fail)
          go_wp2_with fail
          go_roundw
          case rel => exact ⟨j + 1, _, by omega, by go_num, by first | rfl | (simp only [World.drewN_drewN]; rfl)⟩
          case measure => simp [intOf]; omega
        · go_wp2_with fail
          go_roundw
          case rel => exact ⟨i + 1, _, by omega, by go_num, rfl⟩
          case measure => simp [intOf]; omega
    · rcases HC.out with h1 | ⟨h1, h2⟩ | ⟨h1, h2, h3⟩
      all_goals
        go_wp2_with fail
        go_ret2
        exact ⟨rfl, bdN hb1 _⟩

set_option maxHeartbeats 2000000 in
/-- The document's RmqTop of a range. -/
theorem rtop_any (A : Option Addr) (l : List Int) (c : Nat) (A2 : Option Addr) (rs : List Row) (c2 a m0 : Nat) (w : World) (hn : l.length ≤ 300) (hL : Lies w w.heap.size A (l.map (.int .i64))) (hG : Grid w w.heap.size A2 rs) (hT : tabOf rs = sparse l) (ha : a + m0 < l.length) :
    Calls Try.prog 13 #[.slice A l.length c, .slice A2 rs.length c2, .int .i64 a, .int .i64 (a + m0 : Nat)] w (Answers w (topN (nth l) a m0 : Nat) 0) := by
  have HTop := Lib.hid (fun W hW => topOf_any A l c a m0 W hn ha hW)
  have HM := Lib.hid (fun W hL => rrmake_any A l c W hn hL)
  have HL := Lib.hid hL
  have HG := Lib.hid hG
  have HT := Lib.hid hT
  have hl9 : rs.length ≤ 9 := by rw [← tabOf_length, hT, sparse_length]; exact lev_small l.length _ hn (Nat.le_refl _)
  have HRL := Lib.hid (sparse_short hn)
  clear hL hG hT
  generalize sparse l = T at *
  generalize topN (nth l) a m0 = y at *
  have hd1 : decide ((a : Int) < 0) = false := by simp
  have hd2 : decide (a + m0 < a) = false := by simp
  have hd3 : decide (l.length ≤ a + m0) = false := by simp; omega
  generalize a + m0 = z at *
  generalize l.length = n at *
  go_enter Try.func13, Try.ntmps13
  go_wp2_with fail
  refine (HM.out _ HL.out).mono ?_
  rintro e w1 ⟨A3, qs, c3, rfl, hG3, hT3, _, hb1⟩
  have hlq : qs.length = rs.length := by rw [← tabOf_length, ← tabOf_length, hT3, HT.out]
  have HG3 := Lib.hid hG3
  have HT3 := Lib.hid hT3
  have HG1 := Lib.hid (HG.out.on hb1)
  have HL1 := Lib.hid (HL.out.on hb1)
  clear hG3 hT3
  rw [hlq]
  have HLQ := Lib.hid hlq
  clear hlq
  generalize hmm : rs.length = m at *
  have HMM := Lib.hid hmm
  clear hmm
  have hne : ((m : Int) != (m : Int)) = false := by simp
  go_wp2_with fail
  go_loopw [30] (fun v w' => ∃ i d : Nat, i ≤ m ∧ v = .int .i64 i ∧ w' = w1.drewN d) (fun v _ => m - (intOf v).toNat)
  case atStart => exact ⟨0, 0, Nat.zero_le _, rfl, rfl⟩
  case round =>
    obtain ⟨i, d, hi, rfl, rfl⟩ := hrel
    by_cases hlt : i < m
    · obtain ⟨b, o, x, rfl, hb, hx, hc, hLx⟩ := HG1.out.at_ (k := i) (by rw [HMM.out]; exact hlt)
      obtain ⟨b2, o2, x2, rfl, hb2', hx2, hc2, hLx2⟩ := HG3.out.at_ (k := i) (by rw [HLQ.out]; exact hlt)
      have g1 := tabOf_get rs i x hx
      have g2 := tabOf_get qs i x2 hx2
      rw [HT.out] at g1
      rw [HT3.out] at g2
      have hxx : x.nums = x2.nums := Option.some.inj (g1.symm.trans g2)
      have hxl := HRL.out _ (List.mem_of_getElem? g1)
      rw [← hxx] at hLx2 hc2
      have HLx := Lib.hid hLx
      have HLx2 := Lib.hid hLx2
      clear g1 g2 hxx hx hx2 hLx hLx2
      have him : (i : Int) < (m : Int) := by omega
      generalize hqq : x.nums.length = q at *
      have HQ := Lib.hid hqq
      clear hqq
      have hne2 : ((q : Int) != (q : Int)) = false := by simp
      generalize hax : x.adr = ax at *
      generalize hax2 : x2.adr = ax2 at *
      clear hax hax2
      go_wp2_with fail
      go_quiet (fail)
      go_wp2_with fail
      go_loopw [49] (fun v w' => ∃ j d : Nat, j ≤ q ∧ v = .int .i64 j ∧ w' = w1.drewN d) (fun v _ => q - (intOf v).toNat)
      case atStart => exact ⟨0, _, Nat.zero_le _, rfl, by first | rfl | (simp only [World.drewN_drewN]; rfl)⟩
      case round =>
        obtain ⟨j, d, hj, rfl, rfl⟩ := hrel
        by_cases hjq : j < q
        · obtain ⟨b3, o3, y, rfl, hb3, hy, hc3⟩ := HLx.out.at_ (k := j) (by rw [HQ.out]; exact hjq)
          obtain ⟨b4, o4, y2, rfl, hb4, hy2, hc4⟩ := HLx2.out.at_ (k := j) (by rw [HQ.out]; exact hjq)
          rw [hy] at hy2
          obtain rfl := Option.some.inj hy2
          clear hy hy2
          have hne3 : (y != y) = false := by simp
          have hjm : (j : Int) < (q : Int) := by omega
          go_wp2_with fail
          go_quiet (fail)
          go_wp2_with fail
          go_roundw
          case rel => exact ⟨j + 1, _, by omega, by go_num, by first | rfl | (simp only [World.drewN_drewN]; rfl)⟩
          case measure => simp [intOf]; omega
        · go_wp2_with fail
          go_roundw
          case rel => exact ⟨i + 1, _, by omega, by go_num, rfl⟩
          case measure => simp [intOf]; omega
    · go_wp2_with fail
      refine (HTop.out _ (HL1.out.drewN d)).mono ?_
      rintro e w2 ⟨rfl, d2, rfl⟩
      go_wp2_with fail
      go_ret2
      exact ⟨rfl, bdN hb1 _⟩

set_option maxHeartbeats 2000000 in
/-- The document's RmqTop of what is no table. -/
theorem rtop_form (A : Option Addr) (l : List Int) (c : Nat) (A2 : Option Addr) (rs : List Row) (c2 : Nat) (a b : Int) (w : World) (hn : l.length ≤ 300) (hL : Lies w w.heap.size A (l.map (.int .i64))) (hm : rs.length ≤ 17592186044416) (hf : ∀ r ∈ rs, r.nums.length ≤ 17592186044416) (hG : Grid w w.heap.size A2 rs) (hT : tabOf rs ≠ sparse l) :
    Calls Try.prog 13 #[.slice A l.length c, .slice A2 rs.length c2, .int .i64 a, .int .i64 b] w (Answers w 0 4) := by
  have HM := Lib.hid (fun W hL => rrmake_any A l c W hn hL)
  have HL := Lib.hid hL
  have HG := Lib.hid hG
  have HT := Lib.hid hT
  have HF := Lib.hid hf
  have hl9 : (sparse l).length ≤ 9 := by rw [sparse_length]; exact lev_small l.length _ hn (Nat.le_refl _)
  clear hL hG hT hf
  generalize sparse l = T at *
  generalize l.length = n at *
  go_enter Try.func13, Try.ntmps13
  go_wp2_with fail
  refine (HM.out _ HL.out).mono ?_
  rintro e w1 ⟨A3, qs, c3, rfl, hG3, hT3, _, hb1⟩
  have hq9 : qs.length ≤ 9 := by rw [← tabOf_length, hT3]; exact hl9
  have HG3 := Lib.hid hG3
  have HT3 := Lib.hid (show tabOf rs ≠ tabOf qs by rw [hT3]; exact HT.out)
  have HG1 := Lib.hid (HG.out.on hb1)
  clear hG3 hT3
  by_cases hlq : rs.length = qs.length
  · rw [← hlq]
    have HLQ := Lib.hid hlq
    clear hlq
    generalize hmm : rs.length = m at *
    have HMM := Lib.hid hmm
    clear hmm
    have hne : ((m : Int) != (m : Int)) = false := by simp
    go_wp2_with fail
    go_loopw [30] (fun v w' => ∃ i d : Nat, i ≤ m ∧ v = .int .i64 i ∧ w' = w1.drewN d ∧ ∀ j, j < i → (tabOf rs)[j]? = (tabOf qs)[j]?) (fun v _ => m - (intOf v).toNat)
    case atStart => exact ⟨0, 0, Nat.zero_le _, rfl, rfl, fun j h => by omega⟩
    case round =>
      obtain ⟨i, d, hi, rfl, rfl, hz⟩ := hrel
      have HZ := Lib.hid hz
      clear hz
      by_cases hlt : i < m
      · obtain ⟨b, o, x, rfl, hb, hx, hc, hLx⟩ := HG1.out.at_ (k := i) (by rw [HMM.out]; exact hlt)
        obtain ⟨b2, o2, x2, rfl, hb2', hx2, hc2, hLx2⟩ := HG3.out.at_ (k := i) (by rw [← HLQ.out]; exact hlt)
        have HX1 := Lib.hid (tabOf_get rs i x hx)
        have HX2 := Lib.hid (tabOf_get qs i x2 hx2)
        have hxl := HF.out x (List.mem_of_getElem? hx)
        have HLx := Lib.hid hLx
        have HLx2 := Lib.hid hLx2
        clear hx hx2 hLx hLx2
        have him : (i : Int) < (m : Int) := by omega
        generalize hax : x.adr = ax at *
        generalize hax2 : x2.adr = ax2 at *
        clear hax hax2
        by_cases hll : x.nums.length = x2.nums.length
        · rw [← hll] at hc2
          have HLL := Lib.hid hll
          clear hll
          generalize hqq : x.nums.length = q at *
          have HQ := Lib.hid hqq
          clear hqq
          have hne2 : ((q : Int) != (q : Int)) = false := by simp
          go_wp2_with fail
          go_quiet (fail)
          go_wp2_with fail
          go_loopw [49] (fun v w' => ∃ j d : Nat, j ≤ q ∧ v = .int .i64 j ∧ w' = w1.drewN d ∧ ∀ j', j' < j → x.nums[j']? = x2.nums[j']?) (fun v _ => q - (intOf v).toNat)
          case atStart => exact ⟨0, _, Nat.zero_le _, rfl, by first | rfl | (simp only [World.drewN_drewN]; rfl), fun j h => by omega⟩
          case round =>
            obtain ⟨j, d, hj, rfl, rfl, hz⟩ := hrel
            have HZ2 := Lib.hid hz
            clear hz
            by_cases hjq : j < q
            · obtain ⟨b3, o3, y, rfl, hb3, hy, hc3⟩ := HLx.out.at_ (k := j) (by rw [HQ.out]; exact hjq)
              obtain ⟨b4, o4, y2, rfl, hb4, hy2, hc4⟩ := HLx2.out.at_ (k := j) (by rw [← HLL.out]; exact hjq)
              have hjm : (j : Int) < (q : Int) := by omega
              by_cases hyy : y = y2
              · subst hyy
                have HY := Lib.hid (hy.trans hy2.symm)
                clear hy hy2
                have hne3 : (y != y) = false := by simp
                go_wp2_with fail
                go_quiet (fail)
                go_wp2_with fail
                go_roundw
                case rel => exact ⟨j + 1, _, by omega, by go_num, by first | rfl | (simp only [World.drewN_drewN]; rfl), fun j' hj' => by
                  by_cases e : j' = j
                  · rw [e]; exact HY.out
                  · exact HZ2.out j' (by omega)⟩
                case measure => simp [intOf]; omega
              · have hne3 : (y != y2) = true := by simpa using hyy
                clear hy hy2 hyy
                go_wp2_with fail
                go_quiet (fail)
                go_wp2_with fail
                go_ret2
                exact ⟨rfl, by first | exact bdN hb1 _ | exact bdN (bdN hb1 _) _⟩
            · obtain rfl : j = q := by omega
              have HY := Lib.hid (show (tabOf rs)[i]? = (tabOf qs)[i]? by
                rw [HX1.out, HX2.out]
                congr 1
                exact List.ext_getElem? fun j' => by
                  by_cases hj' : j' < j
                  · exact HZ2.out j' hj'
                  · rw [List.getElem?_eq_none (by rw [HQ.out]; omega), List.getElem?_eq_none (by rw [← HLL.out]; omega)])
              go_wp2_with fail
              go_roundw
              case rel => exact ⟨i + 1, _, by omega, by go_num, rfl, fun j' hj' => by
                by_cases e : j' = i
                · rw [e]; exact HY.out
                · exact HZ.out j' (by omega)⟩
              case measure => simp [intOf]; omega
        · have hne2 : ((x.nums.length : Int) != (x2.nums.length : Int)) = true := by simp; omega
          clear hll
          generalize x.nums.length = q at *
          generalize x2.nums.length = q2 at *
          go_wp2_with fail
          go_quiet (fail)
          go_wp2_with fail
          go_ret2
          exact ⟨rfl, by first | exact bdN hb1 _ | exact bdN (bdN hb1 _) _⟩
      · obtain rfl : i = m := by omega
        exact absurd (List.ext_getElem? fun j => by
          by_cases hj : j < i
          · exact HZ.out j hj
          · rw [List.getElem?_eq_none (by rw [tabOf_length, HMM.out]; omega), List.getElem?_eq_none (by rw [tabOf_length, ← HLQ.out]; omega)]) HT3.out
  · have hne : ((rs.length : Int) != (qs.length : Int)) = true := by simp; omega
    clear hlq
    generalize rs.length = q at *
    generalize qs.length = q2 at *
    go_wp2_with fail
    go_ret2
    exact ⟨rfl, hb1⟩
end Go.Proofs.Ytfijlcaiklhpiaa
