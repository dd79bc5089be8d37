/-
  What wave.compare returns: contracts, walked over the translated text. No condition but what each theorem names.
-/
import Derived.Test.YtefgfkicacbmeaaWavMy
namespace Go.Proofs.Ytefgfkicacbmeaa
open Go.RowKit Words

theorem mod_step (y q : Nat) : y % 2 ^ (q + 1) = (y.testBit q).toNat * 2 ^ q + y % 2 ^ q := by
  rw [Nat.pow_succ, Nat.mod_mul, Nat.toNat_testBit, Nat.mul_comm, Nat.add_comm]
theorem less_zero_step (n : Nat) (b : Nat → Bool) (bs : List (Nat → Bool)) (y q f t : Nat) (hq : bs.length = q) (h : y.testBit q = false) :
    less n (b :: bs) (y % 2 ^ (q + 1)) f t = less n bs (y % 2 ^ q) (f - tally b f) (t - tally b t) ∧ same n (b :: bs) (y % 2 ^ (q + 1)) f t = same n bs (y % 2 ^ q) (f - tally b f) (t - tally b t) := by
  have hl : y % 2 ^ q < 2 ^ bs.length := by rw [hq]; exact Nat.mod_lt _ (Nat.two_pow_pos q)
  rw [mod_step, h]
  simp only [Bool.toNat_false, Nat.zero_mul, Nat.zero_add]
  exact ⟨less_zero_digit n b bs _ hl f t, same_zero_digit n b bs _ hl f t⟩
theorem less_one_step (n : Nat) (b : Nat → Bool) (bs : List (Nat → Bool)) (y q f t : Nat) (hq : bs.length = q) (h : y.testBit q = true) :
    less n (b :: bs) (y % 2 ^ (q + 1)) f t = ((t - tally b t : Nat) : Int) - ((f - tally b f : Nat) : Int) + less n bs (y % 2 ^ q) (zr n b + tally b f) (zr n b + tally b t) ∧ same n (b :: bs) (y % 2 ^ (q + 1)) f t = same n bs (y % 2 ^ q) (zr n b + tally b f) (zr n b + tally b t) := by
  rw [mod_step, h]
  simp only [Bool.toNat_true, Nat.one_mul]
  rw [← hq]
  exact ⟨less_one_digit n b bs _ f t, same_one_digit n b bs _ f t⟩

/-- What compare keeps between its rounds: a: how many are known to be less; f, t: the range in the level i. -/
structure CmAt (w : World) (n k : Nat) (A : Option Addr) (vs : List Lev) (c y : Nat) (LS EQ : Int) (i a f t : Nat) (W : World) : Prop where
  lvl : Blk W w.heap.size 25 [.slice A k c]
  prt : Blk W (w.heap.size + 1) 77 [.int .i64 f, .int .i64 t]
  bel : Below w.heap.size w W
  ft : f ≤ t
  tn : t ≤ n
  ls : LS = (a : Int) + less n ((fns vs).drop i) (y % 2 ^ (k - i)) f t
  eq : EQ = same n ((fns vs).drop i) (y % 2 ^ (k - i)) f t

theorem CmAt.small {w : World} {n k : Nat} {A : Option Addr} {vs : List Lev} {c y : Nat} {LS EQ : Int} {i a f t : Nat} {W : World} (h : CmAt w n k A vs c y LS EQ i a f t W) (hL : LS ≤ n) : a ≤ n := by
  have := h.ls
  have := less_nonneg n ((fns vs).drop i) (y % 2 ^ (k - i)) f t h.ft
  omega

set_option maxHeartbeats 4000000 in
/-- wave.compare of a number that fits into the levels. -/
theorem wcmp_in (n : Nat) (A : Option Addr) (vs : List Lev) (c f t y : Nat) (w : World) (hV : WV n vs) (hM : Mat w w.heap.size A vs) (hft : f ≤ t) (htn : t ≤ n) (hy : y < 2 ^ vs.length) :
    Calls Try.prog 50 #[.agg #[.slice A vs.length c], .agg #[.int .i64 f, .int .i64 t], .int .i64 y] w fun e w' =>
      e = .returned (.tuple #[.int .i64 (less n (fns vs) y f t), .int .i64 (same n (fns vs) y f t)]) ∧ Below w.heap.size w w' := by
  have hk := hV.few
  have hn := hV.hi
  have hLn := less_le n (fns vs) y f t hft
  have hy63 : y < 9223372036854775808 := Nat.lt_of_lt_of_le hy (Nat.le_trans (Nat.pow_le_pow_right (n := 2) (j := 21) (by decide) hk) (by decide))
  have HF := Lib.hid (fits_any y vs.length · hk true (by simpa using hy))
  have HE := Lib.hid hV.each
  have HM := Lib.hid hM
  have hst : ∀ W, Blk W w.heap.size 25 [.slice A vs.length c] → Blk W (w.heap.size + 1) 77 [.int .i64 f, .int .i64 t] → Below w.heap.size w W → CmAt w n vs.length A vs c y (less n (fns vs) y f t) (same n (fns vs) y f t) 0 0 f t W := fun W h1 h2 h3 =>
    ⟨h1, h2, h3, hft, htn, by rw [List.drop_zero, Nat.sub_zero, Nat.mod_eq_of_lt hy]; omega, by rw [List.drop_zero, Nat.sub_zero, Nat.mod_eq_of_lt hy]⟩
  have HST := Lib.hid hst
  have hd : decide ((y : Int) < 0) = false := by simp
  have hfl := fns_length vs
  clear hst hM hV hy
  have hLS : less n (fns vs) y f t ≤ n := by omega
  clear hLn
  generalize less n (fns vs) y f t = LS at *
  generalize same n (fns vs) y f t = EQ at *
  generalize hkk : vs.length = k at *
  have HK := Lib.hid hkk
  have HFL := Lib.hid hfl
  clear hkk hfl
  go_enter Try.func50, Try.ntmps50
  go_wp2_with (go_at_call 38; refine (HF.out _).mono ?_; rintro e w1 ⟨rfl, rfl⟩)
  have hB1 := (Blk.new w 25 [.slice A k c]).alloc (.cells #[.int .i64 f, .int .i64 t] 77)
  have hB2 := Blk.new (w.alloc (.cells #[.slice A k c] 25)) 77 [.int .i64 f, .int .i64 t]
  rw [World.size_alloc] at hB2
  have H0 := Lib.hid (HST.out _ hB1 hB2 (chain (bnew _ _) (bnew _ _)))
  clear hB1 hB2 HST
  generalize (w.alloc (.cells #[.slice A k c] 25)).alloc (.cells #[.int .i64 f, .int .i64 t] 77) = w0 at *
  go_loopw [6, 25] (fun s r w' => ∃ i a f' t' : Nat, i ≤ k ∧ r = .int .i64 i ∧ s = .int .i64 a ∧ CmAt w n k A vs c y LS EQ i a f' t' w') (fun _ r _ => k - (intOf r).toNat)
  case atStart => exact ⟨0, 0, f, t, Nat.zero_le _, rfl, rfl, H0.out⟩
  case round =>
    obtain ⟨i, a, f', t', hi, rfl, rfl, hat⟩ := hrel
    have hab := hat.small hLS
    have hft' := hat.ft
    have htn' := hat.tn
    have hs1 := hat.lvl.lt
    have hs2 := hat.prt.lt
    have q0 : wr.cell? ⟨w.heap.size, 0, none⟩ = some (.slice A k c) := hat.lvl.cell 0
    have q1 : wr.cell? ⟨w.heap.size + 1, 0, none⟩ = some (.int .i64 f') := hat.prt.cell 0
    have q2 : wr.cell? ⟨w.heap.size + 1, 1, none⟩ = some (.int .i64 t') := hat.prt.cell 1
    have HAT := Lib.hid hat
    clear hat
    by_cases hlt : i < k
    · obtain ⟨b, p, v, rfl, hb, hv, hc0, hc1, hWv⟩ := (HM.out.on HAT.out.bel).at_ (i := i) (by rw [HK.out]; exact hlt)
      obtain ⟨hvn, hVv⟩ := HE.out v (List.mem_of_getElem? hv)
      have hdrop := fns_drop vs i v hv
      rw [hvn] at hc0
      obtain ⟨q, hq⟩ : ∃ q, k = i + 1 + q := ⟨k - (i + 1), by omega⟩
      have hqi : (k : Int) - 1 - (i : Int) = (q : Nat) := by omega
      have hql : ((fns vs).drop (i + 1)).length = q := by rw [List.length_drop, HFL.out]; omega
      have HQ := Lib.hid (show k - i = q + 1 by omega)
      have HQ1 := Lib.hid (show k - (i + 1) = q by omega)
      have hq21 : q ≤ 21 := by omega
      have HD := Lib.hid (digit_any y q · hy63 (by omega))
      have HSp := Lib.hid (fun W hW => split_any n f' t' v.adr v.ws v.cap W hVv hW (by omega) htn')
      have hz1 := zeros_mono (bit v.ws) hft'
      have hz2 := tally_mono (bit v.ws) hft'
      have hz3 := tally_mono (bit v.ws) htn'
      have hz4 := tally_le (bit v.ws) n
      have hzr : zr n (bit v.ws) = n - tally (bit v.ws) n := rfl
      have hz5 : zr n (bit v.ws) + tally (bit v.ws) f' ≤ zr n (bit v.ws) + tally (bit v.ws) t' := by omega
      have hz6 : zr n (bit v.ws) + tally (bit v.ws) t' ≤ n := by omega
      have hz7 : t' - tally (bit v.ws) t' ≤ n := by omega
      have HWv := Lib.hid (hWv.alloc (.cells #[.int .i64 n, .slice v.adr v.ws.length v.cap] 32))
      have HDr := Lib.hid hdrop
      have HQL := Lib.hid hql
      have hnew := Lib.hid (bnew wr (.cells #[.int .i64 n, .slice v.adr v.ws.length v.cap] 32))
      unfold splitC at HSp
      clear hv hvn hVv hWv hdrop hql hq hz2 hz3 hz4 hzr
      have HL0 := Lib.hid (fun h => less_zero_step n (bit v.ws) ((fns vs).drop (i + 1)) y q f' t' HQL.out h)
      have HL1 := Lib.hid (fun h => less_one_step n (bit v.ws) ((fns vs).drop (i + 1)) y q f' t' HQL.out h)
      generalize zr n (bit v.ws) + tally (bit v.ws) f' = zf at *
      generalize zr n (bit v.ws) + tally (bit v.ws) t' = zt at *
      generalize f' - tally (bit v.ws) f' = ff at *
      generalize t' - tally (bit v.ws) t' = tt at *
      obtain ⟨dd, hdd⟩ : ∃ dd, tt - ff = dd := ⟨_, rfl⟩
      have HSz := Lib.hid (size_any ff tt · hz1 (by omega) dd hdd)
      have hddn : dd ≤ n := by omega
      have HDD := Lib.hid (show (dd : Int) = (tt : Int) - (ff : Int) by omega)
      obtain ⟨sm, hsm⟩ : ∃ sm, a + dd = sm := ⟨_, rfl⟩
      have hsum : (a : Int) + (dd : Int) = (sm : Int) := by omega
      have HSM := Lib.hid hsm
      clear hdd hsm
      go_wp2_with fail
      refine (HSp.out _ (by exact HWv.out)).mono ?_
      rintro e w3 ⟨rfl, hb3⟩
      have HB3 := Lib.hid (chain hnew.out hb3)
      have l3 := HAT.out.lvl.below HB3.out hs1
      have p3 := HAT.out.prt.below HB3.out hs2
      have hs3 := p3.lt
      have hs4 := l3.lt
      clear q0 q1 q2 hc0 hc1 hnew hb3 HSp HWv hs1 hs2
      have q0 : w3.cell? ⟨w.heap.size, 0, none⟩ = some (.slice (some ⟨b, p, none⟩) k c) := l3.cell 0
      have q1 : w3.cell? ⟨w.heap.size + 1, 0, none⟩ = some (.int .i64 f') := p3.cell 0
      have q2 : w3.cell? ⟨w.heap.size + 1, 1, none⟩ = some (.int .i64 t') := p3.cell 1
      have z1 := p3.frozen 0
      have z2 := p3.frozen 1
      have hbel := Lib.hid ((chain HAT.out.bel HB3.out).alloc (chain HAT.out.bel HB3.out).size (.cells #[.int .i64 ff, .int .i64 tt, .int .i64 zf, .int .i64 zt] 110))
      have l4 := Lib.hid (l3.alloc (.cells #[.int .i64 ff, .int .i64 tt, .int .i64 zf, .int .i64 zt] 110))
      have p4 := Lib.hid (p3.alloc (.cells #[.int .i64 ff, .int .i64 tt, .int .i64 zf, .int .i64 zt] 110))
      have h4 := Lib.hid (Blk.new w3 110 [.int .i64 ff, .int .i64 tt, .int .i64 zf, .int .i64 zt])
      clear l3 p3
      have HDt : Hid (∀ W : World, Calls Try.prog 65 #[.int .i64 y, .int .i64 q] W fun e w' => e = .returned (.int .i64 (if y.testBit q then 1 else 0)) ∧ W = w') := Lib.hid fun W => (HD.out W).mono fun _ _ ⟨he, hw⟩ => ⟨by rw [he]; cases y.testBit q <;> rfl, hw⟩
      clear HD
      cases hbt : y.testBit q
      · rw [hbt] at HDt
        have HL := Lib.hid (HL0.out hbt)
        clear HL0 HL1 hbt HSz hsum
        simp only [Bool.false_eq_true, if_false] at HDt
        go_wp2_with fail
        refine (HDt.out _).mono ?_
        rintro e w5 ⟨rfl, rfl⟩
        generalize w3.alloc (.cells #[.int .i64 ff, .int .i64 tt, .int .i64 zf, .int .i64 zt] 110) = w4 at *
        clear q0 q1 q2 z1 z2
        have q0 : w4.cell? ⟨w.heap.size, 0, none⟩ = some (.slice (some ⟨b, p, none⟩) k c) := l4.out.cell 0
        have q1 : w4.cell? ⟨w.heap.size + 1, 0, none⟩ = some (.int .i64 f') := p4.out.cell 0
        have q2 : w4.cell? ⟨w.heap.size + 1, 1, none⟩ = some (.int .i64 t') := p4.out.cell 1
        have z1 := p4.out.frozen 0
        have z2 := p4.out.frozen 1
        have g0 : w4.cell? ⟨w3.heap.size, 0, none⟩ = some (.int .i64 ff) := h4.out.cell 0
        have g1 : w4.cell? ⟨w3.heap.size, 1, none⟩ = some (.int .i64 tt) := h4.out.cell 1
        go_wp2_with fail
        go_roundw
        case rel => exact ⟨i + 1, a, ff, tt, by omega, by go_num, rfl, (l4.out.far (by simp) _).far (by simp) _, (p4.out.put 0 (.int .i64 ff)).put 1 (.int .i64 tt), (hbel.out.setCell (by simp) _).setCell (by simp) _, hz1, by have := HDD.out; omega, by have h1 := HAT.out.ls; rw [HDr.out, HQ.out, HL.out.1] at h1; rw [HQ1.out]; exact h1, by have h1 := HAT.out.eq; rw [HDr.out, HQ.out, HL.out.2] at h1; rw [HQ1.out]; exact h1⟩
        case measure => simp [intOf]; omega
      · rw [hbt] at HDt
        have HL := Lib.hid (HL1.out hbt)
        clear HL0 HL1 hbt
        simp only [if_true] at HDt
        go_wp2_with fail
        refine (HDt.out _).mono ?_
        rintro e w5 ⟨rfl, rfl⟩
        generalize w3.alloc (.cells #[.int .i64 ff, .int .i64 tt, .int .i64 zf, .int .i64 zt] 110) = w4 at *
        clear q0 q1 q2 z1 z2
        have g0 : w4.cell? ⟨w3.heap.size, 0, none⟩ = some (.int .i64 ff) := h4.out.cell 0
        have g1 : w4.cell? ⟨w3.heap.size, 1, none⟩ = some (.int .i64 tt) := h4.out.cell 1
        go_wp2_with fail
        refine (HSz.out _).mono ?_
        rintro e w6 ⟨rfl, hb6⟩
        have l6 := Lib.hid (l4.out.below hb6 l4.out.lt)
        have p6 := Lib.hid (p4.out.below hb6 p4.out.lt)
        have h6 := Lib.hid (h4.out.below hb6 h4.out.lt)
        have hb6' := Lib.hid (chain hbel.out hb6)
        clear g0 g1 hb6 HSz
        have q0 : w6.cell? ⟨w.heap.size, 0, none⟩ = some (.slice (some ⟨b, p, none⟩) k c) := l6.out.cell 0
        have q1 : w6.cell? ⟨w.heap.size + 1, 0, none⟩ = some (.int .i64 f') := p6.out.cell 0
        have q2 : w6.cell? ⟨w.heap.size + 1, 1, none⟩ = some (.int .i64 t') := p6.out.cell 1
        have z1 := p6.out.frozen 0
        have z2 := p6.out.frozen 1
        have g2 : w6.cell? ⟨w3.heap.size, 2, none⟩ = some (.int .i64 zf) := h6.out.cell 2
        have g3 : w6.cell? ⟨w3.heap.size, 3, none⟩ = some (.int .i64 zt) := h6.out.cell 3
        go_wp2_with fail
        go_roundw
        case rel => exact ⟨i + 1, sm, zf, zt, by omega, by go_num, rfl, (l6.out.far (by simp) _).far (by simp) _, (p6.out.put 0 (.int .i64 zf)).put 1 (.int .i64 zt), (hb6'.out.setCell (by simp) _).setCell (by simp) _, hz5, hz6, by have h1 := HAT.out.ls; have h2 := HDD.out; have h3 := HSM.out; rw [HDr.out, HQ.out, HL.out.1] at h1; rw [HQ1.out]; omega, by have h1 := HAT.out.eq; rw [HDr.out, HQ.out, HL.out.2] at h1; rw [HQ1.out]; exact h1⟩
        case measure => simp [intOf]; omega
    · obtain rfl : k = i := by omega
      have hd0 : (fns vs).drop k = [] := List.drop_eq_nil_of_le (by rw [HFL.out]; exact Nat.le_refl _)
      have e1 := HAT.out.ls
      have e2 := HAT.out.eq
      rw [hd0, Nat.sub_self, Nat.pow_zero, Nat.mod_one] at e1 e2
      rw [less_nil] at e1
      rw [same_nil] at e2
      obtain rfl : LS = (a : Int) := by omega
      obtain ⟨d, hdt⟩ : ∃ d, t' - f' = d := ⟨_, rfl⟩
      obtain rfl : EQ = (d : Int) := by omega
      have HSz := Lib.hid (size_any f' t' · hft' (by omega) d hdt)
      have HB := Lib.hid HAT.out.bel
      clear hd0 e1 e2 hdt
      go_wp2_with fail
      refine (HSz.out _).mono ?_
      rintro e w6 ⟨rfl, hb6⟩
      go_wp2_with fail
      go_ret2
      exact ⟨rfl, chain HB.out hb6⟩

/-- wave.compare of a number that is too small or too great for any. -/
theorem wcmp_neg (k : Nat) (A : Option Addr) (c f t : Nat) (x : Int) (w : World) (hx : x < 0) :
    Calls Try.prog 50 #[.agg #[.slice A k c], .agg #[.int .i64 f, .int .i64 t], .int .i64 x] w fun e w' =>
      e = .returned (.tuple #[.int .i64 0, .int .i64 0]) ∧ Below w.heap.size w w' := by
  go_enter Try.func50, Try.ntmps50
  go_wp2_with fail
  go_ret2
  exact ⟨rfl, chain (bnew _ _) (bnew _ _)⟩
theorem wcmp_big (k : Nat) (A : Option Addr) (c f t y d : Nat) (w : World) (hk : k ≤ 21) (hft : f ≤ t) (ht : t ≤ 300) (hy : 2 ^ k ≤ y) (hd : t - f = d) :
    Calls Try.prog 50 #[.agg #[.slice A k c], .agg #[.int .i64 f, .int .i64 t], .int .i64 y] w fun e w' =>
      e = .returned (.tuple #[.int .i64 d, .int .i64 0]) ∧ Below w.heap.size w w' := by
  have HF := Lib.hid (fits_any y k · hk false (by simpa using hy))
  have HSz := Lib.hid (size_any f t · hft (by omega) d hd)
  have h0 : decide ((y : Int) < 0) = false := by simp
  clear hd hy
  go_enter Try.func50, Try.ntmps50
  go_wp2_with (first
    | (go_at_call 38; refine (HF.out _).mono ?_; rintro e w1 ⟨rfl, rfl⟩)
    | (go_at_call 76; refine (HSz.out _).mono ?_; rintro e w6 ⟨rfl, hb6⟩))
  go_ret2
  exact ⟨rfl, chain (chain (bnew _ _) (bnew _ _)) hb6⟩

/-- wave.compare, whatever the number. -/
theorem wcmp_any (n : Nat) (A : Option Addr) (vs : List Lev) (c f t : Nat) (x : Int) (w : World) (hV : WV n vs) (hM : Mat w w.heap.size A vs) (hft : f ≤ t) (htn : t ≤ n) :
    Calls Try.prog 50 #[.agg #[.slice A vs.length c], .agg #[.int .i64 f, .int .i64 t], .int .i64 x] w fun e w' =>
      e = .returned (.tuple #[.int .i64 (lessI n (fns vs) x f t), .int .i64 (sameI n (fns vs) x f t)]) ∧ Below w.heap.size w w' := by
  by_cases hx : x < 0
  · rw [lessI_neg n (fns vs) x hx, sameI_neg n (fns vs) x hx]
    exact wcmp_neg vs.length A c f t x w hx
  · obtain ⟨y, rfl⟩ : ∃ y : Nat, x = y := ⟨x.toNat, by omega⟩
    rw [lessI_nat, sameI_nat]
    by_cases hy : y < 2 ^ vs.length
    · exact wcmp_in n A vs c f t y w hV hM hft htn hy
    · rw [less_big n (fns vs) y (by rw [fns_length]; omega), same_big n (fns vs) y (by rw [fns_length]; omega), show (t : Int) - (f : Int) = ((t - f : Nat) : Int) by omega]
      exact wcmp_big vs.length A c f t y _ w hV.few hft (by have := hV.hi; omega) (by omega) rfl
end Go.Proofs.Ytefgfkicacbmeaa
