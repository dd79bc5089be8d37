/-
  What wave.kth returns: contracts, walked over the translated text. No condition but what each theorem names.
-/
import Derived.Test.YtefgfkicacbmeaaWavCm
namespace Go.Proofs.Ytefgfkicacbmeaa
open Go.RowKit Words

theorem kv_zero_step (n : Nat) (b : Nat → Bool) (bs : List (Nat → Bool)) (f t m : Nat) (h : m < (t - tally b t) - (f - tally b f)) : kv n (b :: bs) f t m = kv n bs (f - tally b f) (t - tally b t) m := by rw [kv, if_pos h]
theorem kv_one_step (n : Nat) (b : Nat → Bool) (bs : List (Nat → Bool)) (f t m : Nat) (h : ¬ m < (t - tally b t) - (f - tally b f)) : kv n (b :: bs) f t m = 2 ^ bs.length + kv n bs (zr n b + tally b f) (zr n b + tally b t) (m - ((t - tally b t) - (f - tally b f))) := by rw [kv, if_neg h]

/-- What kth keeps between its rounds: x: the digits so far; f, t: the range in the level i; m: the index in it. -/
structure KtAt (w : World) (n k : Nat) (A : Option Addr) (vs : List Lev) (c V : Nat) (i x f t m : Nat) (W : World) : Prop where
  lvl : Blk W w.heap.size 25 [.slice A k c]
  prt : Blk W (w.heap.size + 1) 77 [.int .i64 f, .int .i64 t]
  bel : Below w.heap.size w W
  ft : m < t - f
  tn : t ≤ n
  xl : x < 2 ^ i
  eq : V = x * 2 ^ (k - i) + kv n ((fns vs).drop i) f t m

set_option maxHeartbeats 4000000 in
/-- wave.kth. -/
theorem wkth_any (n : Nat) (A : Option Addr) (vs : List Lev) (c f t m : Nat) (w : World) (hV : WV n vs) (hM : Mat w w.heap.size A vs) (hft : m < t - f) (htn : t ≤ n) :
    Calls Try.prog 47 #[.agg #[.slice A vs.length c], .agg #[.int .i64 f, .int .i64 t], .int .i64 m] w fun e w' =>
      e = .returned (.int .i64 (kv n (fns vs) f t m : Nat)) ∧ Below w.heap.size w w' := by
  have hk := hV.few
  have hn := hV.hi
  have HE := Lib.hid hV.each
  have HM := Lib.hid hM
  have hst : ∀ W, Blk W w.heap.size 25 [.slice A vs.length c] → Blk W (w.heap.size + 1) 77 [.int .i64 f, .int .i64 t] → Below w.heap.size w W → KtAt w n vs.length A vs c (kv n (fns vs) f t m) 0 0 f t m W := fun W h1 h2 h3 =>
    ⟨h1, h2, h3, hft, htn, by simp, by rw [List.drop_zero, Nat.zero_mul, Nat.zero_add]⟩
  have HST := Lib.hid hst
  have hfl := fns_length vs
  clear hst hM hV
  generalize kv n (fns vs) f t m = V at *
  generalize hkk : vs.length = k at *
  have HK := Lib.hid hkk
  have HFL := Lib.hid hfl
  clear hkk hfl
  go_enter Try.func47, Try.ntmps47
  go_wp2_with fail
  have hB1 := (Blk.new w 25 [.slice A k c]).alloc (.cells #[.int .i64 f, .int .i64 t] 77)
  have hB2 := Blk.new (w.alloc (.cells #[.slice A k c] 25)) 77 [.int .i64 f, .int .i64 t]
  rw [World.size_alloc] at hB2
  have H0 := Lib.hid (HST.out _ hB1 hB2 (chain (bnew _ _) (bnew _ _)))
  clear hB1 hB2 HST
  generalize (w.alloc (.cells #[.slice A k c] 25)).alloc (.cells #[.int .i64 f, .int .i64 t] 77) = w0 at *
  go_loopw [2, 7, 16] (fun s2 s7 r w' => ∃ i x f' t' m' : Nat, i ≤ k ∧ r = .int .i64 i ∧ s7 = .int .i64 x ∧ s2 = .int .i64 m' ∧ KtAt w n k A vs c V i x f' t' m' w') (fun _ _ r _ => k - (intOf r).toNat)
  case atStart => exact ⟨0, 0, f, t, m, Nat.zero_le _, rfl, rfl, rfl, H0.out⟩
  case round =>
    obtain ⟨i, x, f', t', m', hi, rfl, rfl, rfl, hat⟩ := hrel
    have hft' := hat.ft
    have htn' := hat.tn
    have hxl := hat.xl
    have hx21 : x < 2097152 := Nat.lt_of_lt_of_le hxl (Nat.le_trans (Nat.pow_le_pow_right (n := 2) (j := 21) (by decide) (by omega)) (by decide))
    have hs1 := hat.lvl.lt
    have hs2 := hat.prt.lt
    have q0 : wr.cell? ⟨w.heap.size, 0, none⟩ = some (.slice A k c) := hat.lvl.cell 0
    have q1 : wr.cell? ⟨w.heap.size + 1, 0, none⟩ = some (.int .i64 f') := hat.prt.cell 0
    have q2 : wr.cell? ⟨w.heap.size + 1, 1, none⟩ = some (.int .i64 t') := hat.prt.cell 1
    have HAT := Lib.hid hat
    clear hat
    by_cases hlt : i < k
    · obtain ⟨b, p, v, rfl, hb, hv, hc0, hc1, hWv⟩ := (HM.out.on HAT.out.bel).at_ (i := i) (by rw [HK.out]; exact hlt)
      obtain ⟨hvn, hVv⟩ := HE.out v (List.mem_of_getElem? hv)
      have hdrop := fns_drop vs i v hv
      rw [hvn] at hc0
      have hql : ((fns vs).drop (i + 1)).length = k - (i + 1) := by rw [List.length_drop, HFL.out]
      have HQ := Lib.hid (show k - i = k - (i + 1) + 1 by omega)
      have HSp := Lib.hid (fun W hW => split_any n f' t' v.adr v.ws v.cap W hVv hW (by omega) htn')
      have hz1 := zeros_mono (bit v.ws) (show f' ≤ t' by omega)
      have hz2 := tally_mono (bit v.ws) (show f' ≤ t' by omega)
      have hz3 := tally_mono (bit v.ws) htn'
      have hz4 := tally_le (bit v.ws) n
      have hz8 := tally_le (bit v.ws) f'
      have hz9 := tally_le (bit v.ws) t'
      have hzr : zr n (bit v.ws) = n - tally (bit v.ws) n := rfl
      have hz6 : zr n (bit v.ws) + tally (bit v.ws) t' ≤ n := by omega
      have hz7 : t' - tally (bit v.ws) t' ≤ n := by omega
      have hzz : t' - f' = ((t' - tally (bit v.ws) t') - (f' - tally (bit v.ws) f')) + (zr n (bit v.ws) + tally (bit v.ws) t' - (zr n (bit v.ws) + tally (bit v.ws) f')) := by omega
      have HWv := Lib.hid (hWv.alloc (.cells #[.int .i64 n, .slice v.adr v.ws.length v.cap] 32))
      have HDr := Lib.hid hdrop
      have HQL := Lib.hid hql
      have hnew := Lib.hid (bnew wr (.cells #[.int .i64 n, .slice v.adr v.ws.length v.cap] 32))
      unfold splitC at HSp
      clear hv hvn hVv hWv hdrop hql hz2 hz3 hz4 hz8 hz9 hzr
      have HL0 := Lib.hid (kv_zero_step n (bit v.ws) ((fns vs).drop (i + 1)) f' t' m')
      have HL1 := Lib.hid (kv_one_step n (bit v.ws) ((fns vs).drop (i + 1)) f' t' m')
      generalize zr n (bit v.ws) + tally (bit v.ws) f' = zf at *
      generalize zr n (bit v.ws) + tally (bit v.ws) t' = zt at *
      generalize f' - tally (bit v.ws) f' = ff at *
      generalize t' - tally (bit v.ws) t' = tt at *
      have HSz := Lib.hid (size_any ff tt · hz1 (by omega) (tt - ff) rfl)
      generalize hdd : tt - ff = dd at *
      have hddn : dd ≤ n := by omega
      have HZZ := Lib.hid hzz
      have HDD := Lib.hid hdd
      clear hzz hdd
      go_wp2_with fail
      refine (HSp.out _ (by exact HWv.out)).mono ?_
      rintro e w3 ⟨rfl, hb3⟩
      have HB3 := Lib.hid (chain hnew.out hb3)
      have l3 := HAT.out.lvl.below HB3.out hs1
      have p3 := HAT.out.prt.below HB3.out hs2
      have hbel := Lib.hid ((chain HAT.out.bel HB3.out).alloc (chain HAT.out.bel HB3.out).size (.cells #[.int .i64 ff, .int .i64 tt, .int .i64 zf, .int .i64 zt] 110))
      have l4 := Lib.hid (l3.alloc (.cells #[.int .i64 ff, .int .i64 tt, .int .i64 zf, .int .i64 zt] 110))
      have p4 := Lib.hid (p3.alloc (.cells #[.int .i64 ff, .int .i64 tt, .int .i64 zf, .int .i64 zt] 110))
      have h4 := Lib.hid (Blk.new w3 110 [.int .i64 ff, .int .i64 tt, .int .i64 zf, .int .i64 zt])
      clear l3 p3 q0 q1 q2 hc0 hc1 hnew hb3 HSp HWv hs1 hs2
      go_wp2_with fail
      generalize w3.alloc (.cells #[.int .i64 ff, .int .i64 tt, .int .i64 zf, .int .i64 zt] 110) = w4 at *
      refine (HSz.out _).mono ?_
      rintro e w6 ⟨rfl, hb6⟩
      have l6 := Lib.hid (l4.out.below hb6 l4.out.lt)
      have p6 := Lib.hid (p4.out.below hb6 p4.out.lt)
      have h6 := Lib.hid (h4.out.below hb6 h4.out.lt)
      have hb6' := Lib.hid (chain hbel.out hb6)
      clear hb6 HSz
      have q0 : w6.cell? ⟨w.heap.size, 0, none⟩ = some (.slice (some ⟨b, p, none⟩) k c) := l6.out.cell 0
      have q1 : w6.cell? ⟨w.heap.size + 1, 0, none⟩ = some (.int .i64 f') := p6.out.cell 0
      have q2 : w6.cell? ⟨w.heap.size + 1, 1, none⟩ = some (.int .i64 t') := p6.out.cell 1
      have z1 := p6.out.frozen 0
      have z2 := p6.out.frozen 1
      have g0 : w6.cell? ⟨w3.heap.size, 0, none⟩ = some (.int .i64 ff) := h6.out.cell 0
      have g1 : w6.cell? ⟨w3.heap.size, 1, none⟩ = some (.int .i64 tt) := h6.out.cell 1
      have g2 : w6.cell? ⟨w3.heap.size, 2, none⟩ = some (.int .i64 zf) := h6.out.cell 2
      have g3 : w6.cell? ⟨w3.heap.size, 3, none⟩ = some (.int .i64 zt) := h6.out.cell 3
      by_cases hmd : m' < dd
      · have hdm : decide (dd ≤ m') = false := by simp; omega
        have HL := Lib.hid (HL0.out hmd)
        obtain ⟨x2, hx2⟩ : ∃ x2, 2 * x = x2 := ⟨_, rfl⟩
        have hx2i : (2 : Int) * (x : Int) = (x2 : Int) := by omega
        have hx2l : x2 < 4194304 := by omega
        have HX := Lib.hid hx2
        clear HL0 HL1 hx2
        go_wp2_with fail
        go_roundw
        case rel => exact ⟨i + 1, x2, ff, tt, m', by omega, by go_num, by simp, rfl, (l6.out.far (by simp) _).far (by simp) _, (p6.out.put 0 (.int .i64 ff)).put 1 (.int .i64 tt), (hb6'.out.setCell (by simp) _).setCell (by simp) _, by have := HDD.out; omega, by omega, by have := HX.out; rw [Nat.pow_succ]; omega, by
          have h1 := HAT.out.eq
          rw [HDr.out, HL.out, HQ.out, Nat.pow_succ] at h1
          rw [h1, ← HX.out, Nat.mul_comm 2 x, Nat.mul_assoc, Nat.mul_comm 2]⟩
        case measure => simp [intOf]; omega
      · have hdm : decide (dd ≤ m') = true := by simp; omega
        have HL := Lib.hid (HL1.out hmd)
        obtain ⟨x2, hx2⟩ : ∃ x2, 2 * x = x2 := ⟨_, rfl⟩
        have hx2i : (2 : Int) * (x : Int) = (x2 : Int) := by omega
        have hx2l : x2 < 4194304 := by omega
        obtain ⟨m2, hm2⟩ : ∃ m2, m' - dd = m2 := ⟨_, rfl⟩
        have hm2i : (m' : Int) - (dd : Int) = (m2 : Int) := by omega
        have HX := Lib.hid hx2
        have HM2 := Lib.hid hm2
        clear HL0 HL1 hx2 hm2
        go_wp2_with fail
        go_roundw
        case rel => exact ⟨i + 1, x2 + 1, zf, zt, m2, by omega, by go_num, by go_num, rfl, (l6.out.far (by simp) _).far (by simp) _, (p6.out.put 0 (.int .i64 zf)).put 1 (.int .i64 zt), (hb6'.out.setCell (by simp) _).setCell (by simp) _, by have := HM2.out; have := HZZ.out; omega, hz6, by have := HX.out; rw [Nat.pow_succ]; omega, by
          have h1 := HAT.out.eq
          rw [HDr.out, HL.out, HQ.out, Nat.pow_succ, HM2.out, HQL.out] at h1
          rw [h1, ← HX.out, Nat.add_mul, Nat.one_mul, Nat.mul_comm 2 x, Nat.mul_assoc, Nat.mul_comm 2, Nat.add_assoc]⟩
        case measure => simp [intOf]; omega
    · obtain rfl : k = i := by omega
      have hd0 : (fns vs).drop k = [] := List.drop_eq_nil_of_le (by rw [HFL.out]; exact Nat.le_refl _)
      have e1 := HAT.out.eq
      rw [hd0, Nat.sub_self, Nat.pow_zero, Nat.mul_one, kv, Nat.add_zero] at e1
      obtain rfl : V = x := e1
      have HB := Lib.hid HAT.out.bel
      clear hd0
      go_wp2_with fail
      go_ret
      exact ⟨rfl, HB.out⟩
end Go.Proofs.Ytefgfkicacbmeaa
