/-
  What perm.Order and the document's PermOrder return: contracts, walked over the translated text. No condition but what each theorem names.
-/
import Derived.Test.YtehmngecpipebaaPermNm
import Derived.Test.YtehmngecpipebaaDels
namespace Go.Proofs.Ytehmngecpipebaa
open Go.RowKit Go.Sort Words

/-- What is left of an order while it is made. -/
structure OrdIn (n : Nat) (R : List Nat) (i : Nat) (L : List Nat) (M : Nat) : Prop where
  len : L.length = n - i
  lt : M < fact (n - i)
  srt : L.Pairwise (· < ·)
  rest : R.drop i = ordL (n - i) L M
theorem OrdIn.zero {n N : Nat} (h : N < fact n) : OrdIn n (ordL n (List.range n) N) 0 (List.range n) N := ⟨by simp, h, List.pairwise_lt_range, by rw [List.drop_zero]; rfl⟩
theorem OrdIn.place {n i M : Nat} {R L : List Nat} (h : OrdIn n R i L M) (hi : i < n) : M / fact (n - 1 - i) < L.length := by
  have h1 := h.lt
  rw [show n - i = n - 1 - i + 1 by omega] at h1
  have h2 := div_fact h1
  rw [h.len]
  omega
theorem OrdIn.step {n i M : Nat} {R L : List Nat} (h : OrdIn n R i L M) (hi : i < n) : st R i = st L (M / fact (n - 1 - i)) ∧ OrdIn n R (i + 1) (L.eraseIdx (M / fact (n - 1 - i))) (M % fact (n - 1 - i)) := by
  have hr := h.rest
  rw [show n - i = n - 1 - i + 1 by omega, ordL] at hr
  have hp := h.place hi
  refine ⟨st_of ?_, ⟨?_, ?_, eraseIdx_sorted h.srt _, ?_⟩⟩
  · have h1 : (R.drop i)[0]? = R[i]? := by rw [List.getElem?_drop, Nat.add_zero]
    rw [← h1, hr]
    rfl
  · rw [List.length_eraseIdx, if_pos hp, h.len]; omega
  · rw [show n - (i + 1) = n - 1 - i by omega]; exact Nat.mod_lt _ (fact_pos _)
  · rw [← List.drop_drop, hr, show n - (i + 1) = n - 1 - i by omega]; rfl
/-- What is left is what has not been placed. -/
theorem OrdIn.mem {n i M : Nat} {R L : List Nat} (h : OrdIn n R i L M) (hR : R.Perm (List.range n)) {y : Nat} (hy : y < n) : y ∈ L ↔ y ∉ R.take i := by
  have hp : (R.drop i).Perm L := by rw [h.rest]; exact ordL_perm _ _ _ h.len h.lt
  have hnd : R.Nodup := hR.symm.nodup List.nodup_range
  have hm : y ∈ R := hR.mem_iff.2 (List.mem_range.2 hy)
  rw [← hp.mem_iff]
  rw [← List.take_append_drop i R] at hm hnd
  constructor
  · intro h1 h2
    exact (List.nodup_append.1 hnd).2.2 y h2 y h1 rfl
  · intro h1
    rcases List.mem_append.1 hm with h2 | h2
    · exact absurd h2 h1
    · exact h2
theorem OrdIn.mem_lt {n i M : Nat} {R L : List Nat} (h : OrdIn n R i L M) (hR : R.Perm (List.range n)) {y : Nat} (hy : y ∈ L) : y < n := by
  have hp : (R.drop i).Perm L := by rw [h.rest]; exact ordL_perm _ _ _ h.len h.lt
  exact List.mem_range.1 (hR.mem_iff.1 (List.mem_of_mem_drop (hp.mem_iff.2 hy)))
/-- How many of a rising row are less than the next number. -/
theorem cnt_next {L : List Nat} (hs : L.Pairwise (· < ·)) (y : Nat) : cnt (y + 1) L = cnt y L + if y ∈ L then 1 else 0 := by
  induction L with
  | nil => rfl
  | cons a L ih =>
    rw [List.pairwise_cons] at hs
    rw [cnt_cons, cnt_cons, ih hs.2]
    by_cases e : y = a
    · subst e
      have hn : y ∉ L := fun hm => by have := hs.1 y hm; omega
      rw [if_neg hn, if_pos (by omega), if_neg (by omega), if_pos (List.mem_cons_self ..)]
    · have hm : (y ∈ a :: L) ↔ y ∈ L := by rw [List.mem_cons]; exact ⟨fun h => h.elim (fun h => absurd h e) id, Or.inr⟩
      simp only [hm]
      by_cases h1 : a < y
      · rw [if_pos (show a < y + 1 by omega), if_pos h1]; omega
      · rw [if_neg (show ¬ a < y + 1 by omega), if_neg h1]; omega

set_option maxHeartbeats 2000000 in
/-- perm.Order of what is no rank. -/
theorem order_err (a b : Int) (w : World) (h : a < 0 ∨ 20 < a ∨ b < 0 ∨ (fact a.toNat : Int) ≤ b) :
    Calls Try.prog 32 #[.int .i64 a, .int .i64 b] w (NoPL w 2) := by
  have hc : a < 0 ∨ (decide (a < 0) = false ∧ 20 < a) ∨ (decide (a < 0) = false ∧ decide (20 < a) = false ∧ b < 0) ∨ (0 ≤ a ∧ a ≤ 20 ∧ decide (a < 0) = false ∧ decide (20 < a) = false ∧ decide (b < 0) = false ∧ (fact a.toNat : Int) ≤ b) := by
    by_cases h1 : a < 0
    · exact .inl h1
    · by_cases h2 : 20 < a
      · exact .inr (.inl ⟨by simpa using h1, h2⟩)
      · by_cases h3 : b < 0
        · exact .inr (.inr (.inl ⟨by simpa using h1, by simpa using h2, h3⟩))
        · exact .inr (.inr (.inr ⟨by omega, by omega, by simpa using h1, by simpa using h2, by simpa using h3, by omega⟩))
  clear h
  rcases hc with h1 | ⟨h1, h2⟩ | ⟨h1, h2, h3⟩ | ⟨h1, h2, h3, h4, h5, h6⟩
  · go_enter Try.func32, Try.ntmps32
    go_wp2_with fail
    go_ret2
    exact ⟨rfl, Below.refl _ _⟩
  · go_enter Try.func32, Try.ntmps32
    go_wp2_with fail
    go_ret2
    exact ⟨rfl, Below.refl _ _⟩
  · go_enter Try.func32, Try.ntmps32
    go_wp2_with fail
    go_ret2
    exact ⟨rfl, Below.refl _ _⟩
  · obtain ⟨n, rfl⟩ := Int.eq_ofNat_of_zero_le h1
    have HO := Lib.hid (fun W => orders_any n W (by omega))
    rw [Int.toNat_natCast] at h6
    generalize fact n = f at *
    go_enter Try.func32, Try.ntmps32
    go_wp2_with fail
    refine (HO.out _).mono ?_
    rintro e w' ⟨rfl, rfl⟩
    go_wp2_with fail
    go_ret2
    exact ⟨rfl, Below.refl _ _⟩

/-- The row of the call's own, cut. -/
theorem own_cut {w : World} {base : Nat} {e : TypeId} {g n c m : Nat} {xs : List Value} (h : w.ownsRow base e 1 (.slice (some ⟨g, 0, none⟩) n c) n xs) (hm : m ≤ n) : w.ownsRow base e 1 (.slice (some ⟨g, 0, none⟩) m c) m (xs.take m) := by
  have hl := h.1
  rcases h.2 with ⟨hv, _⟩ | ⟨g', cap, cur, hv, hb, hh, hn, hc, hs, hx⟩
  · cases hv
  · injection hv with h1 _ h2
    obtain rfl : g = g' := by injection h1 with h1; injection h1
    subst h2
    refine ⟨by rw [List.length_take]; omega, .inr ⟨g, c, cur, rfl, hb, hh, by omega, hc, hs, ?_⟩⟩
    rw [← hx, List.take_take, Nat.mul_one, Nat.mul_one, Nat.min_eq_left hm]

/-- slices.Delete of one number of a row of the call's own. -/
theorem delete_own (base g c j : Nat) (l : List Nat) (w : World) (hown : w.ownsRow base 3 1 (.slice (some ⟨g, 0, none⟩) l.length c) l.length (natC l)) (hj : j < l.length) :
    Calls Try.prog 52 #[.slice (some ⟨g, 0, none⟩) l.length c, .int .i64 j, .int .i64 ((j + 1 : Nat) : Int)] w fun e w' => e = .returned (.slice (some ⟨g, 0, none⟩) (l.length - 1) c) ∧ w'.ownsRow base 3 1 (.slice (some ⟨g, 0, none⟩) (l.length - 1) c) (l.length - 1) (natC (l.eraseIdx j)) ∧ w.grownBy w' (some g) := by
  have hl : (ofN l).length = l.length := ofN_length l
  have e : natC l = (ofN l).map (Value.int .i64) := by unfold ofN; rw [← natC_map]
  have hown2 : w.ownsRow base 3 1 (.slice (some ⟨g, 0, none⟩) (ofN l).length c) (ofN l).length ((ofN l).map (.int .i64)) := by rw [hl, ← e]; exact hown
  have hle : l.length ≤ c ∧ c ≤ 9223372036854775807 := by
    rcases hown.2 with ⟨hv, _⟩ | ⟨g', cap, cur, hv, hb, hh, hn, hc, hs, hx⟩
    · cases hv
    · injection hv with _ _ h2
      subst h2
      simp only [maxLen] at hc
      omega
  have h := Try.slices_Delete_int g 0 c j (j + 1) (ofN l) w (holds_own hown2) (by omega) hle.2 (by omega) (by omega)
  rw [hl, show j + 1 - j = 1 by omega] at h
  refine h.mono ?_
  rintro e' w' ⟨rfl, m, hw⟩
  obtain ⟨d, hd⟩ : ∃ d, (ofN l).take j ++ (ofN l).drop (j + 1) ++ List.replicate 1 0 = d := ⟨_, rfl⟩
  have hde : d = ofN (l.eraseIdx j) ++ [0] := by
    rw [← hd, List.eraseIdx_eq_take_drop_succ]
    simp [ofN]
  have hdl : d.length = (ofN l).length := by
    rw [hde, hl]
    simp [ofN, List.length_eraseIdx, hj]
    omega
  have hp := put_own hown2 hdl m #[]
  have hgrow : ∀ W : World, grow W #[] = W := fun W => by unfold grow; simp
  rw [hgrow] at hp
  rw [hd] at hw
  have hw2 : w' = putRow (Value.int .i64) (Sort.ahead w m) g 0 d.toArray := hw
  rw [← hw2] at hp
  refine ⟨rfl, ?_, hp.2⟩
  have h2 := own_cut hp.1 (m := l.length - 1) (by rw [hl]; omega)
  have e3 : (d.map (Value.int .i64)).take (l.length - 1) = natC (l.eraseIdx j) := by
    have hel : (l.eraseIdx j).length = l.length - 1 := by rw [List.length_eraseIdx, if_pos hj]
    rw [hde, List.map_append, List.take_append_of_le_length (by rw [List.length_map, ofN_length, hel]; exact Nat.le_refl _), List.take_of_length_le (by rw [List.length_map, ofN_length, hel]; exact Nat.le_refl _)]
    unfold ofN
    rw [← natC_map]
  rwa [e3] at h2

theorem range_fill (n i : Nat) (hi : i < n) : (fillR (List.range n) 0 i).set i i = fillR (List.range n) 0 (i + 1) := fillR_step (List.range n) 0 i i (List.getElem?_range hi)

set_option maxHeartbeats 4000000 in
/-- perm.Order. -/
theorem order_ok (n N : Nat) (w : World) (hn : n ≤ 20) (hN : N < fact n) :
    Calls Try.prog 32 #[.int .i64 n, .int .i64 N] w (GivesPL w (ordL n (List.range n) N) n) := by
  have ht := fact_top hn
  have HO := Lib.hid (fun k (hk : k ≤ 20) W => orders_any k W hk)
  have hmk := make_row (P := Try.prog) 22 3 (.int .i64 0) 8 Try.underlying22 pint_info rfl n (by omega) (by omega)
  have HZ := Lib.hid (show natC (fillR (List.range n) 0 0) = List.replicate n (.int .i64 0) by rw [fillR_zero, natC_replicate, List.length_range])
  have HSt := Lib.hid (fun i (hi : i < n) => range_fill n i hi)
  have HAt := Lib.hid (fun i (hi : i < n) => fillR_at (List.range n) 0 i (by rw [List.length_range]; exact hi))
  have HAll := Lib.hid (show fillR (List.range n) 0 n = List.range n by
    have h := fillR_all (List.range n) 0
    rwa [List.length_range] at h)
  have HI0 := Lib.hid (OrdIn.zero hN)
  have hRl := ordL_length n (List.range n) N
  generalize ordL n (List.range n) N = R at *
  have HZ2 := Lib.hid (show natC (fillR R 0 0) = List.replicate n (.int .i64 0) by rw [fillR_zero, natC_replicate, hRl])
  have HSt2 := Lib.hid (fun i (hi : i < n) => fillR_step R 0 i (st R i) (st_get (by rw [hRl]; exact hi)))
  have HAt2 := Lib.hid (fun i (hi : i < n) => fillR_at R 0 i (by rw [hRl]; exact hi))
  have HAll2 := Lib.hid (show fillR R 0 n = R by rw [← hRl]; exact fillR_all _ _)
  have HRl := Lib.hid hRl
  have HOn := Lib.hid (fun W => HO.out n hn W)
  generalize hf : fact n = f at *
  have hd0 : decide ((n : Int) < 0) = false := by simp
  have hd1 : decide ((20 : Int) < (n : Int)) = false := by simp; omega
  have hd2 : decide ((N : Int) < 0) = false := by simp
  have hd3 : decide (f ≤ N) = false := by simp; omega
  clear hRl hf
  go_enter Try.func32, Try.ntmps32
  go_wp2_with fail
  refine (HOn.out _).mono ?_
  rintro e w' ⟨rfl, rfl⟩
  go_wp2_with fail
  have hbz := zeros_blk w (.int .i64 0) n 3
  rw [← HZ.out] at hbz
  have HBl := Lib.hid (bnew w (.cells (zeros (.int .i64 0) n) 3))
  generalize w.alloc (.cells (zeros (.int .i64 0) n) 3) = w1 at *
  have HBz := Lib.hid hbz
  clear hbz HZ
  go_loopw [32] (fun u w' => ∃ i : Nat, i ≤ n ∧ u = .int .i64 i ∧ Blk w' w.heap.size 3 (natC (fillR (List.range n) 0 i)) ∧ Below w.heap.size w w') (fun u _ => n - (intOf u).toNat)
  case atStart => exact ⟨0, Nat.zero_le _, rfl, HBz.out, HBl.out⟩
  case round =>
    obtain ⟨i, hi, rfl, hbk, hbl⟩ := hrel
    have HBk := Lib.hid hbk
    have HB2 := Lib.hid hbl
    by_cases hlt : i < n
    · have HS := Lib.hid (HSt.out i hlt)
      have hcx := hbk.cell i
      rw [natC_at _ i _ (HAt.out i hlt)] at hcx
      have hfz := hbk.frozen i
      clear hbk hbl hmk
      go_wp2_with fail
      go_roundw
      case rel => exact ⟨i + 1, by omega, by go_num, by
        have := HBk.out.put i (.int .i64 i)
        rw [natC_set, HS.out] at this
        exact this, HB2.out.setCell (Nat.le_refl _) _⟩
      case measure => simp [intOf]; omega
    · obtain rfl : n = i := by omega
      rw [HAll.out] at hbk
      have hsw := hbk.lt
      have hown0 := hbk.owns (base := w.heap.size) (Nat.le_refl _) (by rw [natC_length, List.length_range]; simp only [maxLen]; omega)
      rw [natC_length, List.length_range] at hown0
      have HOw := Lib.hid hown0
      clear hbk hbl hown0
      go_wp2_with fail
      have hbz := zeros_blk wr (.int .i64 0) n 3
      rw [← HZ2.out] at hbz
      have HBl2 := Lib.hid (HB2.out.alloc HB2.out.size (.cells (zeros (.int .i64 0) n) 3))
      have HOw2 := Lib.hid (HOw.out.alloc (.cells (zeros (.int .i64 0) n) 3))
      have hgp : w.heap.size < wr.heap.size := hsw
      generalize hpg : wr.heap.size = gp at *
      generalize wr.alloc (.cells (zeros (.int .i64 0) n) 3) = w3 at *
      have HBz2 := Lib.hid hbz
      clear hbz hmk HZ2 hpg hsw
      go_loopw [1, 6, 44] (fun s v u w' => ∃ (i M m : Nat) (L : List Nat), i ≤ n ∧ u = .int .i64 i ∧ s = .int .i64 M ∧ v = .slice (some ⟨w.heap.size, 0, none⟩) m n ∧ m = n - i ∧ OrdIn n R i L M ∧ w'.ownsRow w.heap.size 3 1 (.slice (some ⟨w.heap.size, 0, none⟩) m n) m (natC L) ∧ Blk w' gp 3 (natC (fillR R 0 i)) ∧ Below w.heap.size w w') (fun _ _ u _ => n - (intOf u).toNat)
      case atStart => exact ⟨0, N, n, List.range n, Nat.zero_le _, rfl, rfl, rfl, rfl, HI0.out, HOw2.out, HBz2.out, HBl2.out⟩
      case round =>
        obtain ⟨i, M, m, L, hi, rfl, rfl, rfl, hm, hin, hown, hbk, hbl⟩ := hrel
        have HIn := Lib.hid hin
        have HBk := Lib.hid hbk
        have HB3 := Lib.hid hbl
        by_cases hlt : i < n
        · have hpl := hin.place hlt
          have hst := hin.step hlt
          have hft := fact_top2 (k := n - 1 - i) hn (by omega)
          have hfp := fact_pos (n - 1 - i)
          have hMl := hin.lt
          have hML := fact_top2 (k := n - i) hn (by omega)
          have HOk := Lib.hid (fun W => HO.out (n - 1 - i) (by omega) W)
          have hLl := hin.len
          have hMM : M ≤ 2432902008176640000 := by omega
          generalize fact (n - 1 - i) = f1 at *
          generalize fact (n - i) = f2 at *
          have hdiv : (M : Int) / (f1 : Int) = ((M / f1 : Nat) : Int) := by simp
          have hmod : (M : Int) % (f1 : Int) = ((M % f1 : Nat) : Int) := by simp
          obtain ⟨j, hj⟩ : ∃ j, M / f1 = j := ⟨_, rfl⟩
          obtain ⟨M2, hM2⟩ : ∃ j, M % f1 = j := ⟨_, rfl⟩
          rw [hj] at hdiv hpl
          rw [hM2] at hmod
          rw [hj, hM2] at hst
          obtain ⟨hsR, hin2⟩ := hst
          have HIn2 := Lib.hid hin2
          have hmL : L.length = m := by omega
          have hjm : j < m := by omega
          have HDel := Lib.hid (fun W (hW : W.ownsRow w.heap.size 3 1 (.slice (some ⟨w.heap.size, 0, none⟩) L.length n) L.length (natC L)) => delete_own w.heap.size w.heap.size n j L W hW (by omega))
          rw [hmL] at HDel
          have hcl := own_cell hown (natC_at L j _ (st_get (by omega)))
          rw [← hsR] at hcl
          have HS := Lib.hid (HSt2.out i hlt)
          generalize st R i = x at *
          have hcx := hbk.cell i
          rw [natC_at _ i _ (HAt2.out i hlt)] at hcx
          have hfz := hbk.frozen i
          obtain ⟨k, hk⟩ : ∃ k, n - 1 - i = k := ⟨_, rfl⟩
          rw [hk] at HOk
          have hmk1 : (m : Int) - 1 = (k : Int) := by omega
          have hm20 : m ≤ 20 := by omega
          have hown2 := own_keep (w' := wr.setCell ⟨gp, i, none⟩ (.int .i64 x)) hown (fun q hq => by
            obtain rfl : w.heap.size = q := Option.some.inj hq
            exact Below.heap_setCell wr ⟨gp, i, none⟩ _ _ (Nat.ne_of_lt hgp))
          have HDl := Lib.hid (HDel.out _ hown2)
          rw [show ((j + 1 : Nat) : Int) = (j : Int) + 1 by omega] at HDl
          have HM1 := Lib.hid (show m - 1 = n - (i + 1) by omega)
          have HBk2 := Lib.hid (HBk.out.put i (.int .i64 x))
          have HB4 := Lib.hid (HB3.out.setCell (Nat.le_of_lt hgp) (.int .i64 x) (p := ⟨gp, i, none⟩))
          clear hin hown hbk hbl hj hM2 hsR hin2 hmL hLl hk hm hown2 hMl
          go_wp2_with fail
          refine (HOk.out _).mono ?_
          rintro e w' ⟨rfl, rfl⟩
          go_wp2_with fail
          refine HDl.out.mono ?_
          rintro e w5 ⟨rfl, hown5, hg5⟩
          have HOw5 := Lib.hid hown5
          have HBk5 := Lib.hid ((hg5.block gp HBk2.out.lt (fun e => by have := Option.some.inj e; omega)).trans HBk2.out)
          have HB5 := Lib.hid (HB4.out.grown hg5 (by have := HB4.out.size; omega) (fun q hq => by obtain rfl := Option.some.inj hq; exact Nat.le_refl _))
          clear hown5 hg5
          go_wp2_with fail
          go_roundw
          case rel => exact ⟨i + 1, M2, m - 1, _, by omega, by go_num, rfl, rfl, HM1.out, HIn2.out, HOw5.out, by rw [← HS.out, ← natC_set]; exact HBk5.out, HB5.out⟩
          case measure => simp [intOf]; omega
        · obtain rfl : n = i := by omega
          rw [HAll2.out] at hbk
          have HLi := Lib.hid hbk.lies
          have hsz := HB3.out.size
          clear hin hown hbk hbl
          go_wp2_with fail
          go_ret2
          exact ⟨_, _, rfl, Nat.le_refl _, HLi.out, (fun e => by cases e), (fun ad e => by obtain rfl := Option.some.inj e; exact Nat.le_of_lt hgp), HB3.out⟩
end Go.Proofs.Ytehmngecpipebaa
