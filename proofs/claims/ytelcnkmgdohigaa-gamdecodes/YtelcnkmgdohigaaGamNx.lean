/-
  What the document's gamNext and GamDecoded return: contracts, walked over the translated text. No condition but what each theorem names.
-/
import Derived.Test.YtelcnkmgdohigaaGamDc
import Derived.Test.YtelcnkmgdohigaaBitsRef
import Derived.Deep.QuietTactic
import Derived.BigQuiet
namespace Go.Proofs.Ytelcnkmgdohigaa
open Go.RowKit Words

/-- Bools in memory from an address on. -/
def BRow (w : World) (b o : Nat) (l : List Bool) : Prop := ∀ j x, l[j]? = some x → w.cell? ⟨b, o + j, none⟩ = some (.bool x)
theorem BRow.nil (w : World) (b o : Nat) : BRow w b o [] := fun j x h => by simp at h
theorem BRow.drop {w : World} {b o : Nat} {l : List Bool} (h : BRow w b o l) (k : Nat) : BRow w b (o + k) (l.drop k) := fun j x hx => by
  rw [List.getElem?_drop] at hx
  rw [Nat.add_assoc]
  exact h _ _ hx

/-- What gamNext leaves: T is the number, the error, the bits behind. -/
def NextGives (w : World) (b : Nat) (T : Nat × Nat × List Bool) (e : Ending) (w' : World) : Prop := (∃ d, w' = w.drewN d) ∧
  ((T.2.1 ≠ 0 ∧ e = .returned (.tuple #[.int .i64 0, .slice none 0 0, .int .i64 T.2.1])) ∨
   (T.2.1 = 0 ∧ ∃ o c, e = .returned (.tuple #[.int .i64 T.1, .slice (some ⟨b, o, none⟩) T.2.2.length c, .int .i64 0]) ∧ T.2.2.length ≤ c ∧ BRow w b o T.2.2))

theorem drop_at {l : List Bool} {j n : Nat} (hn : l.length = n) (h : j < n) : ∃ x, l[j]? = some x ∧ l.drop j = x :: l.drop (j + 1) :=
  ⟨l[j]'(by omega), List.getElem?_eq_getElem (by omega), List.drop_eq_getElem_cons (by omega)⟩

theorem numR_one (l : List Bool) : numR 1 l = if (gnext l).2.1 ≠ 0 then (0, (gnext l).2.1, []) else if 1048576 < (gnext l).1 then (0, 2, []) else gnext l := by
  unfold numR number
  by_cases h : (gnext l).2.1 = 0
  · simp [h]
  · simp [h]

set_option maxHeartbeats 4000000 in
/-- The document's gamNext of a gamma code. -/
theorem next_one (b o : Nat) (l : List Bool) (c : Nat) (w : World) (hc : l.length ≤ c) (hl : l.length ≤ 4096) (hR : BRow w b o l) :
    Calls Try.prog 34 #[.int .i64 1, .slice (some ⟨b, o, none⟩) l.length c] w (NextGives w b (numR 1 l)) := by
  have HR := Lib.hid hR
  have HN := Lib.hid (numR_one l)
  have HG0 := Lib.hid (show gnextA 21 0 (l.drop 0) = gnext l from rfl)
  clear hR
  generalize hn : l.length = n at *
  have HLen := Lib.hid hn
  clear hn
  generalize gnext l = G at *
  generalize numR 1 l = NR at *
  go_enter Try.func34, Try.ntmps34
  go_wp2
  go_loop [7] (fun v => ∃ j : Nat, j ≤ 20 ∧ j ≤ n ∧ v = .int .i64 j ∧ gnextA (21 - j) j (l.drop j) = G) (fun v => 21 - (intOf v).toNat)
  case atStart => exact ⟨0, by decide, Nat.zero_le _, rfl, HG0.out⟩
  case round =>
    obtain ⟨j, hj, hjn, rfl, hG⟩ := hrel
    have HG := Lib.hid hG
    clear hG
    obtain ⟨f, hf⟩ : ∃ f, 21 - j = f + 1 := ⟨20 - j, by omega⟩
    rw [hf] at HG
    have hf2 : f = 21 - (j + 1) := by omega
    clear hf
    by_cases hlt : j < n
    · obtain ⟨x, hx, hdr⟩ := drop_at HLen.out hlt
      have hcl := HR.out j _ hx
      rw [hdr] at HG
      clear hdr hx
      cases x
      · by_cases h20 : j = 20
        · have hne : (((j : Int) + 1) == 21) = true := by simp; omega
          obtain rfl : f = 0 := by omega
          clear h20 hf2
          have HG2 := Lib.hid (show ((0, 2, []) : Nat × Nat × List Bool) = G from HG.out)
          rw [← HG2.out] at HN
          have HN2 := Lib.hid (show NR = (0, 2, []) from HN.out)
          go_wp2
          go_ret3
          rw [HN2.out]
          exact ⟨⟨0, rfl⟩, .inl ⟨by decide, rfl⟩⟩
        · have hne : (((j : Int) + 1) == 21) = false := by simp; omega
          have HG2 := Lib.hid (show gnextA f (j + 1) (l.drop (j + 1)) = G from HG.out)
          go_wp2
          go_round
          case rel => exact ⟨j + 1, by omega, by omega, by go_num, by rw [← hf2]; exact HG2.out⟩
          case measure => simp [intOf]; omega
      · have HG2 := Lib.hid (show digs j (l.drop (j + 1)) = G from HG.out)
        rw [← HG2.out] at HN
        have hne : ((j : Int) == (n : Int)) = false := by simp; omega
        have hRl : (l.drop (j + 1)).length = n - (j + 1) := by rw [List.length_drop, HLen.out]
        have HT := Lib.hid (show NR = if (l.drop (j + 1)).length < j then (0, 5, []) else if 1048576 < val ((l.drop (j + 1)).take j) then (0, 2, []) else (val ((l.drop (j + 1)).take j), 0, (l.drop (j + 1)).drop j) by
          rw [HN.out]
          unfold digs
          by_cases h : (l.drop (j + 1)).length < j
          · simp only [if_pos h]; rfl
          · simp only [if_neg h]; rfl)
        have hRow := HR.out.drop (j + 1)
        have hRsub : c = j + 1 → l.drop (j + 1) = [] := fun e => List.drop_of_length_le (by rw [HLen.out]; omega)
        generalize l.drop (j + 1) = R at *
        generalize hr : n - (j + 1) = r at *
        generalize hs : c - (j + 1) = s at *
        have hrs : r ≤ s := by omega
        have hr4 : r ≤ 4096 := by omega
        rw [hRl] at HT
        clear hf2 HN HG HG2 HG0
        by_cases hcut : c = j + 1
        · obtain ⟨o2, ho2⟩ : ∃ o2, o = o2 := ⟨_, rfl⟩
          have HRow := Lib.hid (show BRow w b o2 R by rw [hRsub hcut]; exact BRow.nil _ _ _)
          subst ho2
          clear hRow hRsub
          by_cases hsh : r < j
          · rw [if_pos hsh] at HT
            go_wp2
            go_ret3
            rw [HT.out]
            exact ⟨⟨0, rfl⟩, .inl ⟨by decide, rfl⟩⟩
          · rw [if_neg hsh] at HT
            have hd1 : decide (r < j) = false := by simp; omega
            have hjs : j ≤ s := by omega
            have hj0 : decide (j ≤ 21) = true := by simp; omega
            by_cases hs0 : s = 0
            · obtain rfl : j = 0 := by omega
              obtain rfl : r = 0 := by omega
              subst hs0
              have HT2 := Lib.hid (show NR = (1, 0, R) from HT.out)
              try simp only [Nat.add_zero] at hcl
              go_wp2
              refine wp_loop_rounds 1 ?_
              rw [rounds_succ]
              go_wp2
              go_quiet (fail)
              go_wp2
              go_ret3
              rw [HT2.out]
              exact ⟨⟨_, rfl⟩, .inr ⟨rfl, _, 0, by rw [hRl]; rfl, by rw [hRl]; exact Nat.le_refl _, HRow.out⟩⟩
            · exact absurd (show s = 0 by omega) hs0
        · have hcut2 : ¬ j + 1 = c := fun e => hcut e.symm
          obtain ⟨o2, ho2⟩ : ∃ o2, o + (j + 1) = o2 := ⟨_, rfl⟩
          rw [ho2] at hRow
          have HRow := Lib.hid hRow
          clear hRow hRsub
          by_cases hsh : r < j
          · rw [if_pos hsh] at HT
            go_wp2
            go_ret3
            rw [HT.out]
            exact ⟨⟨0, rfl⟩, .inl ⟨by decide, rfl⟩⟩
          · rw [if_neg hsh] at HT
            have hd1 : decide (r < j) = false := by simp; omega
            have hjs : j ≤ s := by omega
            have hj0 : decide (j ≤ 21) = true := by simp; omega
            by_cases hs0 : s = 0
            · exact absurd (show c = j + 1 by omega) hcut
            · go_wp2
              go_loop [11, 61] (fun x i => ∃ q y : Nat, q ≤ j ∧ i = .int .i64 q ∧ x = .int .i64 y ∧ y = val (R.take q)) (fun _ i => j - (intOf i).toNat)
              case atStart => exact ⟨0, 1, Nat.zero_le _, rfl, rfl, rfl⟩
              case round =>
                obtain ⟨q, y, hq, rfl, rfl, hy⟩ := hrel
                have hvb : y < 4194304 := by
                  rw [hy]
                  exact Nat.lt_of_lt_of_le (val_lt (R.take q)).1 (Nat.pow_le_pow_right (n := 2) (j := 22) (by decide) (by rw [List.length_take]; omega))
                have HY := Lib.hid hy
                clear hy
                by_cases hqj : q < j
                · obtain ⟨x, hx, _⟩ := drop_at hRl (show q < r by omega)
                  have hcq := HRow.out q x hx
                  have HX := Lib.hid (show val (R.take (q + 1)) = 2 * y + x.toNat by rw [HY.out, List.take_add_one, hx]; exact val_snoc _ _)
                  clear hx
                  cases x
                  all_goals
                    go_wp2
                    go_round
                    case rel => exact ⟨q + 1, _, by omega, by go_num, rfl, by rw [HX.out]; go_num⟩
                    case measure => simp [intOf]; omega
                · obtain rfl : q = j := by omega
                  rw [← HY.out] at HT
                  by_cases hbig : 1048576 < y
                  · rw [if_pos hbig] at HT
                    go_wp2
                    go_ret3
                    rw [HT.out]
                    exact ⟨⟨0, rfl⟩, .inl ⟨by decide, rfl⟩⟩
                  · rw [if_neg hbig] at HT
                    by_cases hsj : s = q
                    · subst hsj
                      obtain rfl : r = s := by omega
                      have hnil : R.drop r = [] := List.drop_of_length_le (by omega)
                      rw [hnil] at HT
                      go_wp2
                      go_quiet (fail)
                      go_wp2
                      go_ret3
                      rw [HT.out]
                      exact ⟨⟨_, rfl⟩, .inr ⟨rfl, o2, 0, by simp, by simp, BRow.nil _ _ _⟩⟩
                    · go_wp2
                      go_quiet (fail)
                      go_wp2
                      go_ret3
                      rw [HT.out]
                      exact ⟨⟨_, rfl⟩, .inr ⟨rfl, o2 + q, s - q, by simp [hRl], by simp; omega, HRow.out.drop q⟩⟩
    · obtain rfl : j = n := by omega
      have hnil : l.drop j = [] := List.drop_of_length_le (by rw [HLen.out]; omega)
      rw [hnil] at HG
      clear hnil
      have HG2 := Lib.hid (show ((0, 5, []) : Nat × Nat × List Bool) = G from HG.out)
      rw [← HG2.out] at HN
      have HN2 := Lib.hid (show NR = (0, 5, []) from HN.out)
      go_wp2
      go_ret3
      rw [HN2.out]
      exact ⟨⟨0, rfl⟩, .inl ⟨by decide, rfl⟩⟩

set_option maxHeartbeats 4000000 in
/-- The document's gamNext of a delta code. -/
theorem next_two (b o : Nat) (l : List Bool) (c : Nat) (w : World) (hc : l.length ≤ c) (hl : l.length ≤ 4096) (hR : BRow w b o l) :
    Calls Try.prog 34 #[.int .i64 2, .slice (some ⟨b, o, none⟩) l.length c] w (NextGives w b (numR 2 l)) := by
  have HC := Lib.hid (next_one b o l c w hc hl hR)
  have HN := Lib.hid (numR_two l)
  have hpos : (numR 1 l).2.1 = 0 → 1 ≤ (numR 1 l).1 := fun h => by
    rw [numR_one] at h ⊢
    by_cases he : (gnext l).2.1 = 0
    · rw [if_neg (by simpa using he)] at h ⊢
      by_cases hb : 1048576 < (gnext l).1
      · rw [if_pos hb] at h; simp at h
      · rw [if_neg hb]; exact gnext_pos he
    · rw [if_pos he] at h; exact absurd h he
  have hlen := numR_len (k := 1) (l := l)
  generalize numR 2 l = NR at *
  generalize numR 1 l = T at *
  obtain ⟨n, er, R⟩ := T
  simp only at HN hpos hlen
  clear hR
  by_cases he : er = 0
  · subst he
    have hpos := hpos rfl
    have hlen := hlen rfl
    rw [if_neg (by simp)] at HN
    by_cases hn : 21 < n
    · rw [if_pos hn] at HN
      go_enter Try.func34, Try.ntmps34
      go_wp2_with fail
      refine HC.out.mono ?_
      rintro e w1 ⟨⟨d, rfl⟩, ⟨hx, _⟩ | ⟨_, o2, s, rfl, hrs, hRow⟩⟩
      · exact absurd rfl hx
      simp only at hrs hRow
      go_wp2
      go_ret3
      rw [HN.out]
      exact ⟨⟨d, rfl⟩, .inl ⟨by decide, rfl⟩⟩
    · rw [if_neg hn] at HN
      obtain ⟨j, rfl⟩ : ∃ j, n = j + 1 := ⟨n - 1, by omega⟩
      rw [Nat.add_sub_cancel] at HN
      have HT := Lib.hid (show NR = if R.length < j then (0, 5, []) else if 1048576 < val (R.take j) then (0, 2, []) else (val (R.take j), 0, R.drop j) by
        rw [HN.out]
        unfold digs
        by_cases h : R.length < j
        · simp only [if_pos h]; rfl
        · simp only [if_neg h]; rfl)
      generalize hRl : R.length = r at *
      have hr4 : r ≤ 4096 := by omega
      clear HN
      go_enter Try.func34, Try.ntmps34
      go_wp2_with fail
      refine HC.out.mono ?_
      rintro e w1 ⟨⟨d, rfl⟩, ⟨hx, _⟩ | ⟨_, o2, s, rfl, hrs, hRow⟩⟩
      · exact absurd rfl hx
      simp only [hRl] at hrs hRow ⊢
      have HRow := Lib.hid hRow
      clear hRow hc hl hlen
      by_cases hsh : r < j
      · rw [if_pos hsh] at HT
        go_wp2
        go_ret3
        rw [HT.out]
        exact ⟨⟨d, rfl⟩, .inl ⟨by decide, rfl⟩⟩
      · rw [if_neg hsh] at HT
        have hd1 : decide (r < j) = false := by simp; omega
        have hjs : j ≤ s := by omega
        have hj0 : decide (j ≤ 21) = true := by simp; omega
        by_cases hs0 : s = 0
        · obtain rfl : j = 0 := by omega
          obtain rfl : r = 0 := by omega
          subst hs0
          have HT2 := Lib.hid (show NR = (1, 0, R) from HT.out)
          try simp only [Nat.add_zero] at hcl
          go_wp2
          refine wp_loop_rounds 1 ?_
          rw [rounds_succ]
          go_wp2
          go_quiet (fail)
          go_wp2
          go_ret3
          rw [HT2.out]
          exact ⟨⟨_, (World.drewN_drewN _ _ _)⟩, .inr ⟨rfl, _, 0, by rw [hRl]; rfl, by rw [hRl]; exact Nat.le_refl _, HRow.out⟩⟩
        · go_wp2
          go_loop [11, 61] (fun x i => ∃ q y : Nat, q ≤ j ∧ i = .int .i64 q ∧ x = .int .i64 y ∧ y = val (R.take q)) (fun _ i => j - (intOf i).toNat)
          case atStart => exact ⟨0, 1, Nat.zero_le _, rfl, rfl, rfl⟩
          case round =>
            obtain ⟨q, y, hq, rfl, rfl, hy⟩ := hrel
            have hvb : y < 4194304 := by
              rw [hy]
              exact Nat.lt_of_lt_of_le (val_lt (R.take q)).1 (Nat.pow_le_pow_right (n := 2) (j := 22) (by decide) (by rw [List.length_take]; omega))
            have HY := Lib.hid hy
            clear hy
            by_cases hqj : q < j
            · obtain ⟨x, hx, _⟩ := drop_at hRl (show q < r by omega)
              have hcq := HRow.out q x hx
              have HX := Lib.hid (show val (R.take (q + 1)) = 2 * y + x.toNat by rw [HY.out, List.take_add_one, hx]; exact val_snoc _ _)
              clear hx
              cases x
              all_goals
                go_wp2
                go_round
                case rel => exact ⟨q + 1, _, by omega, by go_num, rfl, by rw [HX.out]; go_num⟩
                case measure => simp [intOf]; omega
            · obtain rfl : q = j := by omega
              rw [← HY.out] at HT
              by_cases hbig : 1048576 < y
              · rw [if_pos hbig] at HT
                go_wp2
                go_ret3
                rw [HT.out]
                exact ⟨⟨d, rfl⟩, .inl ⟨by decide, rfl⟩⟩
              · rw [if_neg hbig] at HT
                by_cases hsj : s = q
                · subst hsj
                  obtain rfl : r = s := by omega
                  have hnil : R.drop r = [] := List.drop_of_length_le (by omega)
                  rw [hnil] at HT
                  go_wp2
                  go_quiet (fail)
                  go_wp2
                  go_ret3
                  rw [HT.out]
                  exact ⟨⟨_, (World.drewN_drewN _ _ _)⟩, .inr ⟨rfl, o2, 0, by simp, by simp, BRow.nil _ _ _⟩⟩
                · go_wp2
                  go_quiet (fail)
                  go_wp2
                  go_ret3
                  rw [HT.out]
                  exact ⟨⟨_, (World.drewN_drewN _ _ _)⟩, .inr ⟨rfl, o2 + q, s - q, by simp [hRl], by simp; omega, HRow.out.drop q⟩⟩
  · rw [if_pos he] at HN
    have hne : ((er : Int) != 0) = true := by simp; omega
    clear hpos hlen
    go_enter Try.func34, Try.ntmps34
    go_wp2_with fail
    refine HC.out.mono ?_
    rintro e w1 ⟨⟨d, rfl⟩, ⟨_, rfl⟩ | ⟨hx, _⟩⟩
    · go_wp2
      go_ret3
      rw [HN.out]
      exact ⟨⟨d, rfl⟩, .inl ⟨he, rfl⟩⟩
    · exact absurd hx he

/-- The document's gamNext. -/
theorem next_any (k b o : Nat) (l : List Bool) (c : Nat) (w : World) (hk : k = 1 ∨ k = 2) (hc : l.length ≤ c) (hl : l.length ≤ 4096) (hR : BRow w b o l) :
    Calls Try.prog 34 #[.int .i64 k, .slice (some ⟨b, o, none⟩) l.length c] w (NextGives w b (numR k l)) := by
  rcases hk with rfl | rfl
  · exact next_one b o l c w hc hl hR
  · exact next_two b o l c w hc hl hR
end Go.Proofs.Ytelcnkmgdohigaa
