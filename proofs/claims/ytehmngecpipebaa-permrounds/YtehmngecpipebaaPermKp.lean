/-
  What Shuffle and then of the keeps return: contracts, walked over the translated text. No condition but what each theorem names.
-/
import Derived.Test.YtehmngecpipebaaPermTh
import Derived.Test.YtehmngecpipebaaKeep3
import Derived.Test.YtehmngecpipebaaSameI
import Derived.BigRegion
namespace Go.Proofs.Ytehmngecpipebaa
open Go.RowKit Words

/-- The place that a number is exchanged with, and the order after i exchanges. -/
def shk (l : List Int) (n i : Nat) : Nat := i + pick (n - i) (if i < l.length then l.getD i 0 else (i : Int) * 7)
def shufTo (l : List Int) (n : Nat) : Nat → List Nat
  | 0 => List.range n
  | i + 1 => exch (shufTo l n i) i (shk l n i)
def shuf (l : List Int) (n : Nat) : List Nat := shufTo l n n
theorem shufTo_length (l : List Int) (n : Nat) : ∀ i, (shufTo l n i).length = n
  | 0 => by rw [shufTo, List.length_range]
  | i + 1 => by rw [shufTo, exch_length, shufTo_length]
theorem shk_lt (l : List Int) {n i : Nat} (hi : i < n) : shk l n i < n := by
  unfold shk
  have := pick_lt (n := n - i) (by omega) (if i < l.length then l.getD i 0 else (i : Int) * 7)
  omega
theorem shufTo_perm (l : List Int) (n : Nat) : ∀ i, i ≤ n → PermL (shufTo l n i)
  | 0, _ => PermL.range n
  | i + 1, h => by
    rw [shufTo]
    exact (shufTo_perm l n i (by omega)).of_eq (exch_perm (by rw [shufTo_length]; omega) (by rw [shufTo_length]; exact shk_lt l (by omega)))
theorem shuf_perm (l : List Int) (n : Nat) : PermL (shuf l n) := shufTo_perm l n n (Nat.le_refl _)
theorem shuf_length (l : List Int) (n : Nat) : (shuf l n).length = n := shufTo_length l n n
/-- Of noughts: the numbers in order. -/
theorem shuf_none (n : Nat) : shuf (List.replicate n 0) n = List.range n := by
  have h : ∀ i, i ≤ n → shufTo (List.replicate n 0) n i = List.range n := by
    intro i
    induction i with
    | zero => intro _; rfl
    | succ i ih =>
      intro hi
      have hk : shk (List.replicate n 0) n i = i := by
        unfold shk
        rw [if_pos (by simp; omega), List.getD_eq_getElem?_getD, List.getElem?_replicate, if_pos (by omega)]
        show i + pick (n - i) 0 = i
        unfold pick
        simp
      rw [shufTo, hk, exch_self, ih (by omega)]
  exact h n (Nat.le_refl _)

/-- A list of numbers, new. -/
def GivesL (w : World) (q : List Nat) (n : Nat) (e : Ending) (w' : World) : Prop := ∃ A c, e = .returned (.slice A n c) ∧ n ≤ c ∧ Lies w' w'.heap.size A (natC q) ∧ (A = none → c = 0) ∧ New w.heap.size A ∧ Below w.heap.size w w'

set_option maxHeartbeats 4000000 in
/-- damaskkeep.Shuffle. -/
theorem shuffle_any (A : Option Addr) (l : List Int) (c n : Nat) (w : World) (hn1 : 1 ≤ n) (hn : n ≤ 300) (hl : l.length ≤ 17592186044416) (hw : ∀ z ∈ l, (Lit.int .i64 z).wf = true) (hL : Lies w w.heap.size A (l.map (.int .i64))) :
    Calls Try.prog 35 #[.slice A l.length c, .int .i64 n] w (GivesL w (shuf l n) n) := by
  have HL := Lib.hid hL
  have HW := Lib.hid hw
  have HS0 := Lib.hid (show shufTo l n 0 = List.range n from rfl)
  have HSt := Lib.hid (fun i => show shufTo l n (i + 1) = exch (shufTo l n i) i (shk l n i) from rfl)
  have HSl := Lib.hid (fun i => shufTo_length l n i)
  have HKl := Lib.hid (fun i (hi : i < n) => shk_lt l hi)
  have HK1 := Lib.hid (fun i z (h : l[i]? = some z) => show shk l n i = i + pick (n - i) z by
    unfold shk
    rw [if_pos (List.getElem?_eq_some_iff.1 h).1, List.getD_eq_getElem?_getD, h]; rfl)
  have HK2 := Lib.hid (fun i (h : ¬ i < l.length) => show shk l n i = i + pick (n - i) ((i : Int) * 7) by
    unfold shk
    rw [if_neg h])
  have HFin := Lib.hid (show shuf l n = shufTo l n n from rfl)
  obtain ⟨m, hm⟩ : ∃ m, l.length = m := ⟨_, rfl⟩
  rw [hm] at hl HK2 ⊢
  have HM := Lib.hid hm
  clear hL hw hm
  go_enter Try.func35, Try.ntmps35
  go_wp2_with fail
  go_loopw [5, 6] (fun v u w' => ∃ i : Nat, i ≤ n ∧ u = .int .i64 i ∧ w'.ownsRow w.heap.size 3 1 v i (natC (List.range i)) ∧ Below w.heap.size w w') (fun _ u _ => n - (intOf u).toNat)
  case atStart => exact ⟨0, Nat.zero_le _, rfl, World.ownsRow_nil _ _ _ _, Below.refl _ _⟩
  case round =>
    obtain ⟨i, hi, rfl, hown, hbl⟩ := hrel
    have HB2 := Lib.hid hbl
    have hsz := hbl.size
    by_cases hlt : i < n
    · clear hbl
      go_wp2_with (at_builtin; go_loud (refine append_one _ rfl (.tmp 15) (.tmp 17) 22 rfl w.heap.size 3 (.int .i64 0) 8 Try.underlying22 pint_info rfl u5 i _ rfl (hown.alloc _) wr.heap.size 1 (.int .i64 i) rfl (by simp) rfl (by simp only [maxLen]; omega) (by omega) (by simp; omega) ?_))
      intro v1 w3 hown1 hg1
      go_wp2_with fail
      go_roundw
      case rel => exact ⟨i + 1, by omega, by go_num, by rw [range_natC]; exact hown1, (HB2.out.alloc hsz _).grown hg1 (by simp; omega) (fun q hq => (hown.lt q hq).1)⟩
      case measure => simp [intOf]; omega
    · obtain rfl : n = i := by omega
      obtain ⟨A2, c2, rfl, _, _, _, _, _⟩ := own_slice hown
      obtain ⟨g, rfl, hgb⟩ := own_at hown (by omega)
      rw [← HS0.out] at hown
      have HOw := Lib.hid hown
      clear hown hbl
      go_wp2_with fail
      go_loopw [7] (fun u w' => ∃ i : Nat, i ≤ n ∧ u = .int .i64 i ∧ w'.ownsRow w.heap.size 3 1 (.slice (some ⟨g, 0, none⟩) n c2) n (natC (shufTo l n i)) ∧ Below w.heap.size w w') (fun u _ => n - (intOf u).toNat)
      case atStart => exact ⟨0, Nat.zero_le _, rfl, HOw.out, HB2.out⟩
      case round =>
        rename World => wz
        obtain ⟨i, hi, rfl, hown, hbl⟩ := hrel
        have HO2 := Lib.hid hown
        have HB3 := Lib.hid hbl
        by_cases hlt : i < n
        · have hkl := HKl.out i hlt
          have hst := HSt.out i
          have hlen := HSl.out i
          have hfi := own_frozen hown i
          have hci := own_cell hown (natC_at _ i _ (st_get (p := shufTo l n i) (i := i) (by omega)))
          have hck := own_cell hown (natC_at _ _ _ (st_get (p := shufTo l n i) (i := shk l n i) (by omega)))
          have hfk := own_frozen hown (shk l n i)
          obtain ⟨a, ha⟩ : ∃ a, st (shufTo l n i) i = a := ⟨_, rfl⟩
          obtain ⟨b, hb⟩ : ∃ b, st (shufTo l n i) (shk l n i) = b := ⟨_, rfl⟩
          unfold exch at hst
          rw [ha, hb] at hst
          rw [ha] at hci
          rw [hb] at hck
          have HStep := Lib.hid hst
          have hlw := HL.out.below hbl
          have HOk := Lib.hid (fun (k : Nat) (x y : Nat) => own_put (own_put HO2.out i (.int .i64 (x : Int))) k (.int .i64 (y : Int)))
          obtain ⟨k, hk⟩ : ∃ k, shk l n i = k := ⟨_, rfl⟩
          by_cases hlm : i < m
          · obtain ⟨bl, ol, z, rfl, hbz, hz, hcz⟩ := hlw.at_ (k := i) (by rw [HM.out]; exact hlm)
            have hkk := HK1.out i z hz
            have hwz := HW.out z (List.mem_of_getElem? hz)
            have HP := Lib.hid (fun W => pick_any z (n - i) W (by omega) (by omega) hwz)
            rw [hk] at hkk
            have hpl := pick_lt (n := n - i) (by omega) (z)
            rw [hk] at hkl hck hfk HStep
            generalize pick (n - i) (z) = q at *
            have hiq : (i : Int) + (q : Int) = (k : Int) := by omega
            obtain ⟨d, hd⟩ : ∃ d, n - i = d := ⟨_, rfl⟩
            rw [hd] at HP
            have hni : (n : Int) - (i : Int) = (d : Int) := by omega
            clear hd
            clear hkk hown hbl hst hlen hlw ha hb
            go_wp2_with fail
            refine (HP.out _).mono ?_
            rintro e w' ⟨rfl, rfl⟩
            go_wp2_with fail
            have hki : (k : Int) < (n : Int) := by omega
            have hii : (i : Int) < (n : Int) := by omega
            have ho1 := own_put HO2.out i (.int .i64 (b : Int))
            rw [natC_set] at ho1
            have hc2 := own_cell ho1 (natC_at _ k _ (st_get (p := (shufTo l n i).set i b) (i := k) (by rw [List.length_set, HSl.out]; exact hkl)))
            have hf2 := own_frozen ho1 k
            generalize st ((shufTo l n i).set i b) k = a2 at *
            clear HP hiq hni hpl ho1
            go_region
            go_wp2
            go_roundw
            case rel => exact ⟨i + 1, by omega, by go_num, by
              have h := HOk.out k b a
              rw [natC_set, natC_set, ← HStep.out] at h
              exact own_keep h fun q _ => rfl, ((HB3.out.setCell hgb _).setCell hgb _).drew⟩
            case measure => simp [intOf]; omega
          · have hkk := HK2.out i hlm
            have HP := Lib.hid (fun W => pick_any ((i : Int) * 7) (n - i) W (by omega) (by omega) (wf_small _ (by omega) (by omega)))
            rw [hk] at hkk
            have hpl := pick_lt (n := n - i) (by omega) ((i : Int) * 7)
            rw [hk] at hkl hck hfk HStep
            generalize pick (n - i) ((i : Int) * 7) = q at *
            have hiq : (i : Int) + (q : Int) = (k : Int) := by omega
            obtain ⟨d, hd⟩ : ∃ d, n - i = d := ⟨_, rfl⟩
            rw [hd] at HP
            have hni : (n : Int) - (i : Int) = (d : Int) := by omega
            clear hd
            clear hkk hown hbl hst hlen hlw ha hb
            go_wp2_with fail
            refine (HP.out _).mono ?_
            rintro e w' ⟨rfl, rfl⟩
            go_wp2_with fail
            have hki : (k : Int) < (n : Int) := by omega
            have hii : (i : Int) < (n : Int) := by omega
            have ho1 := own_put HO2.out i (.int .i64 (b : Int))
            rw [natC_set] at ho1
            have hc2 := own_cell ho1 (natC_at _ k _ (st_get (p := (shufTo l n i).set i b) (i := k) (by rw [List.length_set, HSl.out]; exact hkl)))
            have hf2 := own_frozen ho1 k
            generalize st ((shufTo l n i).set i b) k = a2 at *
            clear HP hiq hni hpl ho1
            go_region
            go_wp2
            go_roundw
            case rel => exact ⟨i + 1, by omega, by go_num, by
              have h := HOk.out k b a
              rw [natC_set, natC_set, ← HStep.out] at h
              exact own_keep h fun q _ => rfl, ((HB3.out.setCell hgb _).setCell hgb _).drew⟩
            case measure => simp [intOf]; omega
        · obtain rfl : n = i := by omega
          obtain ⟨A3, c3, e3, hle3, _, hl3, hn3, hnew3⟩ := own_slice hown
          injection e3 with e4 _ e5
          subst e4 e5
          have HL3 := Lib.hid hl3
          clear hown hbl hl3 hn3
          go_wp2_with fail
          go_ret
          exact ⟨_, _, rfl, hle3, by rw [HFin.out]; exact HL3.out, (fun e => by cases e), hnew3, HB3.out⟩

/-- damaskkeep.copied of numbers. -/
theorem copied_nat (A : Option Addr) (q : List Nat) (n c : Nat) (w : World) (hq : q.length = n) (hn : n ≤ 1000000) (hnone : A = none → c = 0) (hL : Lies w w.heap.size A (natC q)) :
    Calls Try.prog 36 #[.slice A n c] w (GivesL w q n) := by
  have e : natC q = (ofN q).map (Value.int .i64) := by unfold ofN; rw [← natC_map]
  have h := copied_any A (ofN q) c w (by rw [ofN_length]; omega) hnone (by rw [← e]; exact hL)
  rw [ofN_length, hq] at h
  refine h.mono ?_
  rintro e' w' ⟨A', c', rfl, hle, hl, hn', hnew, hb⟩
  rw [List.length_map, ofN_length, hq] at hle
  rw [← e] at hl
  refine ⟨A', c', ?_, hle, hl, hn', hnew, hb⟩
  rw [List.length_map, ofN_length, hq]

/-- damaskkeep.sameInts of equal numbers. -/
theorem sameK_nat (A A2 : Option Addr) (q : List Nat) (n c c2 : Nat) (w : World) (hq : q.length = n) (hn : n ≤ 17592186044416) (h1 : Lies w w.heap.size A (natC q)) (h2 : Lies w w.heap.size A2 (natC q)) :
    Calls Try.prog 38 #[.slice A n c, .slice A2 n c2] w fun e w' => e = .returned (.bool true) ∧ Below w.heap.size w w' := by
  have e : natC q = (ofN q).map (Value.int .i64) := by unfold ofN; rw [← natC_map]
  rw [e] at h1 h2
  have h := sameIntsK_eq A A2 (ofN q) c c2 w (by rw [ofN_length]; omega) h1 h2
  rwa [ofN_length, hq] at h

set_option maxHeartbeats 1000000 in
/-- damaskkeep.then. -/
theorem thenK_any (A A2 : Option Addr) (p q : List Nat) (n c c2 : Nat) (w : World) (hp : PermL p) (hq : PermL q) (hpn : p.length = n) (hqn : q.length = n) (hn : n ≤ 300) (hnone : A = none → c = 0) (hnone2 : A2 = none → c2 = 0) (hL : Lies w w.heap.size A (natC p)) (hL2 : Lies w w.heap.size A2 (natC q)) :
    Calls Try.prog 37 #[.slice A n c, .slice A2 n c2] w (GivesL w (thenL p q) n) := by
  have H1 := Lib.hid (copied_nat A p n c w hpn (by omega) hnone hL)
  have H2 := Lib.hid (fun W hW => copied_nat A2 q n c2 W hqn (by omega) hnone2 hW)
  have H3 := Lib.hid (fun B B2 d d2 W hW hW2 => then_ok B B2 p q d d2 W hp hq (by omega) (by omega) hW hW2)
  rw [hpn] at H3
  have HL2 := Lib.hid hL2
  generalize thenL p q = pq at *
  clear hL hL2 hp hq hpn hqn hnone hnone2
  go_enter Try.func37, Try.ntmps37
  go_wp2_with fail
  refine H1.out.mono ?_
  rintro e w1 ⟨B, d, rfl, _, hl1, _, _, hb1⟩
  have HB1 := Lib.hid hb1
  have HL1 := Lib.hid hl1
  clear hb1 hl1
  go_wp2_with fail
  refine (H2.out _ (HL2.out.on HB1.out)).mono ?_
  rintro e w2 ⟨B2, d2, rfl, _, hl2, _, _, hb2⟩
  have HB2 := Lib.hid hb2
  have HL3 := Lib.hid hl2
  clear hb2 hl2
  go_wp2_with fail
  refine (H3.out B B2 d d2 _ (HL1.out.on HB2.out) HL3.out).mono ?_
  rintro e w3 ⟨B3, d3, rfl, hle, hl3, hn3, hnew3, hb3⟩
  have HB := Lib.hid (chain (chain HB1.out HB2.out) hb3)
  have HL4 := Lib.hid hl3
  have hs := (chain HB1.out HB2.out).size
  have HN4 := Lib.hid (show New w.heap.size B3 from hnew3.mono hs)
  have HN3 := Lib.hid hn3
  clear hb3 hl3 hn3 hnew3
  go_wp2_with fail
  go_ret
  exact ⟨B3, d3, rfl, hle, HL4.out, HN3.out, HN4.out, HB.out⟩
end Go.Proofs.Ytehmngecpipebaa
