/-
  What fano.Make and its helpers return: contracts, walked over the translated text. No condition but what each theorem names.
-/
import Derived.Test.YtmlekhgjnhnjlaaDoorFanoI
import Derived.Test.YtmlekhgjnhnjlaaDoorPackMk
import Derived.Test.YtmlekhgjnhnjlaaDoorBitsMk
import Derived.Test.YtmlekhgjnhnjlaaDoorSigned
import Derived.RegionTactic
import Derived.BigRegion
namespace Go.Proofs.YtmlekhgjnhnjlaaDoor
open Go.RowKit Words

theorem allowed_yes (B : Nat) (w : World) (hB : B ≤ 1048576) :
    Calls Tryd.prog 26 #[.int .i64 B] w fun e w' => e = .returned (.bool true) ∧ w = w' := by
  have h0 : decide (0 ≤ (B : Int)) = true := by simp
  have h1 : decide ((B : Int) ≤ 1048576) = true := by simp; omega
  go_enter Tryd.func26, Tryd.ntmps26
  go_wp2
  go_ret
  exact ⟨rfl, rfl⟩

theorem allowed_no (z : Int) (w : World) (h : z < 0 ∨ 1048576 < z) :
    Calls Tryd.prog 26 #[.int .i64 z] w fun e w' => e = .returned (.bool false) ∧ w = w' := by
  by_cases h0 : z < 0
  · have hd : decide (0 ≤ z) = false := by simpa using h0
    clear h
    go_enter Tryd.func26, Tryd.ntmps26
    go_wp2
    go_ret
    exact ⟨rfl, rfl⟩
  · have hd : decide (0 ≤ z) = true := by simpa using h0
    have hd1 : decide (z ≤ 1048576) = false := by simp; omega
    clear h
    go_enter Tryd.func26, Tryd.ntmps26
    go_wp2
    go_ret
    exact ⟨rfl, rfl⟩

set_option maxHeartbeats 400000 in
/-- fano.monotone. -/
theorem monotone_any (A : Option Addr) (l : List Int) (c B : Nat) (w : World) (t : Bool) (hn : l.length ≤ 300) (hL : Lies w w.heap.size A (l.map (.int .i64))) (ht : t = true ↔ AllGood B l) :
    Calls Tryd.prog 27 #[.slice A l.length c, .int .i64 B] w fun e w' => e = .returned (.bool t) ∧ w = w' := by
  have HL := Lib.hid hL
  have HT := Lib.hid ht
  clear hL ht
  generalize hnn : l.length = n at *
  have HN := Lib.hid hnn
  clear hnn
  go_enter Tryd.func27, Tryd.ntmps27
  go_wp2
  go_loop [5, 10] (fun a u => ∃ i : Nat, i ≤ n ∧ u = .int .i64 i ∧ a = .int .i64 (lst l i) ∧ 0 ≤ lst l i ∧ ∀ j, j < i → Good B l j) (fun _ u => n - (intOf u).toNat)
  case atStart => exact ⟨0, Nat.zero_le _, rfl, rfl, Int.le_refl _, fun j h => by omega⟩
  case round =>
    obtain ⟨i, hi, rfl, rfl, h0, hz⟩ := hrel
    have HZ := Lib.hid hz
    clear hz
    by_cases hlt : i < n
    · obtain ⟨b, o, x, rfl, hb, hx, hc⟩ := HL.out.at_ (k := i) (by rw [HN.out]; exact hlt)
      have HG := Lib.hid (good_iff B l i x hx h0)
      have HS := Lib.hid (lst_succ l i x hx)
      clear hx
      generalize lst l i = a at *
      have bad : ¬ (a ≤ x ∧ x ≤ (B : Int)) → t = false := fun hb => by
        cases t with
        | false => rfl
        | true => exact absurd (HG.out.1 (HT.out.1 rfl i (by rw [HN.out]; exact hlt))) hb
      by_cases h1 : x < a
      · have HB := Lib.hid (bad (by omega))
        clear bad
        go_wp2
        go_ret
        rw [HB.out]
        exact ⟨rfl, rfl⟩
      · by_cases h2 : (B : Int) < x
        · have HB := Lib.hid (bad (by omega))
          clear bad
          go_wp2
          go_ret
          rw [HB.out]
          exact ⟨rfl, rfl⟩
        · clear bad
          have HGo := Lib.hid (HG.out.2 ⟨by omega, by omega⟩)
          go_wp2
          go_round
          case rel => exact ⟨i + 1, by omega, by go_num, by rw [HS.out], by rw [HS.out]; omega, fun j hj => by
            by_cases e : j = i
            · rw [e]; exact HGo.out
            · exact HZ.out j (by omega)⟩
          case measure => simp [intOf]; omega
    · obtain rfl : i = n := by omega
      have HB := Lib.hid (HT.out.2 fun j hj => HZ.out j (by rw [HN.out] at hj; exact hj))
      go_wp2
      go_ret
      rw [HB.out]
      exact ⟨rfl, rfl⟩

theorem shl_i64 (n k : Nat) (hn : n ≤ 300) (hk : k ≤ 21) : IntKind.i64.wrap ((n : Int) * 2 ^ k) = ((n * 2 ^ k : Nat) : Int) := by
  have h : n * 2 ^ k ≤ 300 * 2 ^ 21 := Nat.mul_le_mul hn (Nat.pow_le_pow_right (by decide) hk)
  have e : (n : Int) * 2 ^ k = ((n * 2 ^ k : Nat) : Int) := by simp
  rw [e, IntKind.wrap_i64]
  generalize n * 2 ^ k = q at *
  omega

set_option maxHeartbeats 400000 in
/-- fano.widthFor. -/
theorem widthFor_any (B n : Nat) (w : World) (hB : B ≤ 1048576) (hn : n ≤ 300) :
    Calls Tryd.prog 28 #[.int .i64 B, .int .i64 n] w fun e w' => e = .returned (.int .i64 (fw n B : Nat)) ∧ w = w' := by
  by_cases h0 : n = 0
  · subst h0
    have HZ := Lib.hid (fw_zero B)
    go_enter Tryd.func28, Tryd.ntmps28
    go_wp2
    go_loop [5] (fun v => v = .int .i64 0) (fun v => 0)
    case atStart => rfl
    case round =>
      subst hrel
      go_wp2
      go_ret
      rw [HZ.out]
      exact ⟨rfl, rfl⟩
  · have hp : 0 < n := by omega
    have hd0 : decide (0 < n) = true := by simpa using hp
    have HU := Lib.hid (fun k h1 h2 => fw_uniq (w := k) hp hB h1 h2)
    generalize fw n B = f at *
    go_enter Tryd.func28, Tryd.ntmps28
    go_wp2
    go_loop [5] (fun v => ∃ k : Nat, v = .int .i64 k ∧ k ≤ 20 ∧ (k = 0 ∨ n * 2 ^ k ≤ B)) (fun v => 21 - (intOf v).toNat)
    case atStart => exact ⟨0, rfl, by omega, .inl rfl⟩
    case round =>
      obtain ⟨k, rfl, hk, hle⟩ := hrel
      have HLE := Lib.hid hle
      clear hle
      have hs := shl_i64 n (k + 1) hn (by omega)
      by_cases hc : n * 2 ^ (k + 1) ≤ B
      · have HC := Lib.hid hc
        have hk2 : k + 1 ≤ 20 := by
          rcases Nat.lt_or_ge k 20 with h | h
          · omega
          · have h3 : 1 * 2 ^ 21 ≤ n * 2 ^ (k + 1) := Nat.mul_le_mul hp (Nat.pow_le_pow_right (by decide) (by omega))
            omega
        generalize hqq : n * 2 ^ (k + 1) = q at *
        have HQ := Lib.hid hqq
        clear hqq
        go_wp2
        go_round
        case rel => exact ⟨k + 1, by go_num, hk2, .inr (by rw [HQ.out]; exact HC.out)⟩
        case measure => simp [intOf]; omega
      · have HF := Lib.hid (HU.out k HLE.out (by omega))
        generalize n * 2 ^ (k + 1) = q at *
        go_wp2
        go_ret
        rw [HF.out]
        exact ⟨rfl, rfl⟩

theorem fint_info : (Tryd.prog.info? 3).map (fun i => (i.zero, i.size, i.bytes)) = some (some (.int .i64 0), 1, 8) := by kernel_rfl
theorem fbool_info : (Tryd.prog.info? 4).map (fun i => (i.zero, i.size, i.bytes)) = some (some (.bool false), 1, 1) := by kernel_rfl

/-- Numbers as values in memory. -/
def intVals (ns : List Nat) : List Value := (asInts ns).map (.int .i64)
theorem intVals_length (ns : List Nat) : (intVals ns).length = ns.length := by simp [intVals, asInts]
theorem intVals_get (ns : List Nat) (i x : Nat) (h : ns[i]? = some x) : (intVals ns)[i]? = some (.int .i64 x) := by unfold intVals asInts; rw [List.getElem?_map, List.getElem?_map, h]; rfl

theorem and_low (x d : Nat) (hx : x ≤ 1048576) (hd : d ≤ 20) : bits BinOp.and IntKind.i64 (x : Int) (((2 ^ d : Nat) : Int) - 1) = ((x % 2 ^ d : Nat) : Int) := by
  have h1 : 1 ≤ 2 ^ d := Nat.one_le_two_pow
  have h2 : 2 ^ d ≤ 1048576 := Nat.pow_le_pow_right (n := 2) (j := 20) (by decide) hd
  have e : (((2 ^ d : Nat) : Int) - 1) = ((2 ^ d - 1 : Nat) : Int) := by omega
  rw [e, bits_and_i64_nat x _ (by omega) (by omega), Nat.and_two_pow_sub_one_eq_mod]

set_option maxHeartbeats 1000000 in
/-- fano.lowParts. -/
theorem lowParts_any (A : Option Addr) (ns : List Nat) (c d : Nat) (w : World) (hn : ns.length ≤ 300) (hd : d ≤ 20) (hx : ∀ x ∈ ns, x ≤ 1048576) (hL : Lies w w.heap.size A ((asInts ns).map (.int .i64))) :
    Calls Tryd.prog 30 #[.slice A ns.length c, .int .i64 d] w (GivesSlice w (intVals (flow d ns))) := by
  have HL := Lib.hid hL
  have HX := Lib.hid hx
  have hlen : (intVals (flow d ns)).length = ns.length := by rw [intVals_length, flow_length]
  have hmk := make_row (P := Tryd.prog) 29 3 (.int .i64 0) 8 Tryd.underlying29 fint_info rfl ns.length (by omega) (by omega)
  have hpi := pow_int2 d (by omega)
  have h1 : 1 ≤ 2 ^ d := Nat.one_le_two_pow
  have h2 : 2 ^ d ≤ 1048576 := Nat.pow_le_pow_right (n := 2) (j := 20) (by decide) hd
  clear hL hx
  generalize hnn : ns.length = n at *
  have HN := Lib.hid hnn
  have HLen := Lib.hid hlen
  clear hnn hlen
  have HA := Lib.hid (fun x hx => and_low x d hx hd)
  have HFl := Lib.hid (fun i x h => intVals_get _ i _ (flow_get d ns i x h))
  generalize 2 ^ d = pw at *
  go_enter Tryd.func30, Tryd.ntmps30
  go_wp2
  go_loopw [13] (fun v w' => ∃ i : Nat, i ≤ n ∧ v = .int .i64 i ∧ Blk w' w.heap.size 3 (fillTo (intVals (flow d ns)) (.int .i64 0) i) ∧ Below w.heap.size w w') (fun v _ => n - (intOf v).toNat)
  case atStart => exact ⟨0, Nat.zero_le _, rfl, by rw [fillTo_zero, HLen.out]; exact zeros_blk w (.int .i64 0) n 3, bnew _ _⟩
  case round =>
    obtain ⟨i, hi, rfl, hB, hbl⟩ := hrel
    have hc1 := bcell hbl
    by_cases hlt : i < n
    · obtain ⟨b, o, z, rfl, hb, hx, hc⟩ := HL.out.at_ (k := i) (by rw [asInts_length, HN.out]; exact hlt)
      rw [asInts_get] at hx
      obtain ⟨x, hx1, rfl⟩ := Option.map_eq_some_iff.1 hx
      have hxb := HX.out x (List.mem_of_getElem? hx1)
      have hand := HA.out x hxb
      have HST := Lib.hid (fillTo_step _ (.int .i64 0) i _ (HFl.out i x hx1))
      have hfz := hB.frozen i
      have hcell : wr.cell? ⟨w.heap.size, i, none⟩ = some (.int .i64 0) := by rw [hB.cell]; exact fillTo_at _ _ _ (by rw [HLen.out]; exact hlt)
      clear hx hx1
      have HP := Lib.hid (hB.put i (.int .i64 (x % pw : Nat)))
      clear hB
      have hml : x % pw ≤ 1048576 := Nat.le_trans (Nat.mod_le _ _) hxb
      generalize x % pw = y at *
      go_wp2
      go_roundw
      case rel => exact ⟨i + 1, by omega, by go_num, by rw [← HST.out]; exact HP.out, hbl.setCell (Nat.le_refl _) _⟩
      case measure => simp [intOf]; omega
    · obtain rfl : n = i := by omega
      go_wp2
      go_ret
      refine ⟨some ⟨w.heap.size, 0, none⟩, n, by rw [HLen.out]; rfl, by rw [HLen.out]; exact Nat.le_refl _, ?_, (fun e => by cases e), (fun ad e => by obtain rfl := Option.some.inj e; exact Nat.le_refl _), hbl⟩
      have h := hB.lies
      rw [← HLen.out, fillTo_all] at h
      exact h

theorem boolVals_get (l : List Bool) (i : Nat) (x : Bool) (h : l[i]? = some x) : (l.map Value.bool)[i]? = some (.bool x) := by rw [List.getElem?_map, h]; rfl

/-- The place of a one bit, in its row. -/
theorem fhighTo_old (B : Nat) (ns : List Nat) (i p : Nat) (h : p < B / 2 ^ fw ns.length B + ns.length + 1) : ∃ t : Bool, (fhighTo B ns i)[p]? = some t := by
  rw [← fhighTo_length B ns i] at h
  exact ⟨_, List.getElem?_eq_getElem h⟩

set_option maxHeartbeats 1000000 in
/-- fano.highBits. -/
theorem highBits_any (A : Option Addr) (ns : List Nat) (c B : Nat) (w : World) (hn : ns.length ≤ 300) (hB : B ≤ 1048576) (hR : Rises B ns) (hL : Lies w w.heap.size A ((asInts ns).map (.int .i64))) :
    Calls Tryd.prog 32 #[.slice A ns.length c, .int .i64 B, .int .i64 (fw ns.length B : Nat)] w (GivesSlice w ((fhigh B ns).map .bool)) := by
  by_cases h0 : ns.length = 0
  · obtain rfl := List.eq_nil_of_length_eq_zero h0
    go_enter Tryd.func32, Tryd.ntmps32
    go_wp2
    go_ret
    exact ⟨none, 0, rfl, Nat.le_refl _, Lies.nil, fun _ => rfl, (fun _ e => by cases e), Below.refl _ _⟩
  · have hne : ns ≠ [] := by intro e; subst e; exact h0 rfl
    have hfh : fhigh B ns = fhighTo B ns ns.length := by unfold fhigh; rw [if_neg hne]
    rw [hfh]
    have HL := Lib.hid hL
    have HR := Lib.hid hR
    have hlen := fhighTo_length B ns ns.length
    have hd := fw_le ns.length B
    have hq : B / 2 ^ fw ns.length B ≤ 1048576 := Nat.le_trans (Nat.div_le_self _ _) hB
    have hdiv : ((B : Int) / 2 ^ fw ns.length B) = ((B / 2 ^ fw ns.length B : Nat) : Int) := by simp
    have HZ := Lib.hid (fhighTo_zero B ns)
    have HST := Lib.hid (fun i => fhighTo_step (B := B) ns i)
    have HO := Lib.hid (fun i p => fhighTo_old B ns i p)
    have HX := Lib.hid hR.mem
    have HPH := Lib.hid (fun i hi => fpos_hi hR (fw ns.length B) (i := i) hi)
    have hmk := make_row (P := Tryd.prog) 45 4 (.bool false) 1 Tryd.underlying45 fbool_info rfl (B / 2 ^ fw ns.length B + ns.length + 1) (by omega) (by omega)
    have hnz : ((ns.length : Int) == 0) = false := by rw [beq_eq_false_iff_ne]; omega
    clear hL hne hfh hR h0
    generalize hd2 : fw ns.length B = d at *
    generalize B / 2 ^ d = q at *
    generalize hnn : ns.length = n at *
    have HN := Lib.hid hnn
    have HLen := Lib.hid hlen
    have HD := Lib.hid hd2
    clear hnn hlen hd2
    generalize hm : q + n + 1 = m at *
    have HM := Lib.hid hm
    clear hm
    have hsum : (q : Int) + (n : Int) + 1 = (m : Int) := by rw [← HM.out]; simp
    have hmb : m ≤ 1049000 := by rw [← HM.out]; omega
    go_enter Tryd.func32, Tryd.ntmps32
    go_wp2
    go_loopw [23] (fun v w' => ∃ i : Nat, i ≤ n ∧ v = .int .i64 i ∧ Blk w' w.heap.size 4 ((fhighTo B ns i).map .bool) ∧ Below w.heap.size w w') (fun v _ => n - (intOf v).toNat)
    case atStart => exact ⟨0, Nat.zero_le _, rfl, by rw [HZ.out, List.map_replicate]; exact zeros_blk w (.bool false) m 4, bnew _ _⟩
    case round =>
      obtain ⟨i, hi, rfl, hBk, hbl⟩ := hrel
      have hc1 := bcell hbl
      by_cases hlt : i < n
      · obtain ⟨b, o, z, rfl, hb, hx, hc⟩ := HL.out.at_ (k := i) (by rw [asInts_length, HN.out]; exact hlt)
        rw [asInts_get] at hx
        obtain ⟨x, hx1, rfl⟩ := Option.map_eq_some_iff.1 hx
        have hxb := HX.out x (List.mem_of_getElem? hx1)
        have hfp : fpos d ns i = x / 2 ^ d + i := by unfold fpos; rw [List.getD, hx1]; rfl
        have hph := HPH.out i hlt
        have hst := HST.out i
        rw [hfp] at hph hst
        obtain ⟨t, ht⟩ := HO.out i _ hph
        have hcell : wr.cell? ⟨w.heap.size, x / 2 ^ d + i, none⟩ = some (.bool t) := by rw [hBk.cell]; exact boolVals_get _ _ _ ht
        have hdx : ((x : Int) / 2 ^ d) = ((x / 2 ^ d : Nat) : Int) := by simp
        have hfz := hBk.frozen (x / 2 ^ d + i)
        have HP := Lib.hid (hBk.put (x / 2 ^ d + i) (.bool true))
        have HST2 := Lib.hid hst
        clear hst ht hfp hx1 hx hBk
        have hyb : x / 2 ^ d ≤ 1048576 := Nat.le_trans (Nat.div_le_self _ _) (Nat.le_trans hxb hB)
        generalize x / 2 ^ d = y at *
        go_wp2
        go_roundw
        case rel => exact ⟨i + 1, by omega, by go_num, by rw [HST2.out, List.map_set]; exact HP.out, hbl.setCell (Nat.le_refl _) _⟩
        case measure => simp [intOf]; omega
      · obtain rfl : n = i := by omega
        go_wp2
        go_ret
        refine ⟨some ⟨w.heap.size, 0, none⟩, m, by rw [List.length_map, HLen.out]; rfl, by rw [List.length_map, HLen.out]; exact Nat.le_refl _, hBk.lies, (fun e => by cases e), (fun ad e => by obtain rfl := Option.some.inj e; exact Nat.le_refl _), hbl⟩

/-- What a call that returns an encoding leaves. -/
def GivesFano (w : World) (B n d : Nat) (lw : List Nat) (m : Nat) (hw : List Nat) (e : Ending) (w' : World) : Prop :=
  ∃ A c A2 c2, e = .returned (.tuple #[.agg #[.int .i64 B, .int .i64 n, .int .i64 d, .slice A lw.length c, .int .i64 m, .slice A2 hw.length c2], .int .i64 0]) ∧ Words64 w' w'.heap.size A lw ∧ Words64 w' w'.heap.size A2 hw ∧ New w.heap.size A ∧ New w.heap.size A2 ∧ Below w.heap.size w w'

/-- What a call that returns no encoding leaves. -/
def NoFano (w : World) (k : Int) (e : Ending) (w' : World) : Prop := e = .returned (.tuple #[.agg #[.int .i64 0, .int .i64 0, .int .i64 0, .slice none 0 0, .int .i64 0, .slice none 0 0], .int .i64 k]) ∧ Below w.heap.size w w'

/-- The encoding of good numbers. -/
def MadeFano (w : World) (B : Nat) (ns : List Nat) : Ending → World → Prop := GivesFano w B ns.length (fw ns.length B) (packWords (fw ns.length B) (flow (fw ns.length B) ns)) (fhigh B ns).length (rowOf (fhigh B ns))

/-- fano.Make of too long a list. -/
theorem fmake_size (z : Int) (A : Option Addr) (n c : Nat) (w : World) (h : 300 < n) (hn : n ≤ 9223372036854775807) :
    Calls Tryd.prog 16 #[.int .i64 z, .slice A n c] w (NoFano w 1) := by
  go_enter Tryd.func16, Tryd.ntmps16
  go_wp2
  exact bodyPost_ret (v := .tuple #[.agg #[.int .i64 0, .int .i64 0, .int .i64 0, .slice none 0 0, .int .i64 0, .slice none 0 0], .int .i64 1]) (by simp [results, Tryd.results16, go_sem]) rfl ⟨rfl, bnew _ _⟩

/-- fano.Make with a bound that is none. -/
theorem fmake_bound (z : Int) (A : Option Addr) (n c : Nat) (w : World) (h : n ≤ 300) (hz : z < 0 ∨ 1048576 < z) :
    Calls Tryd.prog 16 #[.int .i64 z, .slice A n c] w (NoFano w 2) := by
  have HA := Lib.hid (allowed_no z · hz)
  clear hz
  go_enter Tryd.func16, Tryd.ntmps16
  go_wp2_with (go_at_call 26; refine (HA.out _).mono ?_; rintro e w' ⟨rfl, rfl⟩)
  exact bodyPost_ret (v := .tuple #[.agg #[.int .i64 0, .int .i64 0, .int .i64 0, .slice none 0 0, .int .i64 0, .slice none 0 0], .int .i64 2]) (by simp [results, Tryd.results16, go_sem]) rfl ⟨rfl, bnew _ _⟩

/-- fano.Make of a list that is not good. -/
theorem fmake_form (B : Nat) (A : Option Addr) (l : List Int) (c : Nat) (w : World) (h : l.length ≤ 300) (hB : B ≤ 1048576) (hL : Lies w w.heap.size A (l.map (.int .i64))) (hg : ¬ AllGood B l) :
    Calls Tryd.prog 16 #[.int .i64 B, .slice A l.length c] w (NoFano w 4) := by
  have HA := Lib.hid (allowed_yes B · hB)
  have HM := Lib.hid (fun W hL => monotone_any A l c B W false h hL ⟨(fun e => by cases e), fun e => absurd e hg⟩)
  have HL := Lib.hid hL
  clear hL hg
  go_enter Tryd.func16, Tryd.ntmps16
  go_wp2_with (first
    | (go_at_call 26; refine (HA.out _).mono ?_; rintro e w' ⟨rfl, rfl⟩)
    | (go_at_call 27; refine (HM.out _ (by exact HL.out.alloc _)).mono ?_; rintro e w' ⟨rfl, rfl⟩))
  exact bodyPost_ret (v := .tuple #[.agg #[.int .i64 0, .int .i64 0, .int .i64 0, .slice none 0 0, .int .i64 0, .slice none 0 0], .int .i64 4]) (by simp [results, Tryd.results16, go_sem]) rfl ⟨rfl, bnew _ _⟩

theorem asInts_wf {ns : List Nat} (h : ∀ x ∈ ns, x ≤ 1048576) : ∀ z ∈ asInts ns, (Lit.int .i64 z).wf = true := by
  intro z hz
  obtain ⟨x, hx, rfl⟩ := List.mem_map.1 hz
  have := h x hx
  simp [Lit.wf, IntKind.min, IntKind.max, IntKind.signed, IntKind.bits]
  omega
theorem asInts_fit {ns : List Nat} {d : Nat} (h : ∀ x ∈ ns, x < 2 ^ d) : ∀ z ∈ asInts ns, Fit d z := by
  intro z hz
  obtain ⟨x, hx, rfl⟩ := List.mem_map.1 hz
  exact ⟨by omega, by exact_mod_cast h x hx⟩
theorem natsOf_asInts (ns : List Nat) : natsOf (asInts ns) = ns := by
  unfold natsOf asInts
  rw [List.map_map]
  simp [Function.comp_def]
theorem flow_le {d : Nat} (hd : d ≤ 20) (ns : List Nat) : ∀ x ∈ flow d ns, x ≤ 1048576 := fun x hx => Nat.le_trans (Nat.le_of_lt (flow_lt d ns x hx)) (Nat.pow_le_pow_right (n := 2) (j := 20) (by decide) hd)
theorem fhigh_short {B : Nat} {ns : List Nat} (hB : B ≤ 1048576) : (fhigh B ns).length ≤ 3 * ns.length := by
  unfold fhigh
  split
  · simp
  · rename_i h
    rw [fhighTo_length]
    have hp : 0 < ns.length := List.length_pos_iff.2 h
    have := fw_high hp hB
    omega

set_option maxHeartbeats 1000000 in
/-- fano.Make. -/
theorem fmake_any (B : Nat) (A : Option Addr) (ns : List Nat) (c : Nat) (w : World) (h : ns.length ≤ 300) (hB : B ≤ 1048576) (hL : Lies w w.heap.size A ((asInts ns).map (.int .i64))) (hR : Rises B ns) :
    Calls Tryd.prog 16 #[.int .i64 B, .slice A ns.length c] w (MadeFano w B ns) := by
  have hx : ∀ x ∈ ns, x ≤ 1048576 := fun x hx => Nat.le_trans (hR.mem x hx) hB
  have hd := fw_le ns.length B
  have HA := Lib.hid (allowed_yes B · hB)
  have HM := Lib.hid (fun W hL => monotone_any A (asInts ns) c B W true (by rw [asInts_length]; exact h) hL ⟨(fun _ => rises_good hR), fun _ => rfl⟩)
  rw [asInts_length] at HM
  have HW := Lib.hid (widthFor_any B ns.length · hB h)
  have HLo := Lib.hid (fun W hL => lowParts_any A ns c (fw ns.length B) W h hd hx hL)
  have HHi := Lib.hid (fun W hL => highBits_any A ns c B W h hB hR hL)
  have HPk := Lib.hid (fun A c W hL => pmake_any (fw ns.length B) A (asInts (flow (fw ns.length B) ns)) c W (by rw [asInts_length, flow_length]; exact h) (by omega) (asInts_wf (flow_le hd ns)) hL (asInts_fit (flow_lt _ ns)))
  rw [natsOf_asInts, asInts_length, flow_length] at HPk
  have HBt := Lib.hid (fun A c W hL => make_any A (fhigh B ns) c W (by have := fhigh_short (ns := ns) hB; omega) hL)
  have HL := Lib.hid hL
  unfold MadeFano
  have hl1 : (intVals (flow (fw ns.length B) ns)).length = ns.length := by rw [intVals_length, flow_length]
  have HL1 := Lib.hid hl1
  have hl2 : ((fhigh B ns).map Value.bool).length = (fhigh B ns).length := by simp
  have HL2 := Lib.hid hl2
  have HIV := Lib.hid (show intVals (flow (fw ns.length B) ns) = (asInts (flow (fw ns.length B) ns)).map (.int .i64) from rfl)
  clear hL hR hx hl1 hl2
  generalize packWords (fw ns.length B) (flow (fw ns.length B) ns) = lw at *
  generalize asInts (flow (fw ns.length B) ns) = fl at *
  generalize intVals (flow (fw ns.length B) ns) = iv at *
  generalize fw ns.length B = d at *
  generalize rowOf (fhigh B ns) = hw at *
  generalize fhigh B ns = bs at *
  generalize hm : bs.length = m at *
  clear hm
  generalize hnn : ns.length = n at *
  clear hnn
  go_enter Tryd.func16, Tryd.ntmps16
  go_wp2_with (first
    | (go_at_call 26; refine (HA.out _).mono ?_; rintro e w' ⟨rfl, rfl⟩)
    | (go_at_call 27; refine (HM.out _ (by exact HL.out.alloc _)).mono ?_; rintro e w' ⟨rfl, rfl⟩)
    | (go_at_call 28; refine (HW.out _).mono ?_; rintro e w' ⟨rfl, rfl⟩))
  refine (HLo.out _ (by exact HL.out.alloc _)).mono ?_
  rintro e w1 ⟨A1, c1, rfl, hc1, hl1, _, _, hb1⟩
  rw [HL1.out]
  rw [HIV.out] at hl1
  have HLL1 := Lib.hid hl1
  clear hl1 hc1
  go_wp2_with fail
  refine (HPk.out A1 c1 _ HLL1.out).mono ?_
  rintro e w2 ⟨A2, c2, rfl, hW2, hN2, hb2⟩
  have HW2 := Lib.hid hW2
  clear hW2
  go_wp2_with fail
  refine (HHi.out _ (by exact (((HL.out.alloc _).on hb1).on hb2).alloc _)).mono ?_
  rintro e w3 ⟨A3, c3, rfl, hc3, hl3, _, _, hb3⟩
  rw [HL2.out]
  have HLL3 := Lib.hid hl3
  clear hl3 hc3
  go_wp2_with fail
  refine (HBt.out A3 c3 _ HLL3.out).mono ?_
  rintro e w4 ⟨A4, c4, rfl, hW4, hN4, hb4⟩
  have HW4 := Lib.hid hW4
  clear hW4
  have hbx : Blk w4 w2.heap.size 24 [.int .i64 n, .int .i64 d, .slice A2 lw.length c2] := (Blk.new w2 24 [.int .i64 n, .int .i64 d, .slice A2 lw.length c2]).below (chain hb3 hb4) (by simp)
  have hrs : Blk w4 w.heap.size 28 [.int .i64 0, .int .i64 0, .int .i64 0, .slice none 0 0, .int .i64 0, .slice none 0 0] := (Blk.new w 28 [.int .i64 0, .int .i64 0, .int .i64 0, .slice none 0 0, .int .i64 0, .slice none 0 0]).below (chain (chain (chain (chain hb1 hb2) (bnew _ _)) hb3) hb4) (by simp)
  have hx0 : w4.cell? ⟨w2.heap.size, 0, none⟩ = some (.int .i64 n) := hbx.cell 0
  have hx1 : w4.cell? ⟨w2.heap.size, 1, none⟩ = some (.int .i64 d) := hbx.cell 1
  have hx2 : w4.cell? ⟨w2.heap.size, 2, none⟩ = some (.slice A2 lw.length c2) := hbx.cell 2
  have hr0 : w4.cell? ⟨w.heap.size, 0, none⟩ = some (.int .i64 0) := hrs.cell 0
  have hr1 : w4.cell? ⟨w.heap.size, 1, none⟩ = some (.int .i64 0) := hrs.cell 1
  have hr2 : w4.cell? ⟨w.heap.size, 2, none⟩ = some (.int .i64 0) := hrs.cell 2
  have hr3 : w4.cell? ⟨w.heap.size, 3, none⟩ = some (.slice none 0 0) := hrs.cell 3
  have hr4 : w4.cell? ⟨w.heap.size, 4, none⟩ = some (.int .i64 0) := hrs.cell 4
  have hr5 : w4.cell? ⟨w.heap.size, 5, none⟩ = some (.slice none 0 0) := hrs.cell 5
  have hf0 := hrs.frozen 0
  have hf1 := hrs.frozen 1
  have hf2 := hrs.frozen 2
  have hf3 := hrs.frozen 3
  have hf4 := hrs.frozen 4
  have hf5 := hrs.frozen 5
  have hs0 := hbx.lt
  have hs1 := hrs.lt
  go_wp2
  have hbw : Below w.heap.size w w4 := chain (chain (chain (chain (chain (bnew _ _) hb1) hb2) (bnew _ _)) hb3) hb4
  have hlt1 : w.heap.size < w1.heap.size := by have := hb1.size; simp at this; omega
  have hlt3 : w.heap.size < w3.heap.size := by have h2 := hb2.size; have h3 := hb3.size; simp at h3; omega
  refine bodyPost_ret (v := .tuple #[.agg #[.int .i64 B, .int .i64 n, .int .i64 d, .slice A2 lw.length c2, .int .i64 m, .slice A4 hw.length c4], .int .i64 0]) (by simp [results, Tryd.results16, go_sem, hr0, hr1, hr2, hr3, hr4, hr5, hs1]) rfl ⟨A2, c2, A4, c4, rfl, ?_, ?_, hN2.mono (by omega), hN4.mono (by omega), ?_⟩
  · exact ((((((((HW2.out.alloc _).on (chain hb3 hb4)).stored hN2 hlt1 _).stored hN2 hlt1 _).stored hN2 hlt1 _).stored hN2 hlt1 _).stored hN2 hlt1 _).stored hN2 hlt1 _).alloc _
  · exact ((((((HW4.out.stored hN4 hlt3 _).stored hN4 hlt3 _).stored hN4 hlt3 _).stored hN4 hlt3 _).stored hN4 hlt3 _).stored hN4 hlt3 _).alloc _
  · have h6 := (((((hbw.setCell (p := ⟨w.heap.size, 0, none⟩) (Nat.le_refl _) (.int .i64 B)).setCell (p := ⟨w.heap.size, 1, none⟩) (Nat.le_refl _) (.int .i64 n)).setCell (p := ⟨w.heap.size, 2, none⟩) (Nat.le_refl _) (.int .i64 d)).setCell (p := ⟨w.heap.size, 3, none⟩) (Nat.le_refl _) (.slice A2 lw.length c2)).setCell (p := ⟨w.heap.size, 4, none⟩) (Nat.le_refl _) (.int .i64 m)).setCell (p := ⟨w.heap.size, 5, none⟩) (Nat.le_refl _) (.slice A4 hw.length c4)
    exact h6.alloc h6.size _
end Go.Proofs.YtmlekhgjnhnjlaaDoor
