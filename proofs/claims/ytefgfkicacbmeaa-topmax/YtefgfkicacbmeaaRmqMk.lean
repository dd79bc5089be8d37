/-
  What rmq.indices, rmq.doubled, rmq.Make and rmq.isTable return: contracts, walked over the translated text. No condition but what each theorem names.
-/
import Derived.Test.YtefgfkicacbmeaaRmqRd
import Derived.Test.YtefgfkicacbmeaaOwnRow
import Derived.RegionTactic
import Derived.BigRegion
import Derived.Deep.RegionWith
namespace Go.Proofs.Ytefgfkicacbmeaa
open Go.RowKit Words

theorem rint_info : (Try.prog.info? 3).map (fun i => (i.zero, i.size, i.bytes)) = some (some (.int .i64 0), 1, 8) := by kernel_rfl
theorem rrow_info : (Try.prog.info? 22).map (fun i => (i.zero, i.size, i.bytes)) = some (some (.slice none 0 0), 1, 24) := by kernel_rfl

/-- What a call that returns a new row of int leaves. -/
def GivesOwn (w : World) (l : List Int) (e : Ending) (w' : World) : Prop := ∃ v, e = .returned v ∧ w'.ownsRow w.heap.size 3 1 v l.length (l.map (.int .i64)) ∧ Below w.heap.size w w'

theorem fill_get (l : List Int) (i : Nat) (x : Int) (h : l[i]? = some x) : (l.map (Value.int .i64))[i]? = some (.int .i64 x) := by rw [List.getElem?_map, h]; rfl

set_option maxHeartbeats 1000000 in
/-- rmq.indices. -/
theorem indices_any (n : Nat) (w : World) (hn : n ≤ 300) :
    Calls Try.prog 53 #[.int .i64 n] w (GivesOwn w (asInts (List.range n))) := by
  have hlen : ((asInts (List.range n)).map (Value.int .i64)).length = n := by simp [asInts]
  have hl2 : (asInts (List.range n)).length = n := by simp [asInts]
  have hmk := make_row (P := Try.prog) 22 3 (.int .i64 0) 8 Try.underlying22 rint_info rfl n (by omega) (by omega)
  have HLen := Lib.hid hlen
  have HL2 := Lib.hid hl2
  have HG := Lib.hid (fun i (h : i < n) => fill_get (asInts (List.range n)) i (i : Nat) (by unfold asInts; rw [List.getElem?_map, List.getElem?_range h]; rfl))
  clear hlen hl2
  unfold GivesOwn
  generalize (asInts (List.range n)).map (Value.int .i64) = xs at *
  go_enter Try.func53, Try.ntmps53
  go_wp2
  go_loopw [9] (fun v w' => ∃ i : Nat, i ≤ n ∧ v = .int .i64 i ∧ Blk w' w.heap.size 3 (fillR xs (.int .i64 0) i) ∧ Below w.heap.size w w') (fun v _ => n - (intOf v).toNat)
  case atStart => exact ⟨0, Nat.zero_le _, rfl, by rw [fillR_zero, HLen.out]; exact zeros_blk w (.int .i64 0) n 3, bnew _ _⟩
  case round =>
    obtain ⟨i, hi, rfl, hB, hbl⟩ := hrel
    by_cases hlt : i < n
    · have HST := Lib.hid (fillR_step _ (.int .i64 0) i _ (HG.out i hlt))
      have hfz := hB.frozen i
      have hcell : wr.cell? ⟨w.heap.size, i, none⟩ = some (.int .i64 0) := by rw [hB.cell]; exact fillR_at _ _ _ (by rw [HLen.out]; exact hlt)
      have HP := Lib.hid (hB.put i (.int .i64 (i : Nat)))
      clear hB
      go_wp2
      go_roundw
      case rel => exact ⟨i + 1, by omega, by go_num, by rw [← HST.out]; exact HP.out, hbl.setCell (Nat.le_refl _) _⟩
      case measure => simp [intOf]; omega
    · obtain rfl : n = i := by omega
      have HB := Lib.hid hB
      clear hB
      go_wp2
      go_ret
      refine ⟨_, rfl, ?_, hbl⟩
      have h := HB.out
      rw [show fillR xs (.int .i64 0) n = xs by rw [← HLen.out]; exact fillR_all _ _] at h
      have h2 := h.owns (Nat.le_refl _) (by rw [HLen.out]; simp only [maxLen]; omega)
      rw [HLen.out] at h2
      rw [HL2.out]
      exact h2

theorem spRow_zero (f : Nat → Int) (n : Nat) : spRow f n 0 = List.range n := by
  unfold spRow
  rw [Nat.pow_zero, Nat.add_sub_cancel]
  exact List.map_id'' (fun i => rfl) _
theorem spRow_next (l : List Int) (k i x y : Nat) (h1 : (spRow (nth l) l.length k)[i]? = some x) (h2 : (spRow (nth l) l.length k)[i + 2 ^ k]? = some y) : (spRow (nth l) l.length (k + 1))[i]? = some (hiOf l x y) := by
  have g1 := spRow_top _ _ _ _ _ h1
  have g2 := spRow_top _ _ _ _ _ h2
  have e1 : topN (nth l) i (2 ^ k - 1) = x := by rw [spRow_get _ _ _ _ g1.1] at h1; exact Option.some.inj h1
  have e2 : topN (nth l) (i + 2 ^ k) (2 ^ k - 1) = y := by rw [spRow_get _ _ _ _ g2.1] at h2; exact Option.some.inj h2
  rw [spRow_get _ _ _ _ (by rw [Nat.pow_succ]; have := g2.1; omega), topN_double, e1, e2]
  rfl
theorem asInts_at (l : List Nat) (i x : Nat) (h : l[i]? = some x) : (asInts l)[i]? = some (x : Int) := by unfold asInts; rw [List.getElem?_map, h]; rfl

/-- The row of ranges twice as long. -/
def dbl (l : List Int) (R : List Nat) (p : Nat) : List Nat := (List.range (R.length - p)).map fun i => hiOf l (R.getD i 0) (R.getD (i + p) 0)
theorem dbl_length (l : List Int) (R : List Nat) (p : Nat) : (dbl l R p).length = R.length - p := by simp [dbl]
theorem dbl_get (l : List Int) (R : List Nat) (p i : Nat) (h : i < R.length - p) : (dbl l R p)[i]? = some (hiOf l (R.getD i 0) (R.getD (i + p) 0)) := by
  unfold dbl
  rw [List.getElem?_map, List.getElem?_range h]
  rfl
theorem dbl_row (l : List Int) (k : Nat) : dbl l (spRow (nth l) l.length k) (2 ^ k) = spRow (nth l) l.length (k + 1) := by
  have hp := Nat.two_pow_pos k
  apply List.ext_getElem?
  intro i
  by_cases hi : i < (spRow (nth l) l.length k).length - 2 ^ k
  · rw [dbl_get _ _ _ _ hi]
    have g1 := List.getElem?_eq_getElem (show i < (spRow (nth l) l.length k).length by omega)
    have g2 := List.getElem?_eq_getElem (show i + 2 ^ k < (spRow (nth l) l.length k).length by omega)
    rw [spRow_next l k i _ _ g1 g2, List.getD, List.getD, g1, g2]
    rfl
  · rw [List.getElem?_eq_none (by rw [dbl_length]; omega), List.getElem?_eq_none (by rw [spRow_length]; rw [spRow_length] at hi; rw [Nat.pow_succ]; omega)]
theorem nats_at {w : World} {B : Nat} {A : Option Addr} {R : List Nat} (h : Lies w B A ((asInts R).map (.int .i64))) (h0 : 0 < R.length) :
    ∃ b o, A = some ⟨b, o, none⟩ ∧ b < B ∧ ∀ k, k < R.length → w.cell? ⟨b, o + k, none⟩ = some (.int .i64 (R.getD k 0 : Nat)) := by
  obtain ⟨b, o, e, hb, hc⟩ := h.nums (by rw [asInts_length]; exact h0)
  refine ⟨b, o, e, hb, fun k hk => ?_⟩
  rw [hc k (by rw [asInts_length]; exact hk), nth_get _ k (R.getD k 0 : Nat) (asInts_at R k _ (by rw [List.getD, List.getElem?_eq_getElem hk]; rfl))]

set_option maxHeartbeats 2000000 in
/-- rmq.doubled. -/
theorem doubled_core (A : Option Addr) (l : List Int) (c : Nat) (A2 : Option Addr) (R : List Nat) (p c2 : Nat) (w : World) (hn : l.length ≤ 300) (hm : R.length ≤ 300) (hp : p ≤ 300) (hx : ∀ i, i < R.length → R.getD i 0 < l.length) (hL : Lies w w.heap.size A (l.map (.int .i64))) (hR : Lies w w.heap.size A2 ((asInts R).map (.int .i64))) :
    Calls Try.prog 54 #[.slice A l.length c, .slice A2 R.length c2, .int .i64 p] w (GivesOwn w (asInts (dbl l R p))) := by
  have hlen : ((asInts (dbl l R p)).map (Value.int .i64)).length = R.length - p := by rw [List.length_map, asInts_length, dbl_length]
  have hl2 : (asInts (dbl l R p)).length = R.length - p := by rw [asInts_length, dbl_length]
  have HG := Lib.hid (fun i h => fill_get _ i _ (asInts_at _ i _ (dbl_get l R p i h)))
  have HL := Lib.hid hL
  have HR := Lib.hid hR
  have HX := Lib.hid hx
  have HHi := Lib.hid (fun i j W hi hj hW => higher_any A l c i j W hn hi hj hW)
  have hmk := make_row (P := Try.prog) 22 3 (.int .i64 0) 8 Try.underlying22 rint_info rfl (R.length - p) (by omega) (by omega)
  have hq : (p < R.length ∧ R.length - p = R.length - p) ∨ (R.length ≤ p ∧ R.length - p = 0) := by omega
  have hqi : p < R.length → (R.length : Int) - (p : Int) = ((R.length - p : Nat) : Int) := by omega
  have HLen := Lib.hid hlen
  have HL2 := Lib.hid hl2
  clear hL hR hx hlen hl2
  unfold GivesOwn
  generalize (asInts (dbl l R p)).map (Value.int .i64) = xs at *
  generalize hmm : R.length = m at *
  generalize hqq : m - p = q at *
  rcases hq with ⟨h1, _⟩ | ⟨h1, rfl⟩
  · have hqi2 := hqi h1
    have hq0 : (0 : Int) < (q : Int) := by omega
    obtain ⟨b2, o2, rfl, hb2, hc2⟩ := nats_at HR.out (by rw [hmm]; omega)
    rw [hmm] at hc2
    have HC2 := Lib.hid hc2
    clear hqi hc2 HR
    have hqp : q + p = m := by omega
    clear hqq hmm
    go_enter Try.func54, Try.ntmps54
    go_wp2_with fail
    clear hqi2
    go_loopw [17] (fun v w' => ∃ i : Nat, i ≤ q ∧ v = .int .i64 i ∧ Blk w' w.heap.size 3 (fillR xs (.int .i64 0) i) ∧ Below w.heap.size w w') (fun v _ => q - (intOf v).toNat)
    case atStart => exact ⟨0, Nat.zero_le _, rfl, by rw [fillR_zero, HLen.out]; exact zeros_blk w (.int .i64 0) q 3, bnew _ _⟩
    case round =>
      obtain ⟨i, hi, rfl, hB, hbl⟩ := hrel
      by_cases hlt : i < q
      · have HST := Lib.hid (fillR_step _ (.int .i64 0) i _ (HG.out i hlt))
        have hx1 := HX.out i (by omega)
        have hx2 := HX.out (i + p) (by omega)
        have hsum : (i : Int) + (p : Int) = ((i + p : Nat) : Int) := by omega
        have hsm : i + p < m := by omega
        have hc1 := bcell hbl
        have hr1 := HC2.out i (by omega)
        have hr2 := HC2.out (i + p) (by omega)
        have HLr := Lib.hid (HL.out.on hbl)
        generalize R.getD i 0 = x1 at *
        generalize R.getD (i + p) 0 = x2 at *
        generalize hss : i + p = s at *
        have hwr : IntKind.i64.wrap (s : Int) = (s : Int) := by rw [IntKind.wrap_i64]; omega
        have hsm2 : (s : Int) < (m : Int) := by omega
        have him : (i : Int) < (m : Int) := by omega
        have hcell1 := (hc1 b2 (o2 + i) hb2).trans hr1
        have hcell2 := (hc1 b2 (o2 + s) hb2).trans hr2
        clear hss
        have HH := Lib.hid (fun W hW => HHi.out x1 x2 W hx1 hx2 hW)
        have HP := Lib.hid (fun d => (hB.drewN d).put i (.int .i64 (hiOf l x1 x2 : Nat)))
        have hcell : ∀ d, (wr.drewN d).cell? ⟨w.heap.size, i, none⟩ = some (.int .i64 0) := fun d => by rw [(hB.drewN d).cell]; exact fillR_at _ _ _ (by rw [HLen.out]; exact hlt)
        have hfz : ∀ d, (wr.drewN d).frozen? ⟨w.heap.size, i, none⟩ = false := fun d => (hB.drewN d).frozen i
        clear hB
        generalize hiOf l x1 x2 = y at *
        go_wp2_with fail
        go_region_with (go_at_call 58; refine (HH.out _ (by exact HLr.out)).mono ?_; rintro e w1 ⟨rfl, d, rfl⟩)
        all_goals
          go_wp2
          go_roundw
          case rel => exact ⟨i + 1, by omega, by go_num, by rw [← HST.out]; exact HP.out _, (bdN hbl _).setCell (Nat.le_refl _) _⟩
          case measure => simp [intOf]; omega
      · obtain rfl : q = i := by omega
        have HB := Lib.hid hB
        clear hB
        go_wp2_with fail
        go_ret
        refine ⟨_, rfl, ?_, hbl⟩
        have h := HB.out
        rw [show fillR xs (.int .i64 0) q = xs by rw [← HLen.out]; exact fillR_all _ _] at h
        have h2 := h.owns (Nat.le_refl _) (by rw [HLen.out]; simp only [maxLen]; omega)
        rw [HLen.out] at h2
        rw [HL2.out]
        exact h2
  · have hq3 : (m : Int) - (p : Int) ≤ 0 := by omega
    clear hqi hqq hmm
    have hmk0 : ∀ w, (Instr.makeSlice 22 (.int .i64 0) (.int .i64 0)).run Try.prog w = .ok (.slice (some ⟨w.heap.size, 0, none⟩) 0 0) (w.alloc (.cells (zeros (.int .i64 0) 0) 3)) := hmk
    clear hmk
    obtain ⟨z, hzz⟩ : ∃ z : Int, (m : Int) - (p : Int) = z := ⟨_, rfl⟩
    have hmx : z < 0 ∨ z = 0 := by omega
    clear hq3
    have HXS := Lib.hid (List.eq_nil_of_length_eq_zero HLen.out)
    rcases hmx with hz | rfl
    all_goals
      go_enter Try.func54, Try.ntmps54
      go_wp2_with fail
      go_loopw [17] (fun v w' => v = .int .i64 0 ∧ w' = w.alloc (.cells (zeros (.int .i64 0) 0) 3)) (fun v _ => 0)
      case atStart => exact ⟨rfl, rfl⟩
      case round =>
        obtain ⟨rfl, rfl⟩ := hrel
        go_wp2_with fail
        go_ret
        refine ⟨_, rfl, ?_, bnew _ _⟩
        rw [HL2.out, HXS.out]
        exact (zeros_blk w (.int .i64 0) 0 3).owns (Nat.le_refl _) (by simp)
end Go.Proofs.Ytefgfkicacbmeaa
