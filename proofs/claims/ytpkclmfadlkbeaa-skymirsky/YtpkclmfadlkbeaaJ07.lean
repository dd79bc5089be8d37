/-
  What bits.Make returns: contracts, walked over the translated text. No condition but what each theorem names.
-/
import Derived.Test.YtpkclmfadlkbeaaJ04
import Derived.Test.YtpkclmfadlkbeaaJ01
import Derived.Test.YtpkclmfadlkbeaaJ06
import Derived.RegionTactic
import Derived.BigRegion
namespace Go.Proofs.Ytpkclmfadlkbeaa
open Go.RowKit Words

/-- What a call that returns a bit vector leaves. -/
def GivesBits (w : World) (n : Nat) (ws : List Nat) (e : Ending) (w' : World) : Prop :=
  ∃ A c, e = .returned (.tuple #[.agg #[.int .i64 n, .slice A ws.length c], .int .i64 0]) ∧ Words64 w' w'.heap.size A ws ∧ New w.heap.size A ∧ Below w.heap.size w w'

/-- bits.Make of too long a list. -/
theorem make_size (A : Option Addr) (n c : Nat) (w : World) (h : 4096 < n) (hn : n ≤ 9223372036854775807) :
    Calls Try.prog 56 #[.slice A n c] w fun e w' => e = .returned (.tuple #[.agg #[.int .i64 0, .slice none 0 0], .int .i64 1]) ∧ Below w.heap.size w w' := by
  go_enter Try.func56, Try.ntmps56
  go_wp2
  exact bodyPost_ret (v := .tuple #[.agg #[.int .i64 0, .slice none 0 0], .int .i64 1]) (by simp [results, Try.results56, go_sem]) rfl ⟨rfl, bnew _ _⟩

set_option maxHeartbeats 1000000 in
/-- bits.Make. -/
theorem make_any (A : Option Addr) (l : List Bool) (c : Nat) (w : World) (h : l.length ≤ 4096) (hL : Lies w w.heap.size A (l.map .bool)) :
    Calls Try.prog 56 #[.slice A l.length c] w (GivesBits w l.length (rowOf l)) := by
  have HL := Lib.hid hL
  have HW := Lib.hid (wordsFor_any l.length · h)
  have hmk := make_row (P := Try.prog) 65 110 (.int .u64 0) 8 Try.underlying65 word_info rfl ((l.length + 63) / 64) (by omega) (by omega)
  clear hL
  generalize hm : (l.length + 63) / 64 = m at *
  have hm1 : l.length ≤ 64 * m := by omega
  have HM := Lib.hid hm
  clear hm
  generalize hn : l.length = n at *
  have HN := Lib.hid hn
  clear hn
  go_enter Try.func56, Try.ntmps56
  go_wp2_with (go_at_call 71; refine (HW.out _).mono ?_; rintro e w' ⟨rfl, rfl⟩)
  go_loopw [17] (fun v w' => ∃ i : Nat, i ≤ n ∧ v = .int .i64 i ∧ Blk w' (w.heap.size + 1) 110 (asWords (laid l i m)) ∧ Below (w.heap.size + 1) (w.alloc (.cells #[.int .i64 0, .slice none 0 0] 67)) w') (fun v _ => n - (intOf v).toNat)
  case atStart => exact ⟨0, Nat.zero_le _, rfl, by simpa [asWords, laid_zero] using zeros_blk (w.alloc (.cells #[.int .i64 0, .slice none 0 0] 67)) (.int .u64 0) m 110, (Below.refl _ _).alloc (by simp) _⟩
  case round =>
    obtain ⟨i, hi, rfl, hB, hbl⟩ := hrel
    have hc1 := bcell hbl
    have hf1 := bfrozen hbl
    by_cases hlt : i < n
    · obtain ⟨b, o, x, rfl, hb, hx, hc⟩ := HL.out.at_ (k := i) (by rw [HN.out]; exact hlt)
      have hq : i / 64 < m := by omega
      have hla := laid_at l i m hq
      have hpl := packTo_lt (fun b => l.getD (64 * (i / 64) + b) false) (i % 64)
      have hpw := pack_word (fun b => l.getD (64 * (i / 64) + b) false) (i % 64) (by omega)
      have hstep := laid_step l i m hq
      have hskip := laid_skip l i m hq
      rw [show l.getD i false = x by rw [List.getD, hx]; rfl] at hstep hskip
      clear hx
      generalize packTo (fun b => l.getD (64 * (i / 64) + b) false) (i % 64) = y at *
      have hcell : wr.cell? ⟨w.heap.size + 1, i / 64, none⟩ = some (.int .u64 y) := by rw [hB.cell, asWords, List.getElem?_map, hla]; rfl
      have hfz := hB.frozen (i / 64)
      have hor := or_bit_int y (i % 64) (by omega) hpl
      have HST := Lib.hid hstep
      have HSK := Lib.hid hskip
      clear hla hpl hstep hskip
      cases x
      · go_wp2
        go_roundw
        case rel => exact ⟨i + 1, by omega, by go_num, by rw [HSK.out rfl]; exact hB, hbl⟩
        case measure => simp [intOf]; omega
      · go_wp2
        go_region
        go_wp2
        go_roundw
        case rel => exact ⟨i + 1, by omega, by go_num, by rw [HST.out]; exact Blk.drew (by simpa [asWords, List.map_set] using hB.put (i / 64) (.int .u64 (y + 2 ^ (i % 64) : Nat))), (hbl.setCell (by simp) _).drew⟩
        case measure => simp [intOf]; omega
    · obtain rfl : n = i := by omega
      have hbox : Blk wr w.heap.size 67 [.int .i64 0, .slice none 0 0] := (Blk.new w 67 [.int .i64 0, .slice none 0 0]).below hbl (by omega)
      have hq0 : wr.cell? ⟨w.heap.size, 0, none⟩ = some (.int .i64 0) := hbox.cell 0
      have hq1 : wr.cell? ⟨w.heap.size, 1, none⟩ = some (.slice none 0 0) := hbox.cell 1
      go_wp2
      refine bodyPost_ret (v := .tuple #[.agg #[.int .i64 n, .slice (some ⟨w.heap.size + 1, 0, none⟩) m m], .int .i64 0]) (by simp [results, Try.results56, go_sem, hq0, hq1]) rfl ?_
      have hrow : laid l n m = rowOf l := by unfold rowOf; rw [HN.out, HM.out]
      have hB2 := (hB.far (p := ⟨w.heap.size, 0, none⟩) (by simp) (.int .i64 n)).far (p := ⟨w.heap.size, 1, none⟩) (by simp) (.slice (some ⟨w.heap.size + 1, 0, none⟩) m m)
      refine ⟨_, m, by rw [rowOf_length, HN.out, HM.out], ⟨by rw [← hrow]; exact hB2.lies, rowOf_word l⟩, (fun ad e => by obtain rfl := Option.some.inj e; simp), ?_⟩
      exact (((bnew _ _).trans (hbl.mono (by omega))).setCell (Nat.le_refl _) _).setCell (Nat.le_refl _) _
end Go.Proofs.Ytpkclmfadlkbeaa
