/-
  What the document's answer to bits.Make returns: contracts, walked over the translated text. No condition but what each theorem names.
-/
import Derived.Test.YtjgibbccjijpaaaBitsMk
import Derived.Deep.AppendLies
namespace Go.Proofs.Ytjgibbccjijpaaa
open Go.RowKit Words

/-- Memory in the midst of the document's Make: the result's variable, the vector's variable, the words so far. -/
structure MkAt (w w' : World) (n : Nat) (v : Value) (k : Nat) (ws : List Nat) : Prop where
  res : Blk w' w.heap.size 32 [.int .i64 0, .slice none 0 0]
  box : Blk w' (w.heap.size + 1) 32 [.int .i64 n, v]
  row : w'.ownsRow (w.heap.size + 2) 95 1 v k (asWords ws)
  bel : Below w.heap.size w w'

theorem ownsRow_setCell_far {w : World} {base : Nat} {e : TypeId} {size : Nat} {v : Value} {n : Nat} {xs : List Value} (h : w.ownsRow base e size v n xs) {a : Addr} (ha : a.block < base) (u : Value) : (w.setCell a u).ownsRow base e size v n xs := ownsRow_setCell_below h ha u

theorem Blk.grown {w w' : World} {g : Nat} {t : TypeId} {xs : List Value} {row : Option Nat} (h : Blk w g t xs) (hg : w.grownBy w' row) (hne : some g ≠ row) : Blk w' g t xs := (hg.block g h.lt hne).trans h

theorem MkAt.added {w wr w2 : World} {n : Nat} {v v1 : Value} {k : Nat} {ws : List Nat} (h : MkAt w wr n v k ws) {o : Obj} (hg : (wr.alloc o).grownBy w2 v.ownBlock) (hown : w2.ownsRow (w.heap.size + 2) 95 1 v1 (k + 1) (asWords ws ++ [.int .u64 0])) :
    MkAt w (w2.setCell ⟨w.heap.size + 1, 1, none⟩ v1) n v1 (k + 1) (ws ++ [0]) := by
  have hfar : ∀ g, g < w.heap.size + 2 → some g ≠ v.ownBlock := fun g hg e => by
    have := (h.row.lt g e.symm).1
    omega
  have hs := h.bel.size
  refine ⟨((h.res.alloc o).grown hg (hfar _ (by omega))).far (by simp) _, ?_, ownsRow_setCell_far (by simpa [asWords] using hown) (by simp) _, ?_⟩
  · exact ((h.box.alloc o).grown hg (hfar _ (by omega))).put 1 v1
  · refine Below.setCell (Below.grown (h.bel.alloc hs o) hg (by simp; omega) (fun q hq => ?_)) (by simp) _
    have := (h.row.lt q hq).1
    omega

theorem MkAt.stored {w wr : World} {n g cap k : Nat} {ws : List Nat} (h : MkAt w wr n (.slice (some ⟨g, 0, none⟩) k cap) k ws) (j x : Nat) :
    MkAt w (wr.setCell ⟨g, j, none⟩ (.int .u64 x)) n (.slice (some ⟨g, 0, none⟩) k cap) k (ws.set j x) := by
  have hg := (h.row.lt g rfl).1
  refine ⟨h.res.far (by simp; omega) _, h.box.far (by simp; omega) _, ?_, h.bel.setCell (by simp; omega) _⟩
  have := (h.row.stored j (.int .u64 x)).1
  simpa [asWords, List.map_set] using this

theorem MkAt.drew {w wr : World} {n : Nat} {v : Value} {k : Nat} {ws : List Nat} (h : MkAt w wr n v k ws) : MkAt w wr.drew n v k ws := ⟨h.res, h.box, h.row, h.bel.drew⟩

theorem MkAt.mid {w wr w2 : World} {n : Nat} {v : Value} {k : Nat} {ws : List Nat} (h : MkAt w wr n v k ws) {o : Obj} (hg : (wr.alloc o).grownBy w2 v.ownBlock) : Blk w2 (w.heap.size + 1) 32 [.int .i64 n, v] :=
  (h.box.alloc o).grown hg (fun e => by have := (h.row.lt _ e.symm).1; omega)

theorem MkAt.words {w wr : World} {n g cap k : Nat} {ws : List Nat} (h : MkAt w wr n (.slice (some ⟨g, 0, none⟩) k cap) k ws) {q y : Nat} (hq : q < k) (hy : ws[q]? = some y) : wr.cell? ⟨g, q, none⟩ = some (.int .u64 y) := by
  rw [h.row.cellAt q (by omega), asWords, List.getElem?_map, hy]; rfl

/-- The document's Make of too long a list. -/
theorem rmake_size (A : Option Addr) (n c : Nat) (w : World) (h : 4096 < n) (hn : n ≤ 9223372036854775807) :
    Calls Try.prog 40 #[.slice A n c] w fun e w' => e = .returned (.tuple #[.agg #[.int .i64 0, .slice none 0 0], .int .i64 1]) ∧ Below w.heap.size w w' := by
  go_enter Try.func40, Try.ntmps40
  go_wp2
  exact bodyPost_ret (v := .tuple #[.agg #[.int .i64 0, .slice none 0 0], .int .i64 1]) (by simp [results, Try.results40, go_sem]) rfl ⟨rfl, bnew _ _⟩

set_option maxHeartbeats 1000000 in
/-- The document's Make. -/
theorem rmake_any (A : Option Addr) (l : List Bool) (c : Nat) (w : World) (h : l.length ≤ 4096) (hL : Lies w w.heap.size A (l.map .bool)) :
    Calls Try.prog 40 #[.slice A l.length c] w (GivesBits w l.length (rowOf l)) := by
  have HL := Lib.hid hL
  clear hL
  generalize hn : l.length = n at *
  have HN := Lib.hid hn
  clear hn
  have hd : decide (4096 < (n : Int)) = false := by simp; omega
  go_enter Try.func40, Try.ntmps40
  go_wp2
  go_loopw [16] (fun u w' => ∃ (i : Nat) (v : Value), i ≤ n ∧ u = .int .i64 i ∧ MkAt w w' n v ((i + 63) / 64) (laid l i ((i + 63) / 64))) (fun u _ => n - (intOf u).toNat)
  case atStart =>
    refine ⟨0, .slice none 0 0, Nat.zero_le _, rfl, ?_⟩
    refine ⟨(Blk.new w 32 [.int .i64 0, .slice none 0 0]).alloc _, ?_, World.ownsRow_nil _ _ _ _, (bnew _ _).alloc (by simp) _⟩
    have := Blk.new (w.alloc (.cells #[.int .i64 0, .slice none 0 0] 32)) 32 [.int .i64 n, .slice none 0 0]
    simpa using this
  case round =>
    obtain ⟨i, v, hi, rfl, hat⟩ := hrel
    obtain ⟨A', c', rfl, hle', _, _, _, _⟩ := own_slice hat.row
    have hq0 : wr.cell? ⟨w.heap.size + 1, 0, none⟩ = some (.int .i64 n) := hat.box.cell 0
    have hq1 : wr.cell? ⟨w.heap.size + 1, 1, none⟩ = some (.slice A' ((i + 63) / 64) c') := hat.box.cell 1
    have hf1 := hat.box.frozen 1
    have hc1 := bcell hat.bel
    have hs := hat.bel.size
    have hs2 := hat.box.lt
    by_cases hlt : i < n
    · obtain ⟨b, o, x, rfl, hb, hx, hc⟩ := HL.out.at_ (k := i) (by rw [HN.out]; exact hlt)
      have hpl := packTo_lt (fun b => l.getD (64 * (i / 64) + b) false) (i % 64)
      have hpw := pack_word (fun b => l.getD (64 * (i / 64) + b) false) (i % 64) (by omega)
      have hla := laid_at l i (i / 64 + 1) (by omega)
      have hstep := laid_step l i (i / 64 + 1) (by omega)
      have hskip := laid_skip l i (i / 64 + 1) (by omega)
      have hk1 : (i + 1 + 63) / 64 = i / 64 + 1 := by omega
      rw [show l.getD i false = x by rw [List.getD, hx]; rfl] at hstep hskip
      have hadd := add_bit_int (packTo (fun b => l.getD (64 * (i / 64) + b) false) (i % 64)) (i % 64) (by omega) hpl
      generalize packTo (fun b => l.getD (64 * (i / 64) + b) false) (i % 64) = y at *
      have HST := Lib.hid hstep
      have HSK := Lib.hid hskip
      have HLA := Lib.hid hla
      have HK1 := Lib.hid hk1
      clear hx hpl hla hstep hskip hk1
      by_cases h64 : i % 64 = 0
      · have hmore := laid_more l i (i / 64) (by omega)
        have hik : (i + 63) / 64 = i / 64 := by omega
        rw [hik] at hat hq1 hle'
        have HMO := Lib.hid hmore
        have hz : ((i : Int) % 64 == 0) = true := by simp; omega
        clear hmore hik
        have HAT := Lib.hid hat
        have hown := hat.row
        clear hat
        generalize hqi : i / 64 = q at *
        have hq64 : q ≤ 4096 := by omega
        have HQI := Lib.hid hqi
        have H64 := Lib.hid h64
        clear hqi h64
        go_wp2_with (at_builtin; refine append_one _ rfl (.tmp 25) (.tmp 26) 30 rfl (w.heap.size + 2) 95 (.int .u64 0) 8 Try.underlying30 word_info rfl (.slice A' q c') q _ rfl (hown.alloc _) wr.heap.size 1 (.int .u64 0) rfl (by simp) rfl (by simp only [maxLen]; omega) (by omega) (by simp; omega) ?_)
        intro v1 w2 hown1 hg1
        obtain ⟨g, cap, rfl, hgb, hglt⟩ := hown1.form (by omega)
        have hat2 := HAT.out.added hg1 hown1
        rw [← HMO.out] at hat2
        have hp1 : w2.cell? ⟨w.heap.size + 1, 1, none⟩ = some (.slice A' q c') := (HAT.out.mid hg1).cell 1
        have hpf := (HAT.out.mid hg1).frozen 1
        have HAT2 := Lib.hid hat2
        clear hat2 hown hown1 hg1 hz
        cases x
        · go_wp2
          go_roundw
          case rel => exact ⟨i + 1, _, by omega, by go_num, by rw [HK1.out, HSK.out rfl]; exact HAT2.out⟩
          case measure => simp [intOf]; omega
        · go_wp2
          generalize w2.setCell ⟨w.heap.size + 1, 1, none⟩ (.slice (some ⟨g, 0, none⟩) (q + 1) cap) = w3 at *
          clear hp1 hpf hq0 hq1 hf1 hc1
          have hq1 : w3.cell? ⟨w.heap.size + 1, 1, none⟩ = some (.slice (some ⟨g, 0, none⟩) (q + 1) cap) := HAT2.out.box.cell 1
          have hcy := HAT2.out.words (by omega) HLA.out
          have hfy := HAT2.out.row.frozenAt q
          go_region
          go_wp2
          go_roundw
          case rel => exact ⟨i + 1, _, by omega, by go_num, by
            rw [HK1.out, HST.out]
            simpa using (HAT2.out.stored q (y + 2 ^ (i % 64))).drew⟩
          case measure => simp [intOf]; omega
      · have hik : (i + 63) / 64 = i / 64 + 1 := by omega
        rw [hik] at hat hq1 hle'
        obtain ⟨g, cap, hv, hgb, hglt⟩ := hat.row.form (by omega)
        simp only [Value.slice.injEq, true_and] at hv
        obtain ⟨rfl, rfl⟩ := hv
        have hz : ((i : Int) % 64 == 0) = false := by simp; omega
        clear hik h64
        have HAT := Lib.hid hat
        clear hat
        generalize hqi : i / 64 = q at *
        have hq64 : q ≤ 4096 := by omega
        have HQI := Lib.hid hqi
        clear hqi
        have hcy := HAT.out.words (by omega) HLA.out
        have hfy := HAT.out.row.frozenAt q
        cases x
        · go_wp2
          go_roundw
          case rel => exact ⟨i + 1, _, by omega, by go_num, by rw [HK1.out, HSK.out rfl]; exact HAT.out⟩
          case measure => simp [intOf]; omega
        · go_wp2
          go_region
          go_wp2
          go_roundw
          case rel => exact ⟨i + 1, _, by omega, by go_num, by
            rw [HK1.out, HST.out]
            simpa using (HAT.out.stored q (y + 2 ^ (i % 64))).drew⟩
          case measure => simp [intOf]; omega
    · obtain rfl : n = i := by omega
      have hr0 : wr.cell? ⟨w.heap.size, 0, none⟩ = some (.int .i64 0) := hat.res.cell 0
      have hr1 : wr.cell? ⟨w.heap.size, 1, none⟩ = some (.slice none 0 0) := hat.res.cell 1
      have hg0 := hat.res.frozen 0
      have hg1 := hat.res.frozen 1
      have HAT := Lib.hid hat
      clear hat hf1
      go_wp2
      refine bodyPost_ret (v := .tuple #[.agg #[.int .i64 n, .slice A' ((n + 63) / 64) c'], .int .i64 0]) (by simp [results, Try.results40, go_sem, hr0, hr1]) rfl ?_
      obtain ⟨_, _, hrow, hbel⟩ := HAT.out
      have h2 := ownsRow_setCell_far (ownsRow_setCell_far hrow (a := ⟨w.heap.size, 0, none⟩) (by simp) (.int .i64 n)) (a := ⟨w.heap.size, 1, none⟩) (by simp) (.slice A' ((n + 63) / 64) c')
      obtain ⟨A2, c2, hv, _, _, hlies, _, hnew⟩ := own_slice h2
      simp only [Value.slice.injEq, true_and] at hv
      obtain ⟨rfl, rfl⟩ := hv
      have hrw : laid l n ((n + 63) / 64) = rowOf l := by unfold rowOf; rw [HN.out]
      refine ⟨A', c', by rw [rowOf_length, HN.out], ⟨by rw [← hrw]; exact hlies, rowOf_word l⟩, hnew.mono (by omega), (hbel.setCell (Nat.le_refl _) _).setCell (Nat.le_refl _) _⟩
end Go.Proofs.Ytjgibbccjijpaaa
