/-
  What the document's answer to pack.Make returns: contracts, walked over the translated text. No condition but what each theorem names.
-/
import Derived.Test.YtmlekhgjnhnjlaaDoorPackMk
import Derived.Deep.AppendLies
namespace Go.Proofs.YtmlekhgjnhnjlaaDoor
open Go.RowKit Words

/-- Memory in the midst of the document's Make: the result's variable, the array's variable, the words so far. -/
structure PkAt (w w' : World) (n d : Nat) (v : Value) (k : Nat) (ws : List Nat) : Prop where
  res : Blk w' w.heap.size 24 [.int .i64 0, .int .i64 0, .slice none 0 0]
  box : Blk w' (w.heap.size + 1) 24 [.int .i64 n, .int .i64 d, v]
  row : w'.ownsRow (w.heap.size + 2) 60 1 v k (asWords ws)
  bel : Below w.heap.size w w'

theorem Blk.grown2 {w w' : World} {g : Nat} {t : TypeId} {xs : List Value} {row : Option Nat} (h : Blk w g t xs) (hg : w.grownBy w' row) (hne : some g ≠ row) : Blk w' g t xs := (hg.block g h.lt hne).trans h

theorem PkAt.added {w wr w2 : World} {n d : Nat} {v v1 : Value} {k : Nat} {ws : List Nat} (h : PkAt w wr n d v k ws) {o : Obj} (hg : (wr.alloc o).grownBy w2 v.ownBlock) (hown : w2.ownsRow (w.heap.size + 2) 60 1 v1 (k + 1) (asWords ws ++ [.int .u64 0])) :
    PkAt w (w2.setCell ⟨w.heap.size + 1, 2, none⟩ v1) n d v1 (k + 1) (ws ++ [0]) := by
  have hfar : ∀ g, g < w.heap.size + 2 → some g ≠ v.ownBlock := fun g hg e => by
    have := (h.row.lt g e.symm).1
    omega
  have hs := h.bel.size
  refine ⟨((h.res.alloc o).grown2 hg (hfar _ (by omega))).far (by simp) _, ?_, ownsRow_setCell_below (by simpa [asWords] using hown) (by simp) _, ?_⟩
  · exact ((h.box.alloc o).grown2 hg (hfar _ (by omega))).put 2 v1
  · refine Below.setCell (Below.grown (h.bel.alloc hs o) hg (by simp; omega) (fun q hq => ?_)) (by simp) _
    have := (h.row.lt q hq).1
    omega

theorem PkAt.stored {w wr : World} {n d g cap k : Nat} {ws : List Nat} (h : PkAt w wr n d (.slice (some ⟨g, 0, none⟩) k cap) k ws) (j x : Nat) :
    PkAt w (wr.setCell ⟨g, j, none⟩ (.int .u64 x)) n d (.slice (some ⟨g, 0, none⟩) k cap) k (ws.set j x) := by
  have hg := (h.row.lt g rfl).1
  refine ⟨h.res.far (by simp; omega) _, h.box.far (by simp; omega) _, ?_, h.bel.setCell (by simp; omega) _⟩
  have := (h.row.stored j (.int .u64 x)).1
  simpa [asWords, List.map_set] using this

theorem PkAt.drew {w wr : World} {n d : Nat} {v : Value} {k : Nat} {ws : List Nat} (h : PkAt w wr n d v k ws) : PkAt w wr.drew n d v k ws := ⟨h.res, h.box, h.row, h.bel.drew⟩

theorem PkAt.mid {w wr w2 : World} {n d : Nat} {v : Value} {k : Nat} {ws : List Nat} (h : PkAt w wr n d v k ws) {o : Obj} (hg : (wr.alloc o).grownBy w2 v.ownBlock) : Blk w2 (w.heap.size + 1) 24 [.int .i64 n, .int .i64 d, v] :=
  (h.box.alloc o).grown2 hg (fun e => by have := (h.row.lt _ e.symm).1; omega)

theorem PkAt.words {w wr : World} {n d g cap k : Nat} {ws : List Nat} (h : PkAt w wr n d (.slice (some ⟨g, 0, none⟩) k cap) k ws) {q y : Nat} (hq : q < k) (hy : ws[q]? = some y) : wr.cell? ⟨g, q, none⟩ = some (.int .u64 y) := by
  rw [h.row.cellAt q (by omega), asWords, List.getElem?_map, hy]; rfl

theorem bit_of_int (x k : Nat) (hx : x < 4611686018427387904) : bits BinOp.and IntKind.i64 ((x : Int) / 2 ^ k) 1 = ((x.testBit k).toNat : Int) := by
  have e : ((x : Int) / 2 ^ k) = ((x / 2 ^ k : Nat) : Int) := by simp
  have hl : x / 2 ^ k < 4611686018427387904 := Nat.lt_of_le_of_lt (Nat.div_le_self _ _) hx
  rw [e, Nat.testBit_eq_decide_div_mod_eq]
  generalize x / 2 ^ k = y at *
  have hm := bits_mask .i64 63 (by decide) i64_in63 1 (by decide) (y : Int) (by omega) (by omega)
  have hm2 : bits BinOp.and IntKind.i64 (y : Int) 1 = (y : Int) % 2 := hm
  rw [hm2]
  by_cases h : y % 2 = 1
  · simp only [h, decide_true, Bool.toNat_true]; omega
  · simp only [h, decide_false, Bool.toNat_false]; omega

theorem add_part_int (y b s : Nat) (hs : s < 64) (hy : y < 2 ^ s) (hb : b ≤ 1) : IntKind.u64.wrap ((y : Int) + IntKind.u64.wrap ((b : Int) * 2 ^ s)) = ((y + b * 2 ^ s : Nat) : Int) := by
  have hp : 2 ^ s ≤ 9223372036854775808 := Nat.pow_le_pow_right (n := 2) (j := 63) (by decide) (by omega)
  have e : ((2 : Int) ^ s) = ((2 ^ s : Nat) : Int) := by simp
  rw [e]
  generalize 2 ^ s = p at *
  rw [IntKind.wrap_u64, IntKind.wrap_u64]
  rcases (show b = 0 ∨ b = 1 by omega) with rfl | rfl
  · simp; omega
  · simp; omega

/-- The document's Make of too long a list. -/
theorem rpmake_size (d : Int) (A : Option Addr) (n c : Nat) (w : World) (h : 300 < n) (hn : n ≤ 9223372036854775807) :
    Calls Tryd.prog 34 #[.int .i64 d, .slice A n c] w (NoPacked w 1) := by
  go_enter Tryd.func34, Tryd.ntmps34
  go_wp2
  exact bodyPost_ret (v := .tuple #[.agg #[.int .i64 0, .int .i64 0, .slice none 0 0], .int .i64 1]) (by simp [results, Tryd.results34, go_sem]) rfl ⟨rfl, bnew _ _⟩

/-- The document's Make with a width that is none. -/
theorem rpmake_width (d : Int) (A : Option Addr) (n c : Nat) (w : World) (h : n ≤ 300) (hd : d < 0 ∨ 62 < d) :
    Calls Tryd.prog 34 #[.int .i64 d, .slice A n c] w (NoPacked w 2) := by
  have hh : d < 0 ∨ (¬ d < 0 ∧ 62 < d) := by omega
  clear hd
  rcases hh with h0 | ⟨h0, h1⟩
  all_goals
    go_enter Tryd.func34, Tryd.ntmps34
    go_wp2
    exact bodyPost_ret (v := .tuple #[.agg #[.int .i64 0, .int .i64 0, .slice none 0 0], .int .i64 2]) (by simp [results, Tryd.results34, go_sem]) rfl ⟨rfl, bnew _ _⟩

set_option maxHeartbeats 2000000 in
/-- The document's Make: the array, or a number that does not fit. -/
theorem rpmake_both (d : Nat) (A : Option Addr) (l : List Int) (c : Nat) (w : World) (hn : l.length ≤ 300) (hd : d ≤ 62) (hL : Lies w w.heap.size A (l.map (.int .i64))) :
    Calls Tryd.prog 34 #[.int .i64 d, .slice A l.length c] w fun e w' => ((∀ z ∈ l, Fit d z) ∧ GivesPacked w l.length d (packWords d (natsOf l)) e w') ∨ ((∃ z ∈ l, ¬ Fit d z) ∧ NoPacked w 2 e w') := by
  have HL := Lib.hid hL
  have hbd := mul_bound hn hd
  have hpi := pow_int2 d (by omega)
  have hpb := pow62 hd
  clear hL
  generalize hu : l.length * d = u at *
  have HU := Lib.hid hu
  clear hu
  generalize hnn : l.length = n at *
  have HN := Lib.hid hnn
  clear hnn
  generalize hpw : 2 ^ d = pw at *
  have HPW := Lib.hid hpw
  clear hpw
  have hd0 : decide (300 < (n : Int)) = false := by simp; omega
  have hd1 : decide ((d : Int) < 0) = false := by simp
  have hd2 : decide (62 < (d : Int)) = false := by simp; omega
  go_enter Tryd.func34, Tryd.ntmps34
  go_wp2
  go_loopw [7, 28] (fun q u w' => ∃ (i : Nat) (v : Value), i ≤ n ∧ u = .int .i64 i ∧ q = .int .i64 (i * d : Nat) ∧ PkAt w w' n d v ((i * d + 63) / 64) (laid (bitsOf d (natsOf l)) (i * d) ((i * d + 63) / 64)) ∧ ∀ j z, j < i → l[j]? = some z → Fit d z) (fun _ u _ => n - (intOf u).toNat)
  case atStart =>
    refine ⟨0, .slice none 0 0, Nat.zero_le _, rfl, by simp, ?_, fun j z h => by omega⟩
    rw [Nat.zero_mul]
    refine ⟨(Blk.new w 24 [.int .i64 0, .int .i64 0, .slice none 0 0]).alloc _, ?_, World.ownsRow_nil _ _ _ _, (bnew _ _).alloc (by simp) _⟩
    have := Blk.new (w.alloc (.cells #[.int .i64 0, .int .i64 0, .slice none 0 0] 24)) 24 [.int .i64 n, .int .i64 d, .slice none 0 0]
    simpa using this
  case round =>
    obtain ⟨i, v, hi, rfl, rfl, hat, hz⟩ := hrel
    have HZ := Lib.hid hz
    clear hz
    have hr0 : wr.cell? ⟨w.heap.size, 0, none⟩ = some (.int .i64 0) := hat.res.cell 0
    have hr1 : wr.cell? ⟨w.heap.size, 1, none⟩ = some (.int .i64 0) := hat.res.cell 1
    have hr2 : wr.cell? ⟨w.heap.size, 2, none⟩ = some (.slice none 0 0) := hat.res.cell 2
    have hg0 := hat.res.frozen 0
    have hg1 := hat.res.frozen 1
    have hg2 := hat.res.frozen 2
    have hc1 := bcell hat.bel
    have hs := hat.bel.size
    have hs2 := hat.box.lt
    by_cases hlt : i < n
    · obtain ⟨b, o, z, rfl, hb, hx, hc⟩ := HL.out.at_ (k := i) (by rw [HN.out]; exact hlt)
      have HX := Lib.hid hx
      clear hx
      by_cases hf : Fit d z
      · have HFit := Lib.hid hf
        obtain ⟨x, rfl⟩ := Int.eq_ofNat_of_zero_le hf.1
        have hxd : x < pw := by rw [← HPW.out]; exact_mod_cast hf.2
        have hx62 : x < 4611686018427387904 := by omega
        clear hf
        have hg := natsOf_get l i x HX.out
        have hlen : i < (natsOf l).length := by rw [natsOf_length, HN.out]; exact hlt
        have hgets := fun k hk => bitsOf_get d (natsOf l) i k hlen hk
        rw [hg] at hgets
        have HG := Lib.hid hgets
        clear hgets hg hlen
        have hid : i * d + d ≤ 18600 := by
          have h1 : (i + 1) * d ≤ n * d := Nat.mul_le_mul_right d (by omega)
          rw [HU.out, Nat.add_mul, Nat.one_mul] at h1
          omega
        have hdx0 : decide ((x : Int) < 0) = false := by simp
        have hdx1 : decide (pw ≤ x) = false := by simp; omega
        have HAT := Lib.hid hat
        have HSU := Lib.hid (show (i + 1) * d = i * d + d by rw [Nat.add_mul, Nat.one_mul])
        clear hat
        generalize i * d = p at *
        go_wp2
        clear hr0 hr1 hr2 hg0 hg1 hg2 hc1 hs hs2 hc
        go_loopw [7, 10] (fun q s w' => ∃ (k : Nat) (v : Value), k ≤ d ∧ s = .int .i64 k ∧ q = .int .i64 (p + k : Nat) ∧ PkAt w w' n d v ((p + k + 63) / 64) (laid (bitsOf d (natsOf l)) (p + k) ((p + k + 63) / 64))) (fun _ s _ => d - (intOf s).toNat)
        case atStart => exact ⟨0, v, Nat.zero_le _, rfl, rfl, HAT.out⟩
        case round =>
          clear HAT
          obtain ⟨k, v, hk, rfl, rfl, hat⟩ := hrel
          obtain ⟨A', c', rfl, hle', _, _, _, _⟩ := own_slice hat.row
          by_cases hkd : k < d
          · have hgk := HG.out k hkd
            have hbit := bit_of_int x k hx62
            have hb1 : (x.testBit k).toNat ≤ 1 := by cases x.testBit k <;> simp
            generalize hPk : p + k = P at *
            have HPK := Lib.hid hPk
            clear hPk
            have hPb : P ≤ 18600 := by rw [← HPK.out]; omega
            have hpl := packTo_lt (fun b => (bitsOf d (natsOf l)).getD (64 * (P / 64) + b) false) (P % 64)
            have hpw := pack_word (fun b => (bitsOf d (natsOf l)).getD (64 * (P / 64) + b) false) (P % 64) (by omega)
            have hla := laid_at (bitsOf d (natsOf l)) P (P / 64 + 1) (by omega)
            have hstep := laid_step (bitsOf d (natsOf l)) P (P / 64 + 1) (by omega)
            have hk1 : (P + 1 + 63) / 64 = P / 64 + 1 := by omega
            rw [hgk] at hstep
            generalize (x.testBit k).toNat = bb at *
            have hadd := add_part_int (packTo (fun b => (bitsOf d (natsOf l)).getD (64 * (P / 64) + b) false) (P % 64)) bb (P % 64) (by omega) hpl hb1
            generalize packTo (fun b => (bitsOf d (natsOf l)).getD (64 * (P / 64) + b) false) (P % 64) = y at *
            have HST := Lib.hid hstep
            have HLA := Lib.hid hla
            have HK1 := Lib.hid hk1
            clear hpl hla hstep hk1 hgk
            by_cases h64 : P % 64 = 0
            · have hmore := laid_more (bitsOf d (natsOf l)) P (P / 64) (by omega)
              have hik : (P + 63) / 64 = P / 64 := by omega
              rw [hik] at hat hle'
              have hq2 : wr.cell? ⟨w.heap.size + 1, 2, none⟩ = some (.slice A' (P / 64) c') := hat.box.cell 2
              have HMO := Lib.hid hmore
              have hz0 : ((P : Int) % 64 == 0) = true := by simp; omega
              clear hmore hik
              have HAT := Lib.hid hat
              have hown := hat.row
              have hsz := hat.box.lt
              clear hat
              generalize hqi : P / 64 = q at *
              have hq64 : q ≤ 300 := by omega
              have HQI := Lib.hid hqi
              have H64 := Lib.hid h64
              clear hqi h64
              go_wp2_with (at_builtin; refine append_one _ rfl (.tmp 50) (.tmp 51) 22 rfl (w.heap.size + 2) 60 (.int .u64 0) 8 Tryd.underlying22 word_info rfl (.slice A' q c') q _ rfl (hown.alloc _) wr.heap.size 1 (.int .u64 0) rfl (by simp) rfl (by simp only [maxLen]; omega) (by omega) (by simp; omega) ?_)
              intro v1 w2 hown1 hg1
              obtain ⟨g, cap, rfl, hgb, hglt⟩ := hown1.form (by omega)
              have hat2 := HAT.out.added hg1 hown1
              rw [← HMO.out] at hat2
              have hp1 : w2.cell? ⟨w.heap.size + 1, 2, none⟩ = some (.slice A' q c') := (HAT.out.mid hg1).cell 2
              have hpf := (HAT.out.mid hg1).frozen 2
              have HAT2 := Lib.hid hat2
              clear hat2 hown hown1 hg1 hz0
              go_wp2
              generalize w2.setCell ⟨w.heap.size + 1, 2, none⟩ (.slice (some ⟨g, 0, none⟩) (q + 1) cap) = w3 at *
              clear hp1 hpf hq2
              have hq1 : w3.cell? ⟨w.heap.size + 1, 2, none⟩ = some (.slice (some ⟨g, 0, none⟩) (q + 1) cap) := HAT2.out.box.cell 2
              have hcy := HAT2.out.words (by omega) HLA.out
              have hfy := HAT2.out.row.frozenAt q
              go_region
              go_wp2
              go_roundw
              case rel => exact ⟨k + 1, _, by omega, by go_num, by rw [← HPK.out]; go_num, by
                rw [← Nat.add_assoc, HPK.out, HK1.out, HST.out]
                simpa using (HAT2.out.stored q (y + bb * 2 ^ (P % 64))).drew⟩
              case measure => simp [intOf]; omega
            · have hik : (P + 63) / 64 = P / 64 + 1 := by omega
              rw [hik] at hat hle'
              obtain ⟨g, cap, hv, hgb, hglt⟩ := hat.row.form (by omega)
              simp only [Value.slice.injEq, true_and] at hv
              obtain ⟨rfl, rfl⟩ := hv
              have hz0 : ((P : Int) % 64 == 0) = false := by simp; omega
              clear hik h64
              have HAT := Lib.hid hat
              clear hat
              generalize hqi : P / 64 = q at *
              have hq64 : q ≤ 300 := by omega
              have HQI := Lib.hid hqi
              clear hqi
              have hq1 : wr.cell? ⟨w.heap.size + 1, 2, none⟩ = some (.slice (some ⟨g, 0, none⟩) (q + 1) c') := HAT.out.box.cell 2
              have hcy := HAT.out.words (by omega) HLA.out
              have hfy := HAT.out.row.frozenAt q
              go_wp2
              go_region
              go_wp2
              go_roundw
              case rel => exact ⟨k + 1, _, by omega, by go_num, by rw [← HPK.out]; go_num, by
                rw [← Nat.add_assoc, HPK.out, HK1.out, HST.out]
                simpa using (HAT.out.stored q (y + bb * 2 ^ (P % 64))).drew⟩
              case measure => simp [intOf]; omega
          · obtain rfl : d = k := by omega
            have HAT := Lib.hid hat
            clear hat
            go_wp2
            go_roundw
            case rel => exact ⟨i + 1, _, by omega, by go_num, by rw [HSU.out], by rw [HSU.out]; exact HAT.out, fun j z hj hz => by
              by_cases e : j = i
              · rw [e, HX.out] at hz
                rw [← Option.some.inj hz]
                exact HFit.out
              · exact HZ.out j z (by omega) hz⟩
            case measure => simp [intOf]; omega
      · have HNF := Lib.hid hf
        have HBel := Lib.hid hat.bel
        clear hat
        have hh : z < 0 ∨ (¬ z < 0 ∧ (pw : Int) ≤ z) := by
          rcases Int.lt_or_le z 0 with h | h
          · exact .inl h
          · right
            refine ⟨by omega, ?_⟩
            rcases Int.lt_or_le z (pw : Int) with h2 | h2
            · exact absurd ⟨h, by rw [HPW.out]; exact h2⟩ hf
            · exact h2
        clear hf
        rcases hh with h0 | ⟨h0, h1⟩
        all_goals
          go_wp2
          refine bodyPost_ret (v := .tuple #[.agg #[.int .i64 0, .int .i64 0, .slice none 0 0], .int .i64 2]) (by simp [results, Tryd.results34, go_sem, hr0, hr1, hr2]) rfl ?_
          exact .inr ⟨⟨z, List.mem_of_getElem? HX.out, HNF.out⟩, rfl, ((HBel.out.setCell (Nat.le_refl _) _).setCell (Nat.le_refl _) _).setCell (Nat.le_refl _) _⟩
    · obtain rfl : n = i := by omega
      obtain ⟨A', c', rfl, hle', _, _, _, _⟩ := own_slice hat.row
      have hq0 : wr.cell? ⟨w.heap.size + 1, 0, none⟩ = some (.int .i64 n) := hat.box.cell 0
      have hq1 : wr.cell? ⟨w.heap.size + 1, 1, none⟩ = some (.int .i64 d) := hat.box.cell 1
      have hq2 : wr.cell? ⟨w.heap.size + 1, 2, none⟩ = some (.slice A' ((n * d + 63) / 64) c') := hat.box.cell 2
      have HAT := Lib.hid hat
      clear hat
      generalize hkk : (n * d + 63) / 64 = kk at *
      have HKK := Lib.hid hkk
      clear hkk
      go_wp2
      refine bodyPost_ret (v := .tuple #[.agg #[.int .i64 n, .int .i64 d, .slice A' kk c'], .int .i64 0]) (by simp [results, Tryd.results34, go_sem, hr0, hr1, hr2]) rfl ?_
      left
      refine ⟨fun z hz => ?_, ?_⟩
      · obtain ⟨j, hj, e⟩ := List.getElem_of_mem hz
        exact HZ.out j z (by rw [HN.out] at hj; exact hj) (by rw [List.getElem?_eq_getElem hj, e])
      · obtain ⟨_, _, hrow, hbel⟩ := HAT.out
        have h2 := ownsRow_setCell_below (ownsRow_setCell_below (ownsRow_setCell_below hrow (a := ⟨w.heap.size, 0, none⟩) (by simp) (.int .i64 n)) (a := ⟨w.heap.size, 1, none⟩) (by simp) (.int .i64 d)) (a := ⟨w.heap.size, 2, none⟩) (by simp) (.slice A' kk c')
        obtain ⟨A2, c2, hv, _, _, hlies, _, hnew⟩ := own_slice h2
        simp only [Value.slice.injEq, true_and] at hv
        obtain ⟨rfl, rfl⟩ := hv
        have hrw : laid (bitsOf d (natsOf l)) (n * d) kk = packWords d (natsOf l) := by unfold packWords rowOf; rw [bitsOf_length, natsOf_length, HN.out, HKK.out]
        rw [hrw] at hlies
        refine ⟨A', c', by rw [packWords_length, natsOf_length, HN.out, HKK.out], ⟨hlies, packWords_word _ _⟩, hnew.mono (by omega), ((hbel.setCell (Nat.le_refl _) _).setCell (Nat.le_refl _) _).setCell (Nat.le_refl _) _⟩

/-- The document's Make of numbers that fit. -/
theorem rpmake_any (d : Nat) (A : Option Addr) (l : List Int) (c : Nat) (w : World) (hn : l.length ≤ 300) (hd : d ≤ 62) (hL : Lies w w.heap.size A (l.map (.int .i64))) (hf : ∀ z ∈ l, Fit d z) :
    Calls Tryd.prog 34 #[.int .i64 d, .slice A l.length c] w (GivesPacked w l.length d (packWords d (natsOf l))) :=
  (rpmake_both d A l c w hn hd hL).mono fun _ _ h => h.elim (fun h => h.2) (fun ⟨⟨z, hz, h⟩, _⟩ => absurd (hf z hz) h)

/-- The document's Make of a number that does not fit. -/
theorem rpmake_bad (d : Nat) (A : Option Addr) (l : List Int) (c : Nat) (w : World) (hn : l.length ≤ 300) (hd : d ≤ 62) (hL : Lies w w.heap.size A (l.map (.int .i64))) (hf : ¬ ∀ z ∈ l, Fit d z) :
    Calls Tryd.prog 34 #[.int .i64 d, .slice A l.length c] w (NoPacked w 2) :=
  (rpmake_both d A l c w hn hd hL).mono fun _ _ h => h.elim (fun h => absurd h.1 hf) (fun h => h.2)
end Go.Proofs.YtmlekhgjnhnjlaaDoor
