/-
  What the document's answer to fano.Make returns: contracts, walked over the translated text. No condition but what each theorem names.
-/
import Derived.Test.YtmlekhgjnhnjlaaDoorFanoMk
import Derived.Test.YtmlekhgjnhnjlaaDoorPackRMk
import Derived.Test.YtmlekhgjnhnjlaaDoorRefMk
import Derived.Deep.AppendLies
namespace Go.Proofs.YtmlekhgjnhnjlaaDoor
open Go.RowKit Words

/-- The document's Make of too long a list. -/
theorem rfmake_size (z : Int) (A : Option Addr) (n c : Nat) (w : World) (h : 300 < n) (hn : n ≤ 9223372036854775807) :
    Calls Tryd.prog 22 #[.int .i64 z, .slice A n c] w (NoFano w 1) := by
  go_enter Tryd.func22, Tryd.ntmps22
  go_wp2
  exact bodyPost_ret (v := .tuple #[.agg #[.int .i64 0, .int .i64 0, .int .i64 0, .slice none 0 0, .int .i64 0, .slice none 0 0], .int .i64 1]) (by simp [results, Tryd.results22, go_sem]) rfl ⟨rfl, bnew _ _⟩

/-- The document's Make with a bound that is none. -/
theorem rfmake_bound (z : Int) (A : Option Addr) (n c : Nat) (w : World) (h : n ≤ 300) (hz : z < 0 ∨ 1048576 < z) :
    Calls Tryd.prog 22 #[.int .i64 z, .slice A n c] w (NoFano w 2) := by
  have hh : z < 0 ∨ (¬ z < 0 ∧ 1048576 < z) := by omega
  clear hz
  rcases hh with h0 | ⟨h0, h1⟩
  all_goals
    go_enter Tryd.func22, Tryd.ntmps22
    go_wp2
    exact bodyPost_ret (v := .tuple #[.agg #[.int .i64 0, .int .i64 0, .int .i64 0, .slice none 0 0, .int .i64 0, .slice none 0 0], .int .i64 2]) (by simp [results, Tryd.results22, go_sem]) rfl ⟨rfl, bnew _ _⟩

theorem good_at (B : Nat) (l : List Int) (i : Nat) (x : Int) (h : l[i]? = some x) : Good B l i ↔ 0 ≤ x ∧ x ≤ (B : Int) ∧ (0 < i → l.getD (i - 1) 0 ≤ x) := by
  unfold Good
  rw [show l.getD i 0 = x by rw [List.getD, h]; rfl]

set_option maxHeartbeats 1000000 in
/-- The document's Make of a list that is not good. -/
theorem rfmake_form (B : Nat) (A : Option Addr) (l : List Int) (c : Nat) (w : World) (h : l.length ≤ 300) (hB : B ≤ 1048576) (hL : Lies w w.heap.size A (l.map (.int .i64))) (hg : ¬ AllGood B l) :
    Calls Tryd.prog 22 #[.int .i64 B, .slice A l.length c] w (NoFano w 4) := by
  have HL := Lib.hid hL
  have HG := Lib.hid hg
  clear hL hg
  generalize hnn : l.length = n at *
  have HN := Lib.hid hnn
  clear hnn
  have hd0 : decide ((B : Int) < 0) = false := by simp
  have hd1 : decide (1048576 < (B : Int)) = false := by simp; omega
  go_enter Tryd.func22, Tryd.ntmps22
  go_wp2
  go_loop [32] (fun u => ∃ i : Nat, i ≤ n ∧ u = .int .i64 i ∧ ∀ j, j < i → Good B l j) (fun u => n - (intOf u).toNat)
  case atStart => exact ⟨0, Nat.zero_le _, rfl, fun j h => by omega⟩
  case round =>
    obtain ⟨i, hi, rfl, hz⟩ := hrel
    have HZ := Lib.hid hz
    clear hz
    by_cases hlt : i < n
    · obtain ⟨b, o, x, rfl, hb, hx, hc⟩ := HL.out.at_ (k := i) (by rw [HN.out]; exact hlt)
      have HGA := Lib.hid (good_at B l i x hx)
      clear hx
      by_cases h1 : x < 0
      · go_wp2
        exact bodyPost_ret (v := .tuple #[.agg #[.int .i64 0, .int .i64 0, .int .i64 0, .slice none 0 0, .int .i64 0, .slice none 0 0], .int .i64 4]) (by simp [results, Tryd.results22, go_sem]) rfl ⟨rfl, bnew _ _⟩
      by_cases h2 : (B : Int) < x
      · go_wp2
        exact bodyPost_ret (v := .tuple #[.agg #[.int .i64 0, .int .i64 0, .int .i64 0, .slice none 0 0, .int .i64 0, .slice none 0 0], .int .i64 4]) (by simp [results, Tryd.results22, go_sem]) rfl ⟨rfl, bnew _ _⟩
      cases i with
      | zero =>
        have HGo := Lib.hid (HGA.out.2 ⟨by omega, by omega, fun h => by omega⟩)
        have hc' : w.cell? ⟨b, o, none⟩ = some (.int .i64 x) := hc
        clear hc
        go_wp2
        go_round
        case rel => exact ⟨1, by omega, rfl, fun j hj => by
          obtain rfl : j = 0 := by omega
          exact HGo.out⟩
        case measure => simp [intOf]; omega
      | succ j =>
        obtain ⟨b2, o2, y, e2, hb2, hy, hc2⟩ := HL.out.at_ (k := j) (by rw [HN.out]; omega)
        simp only [Option.some.injEq, Addr.mk.injEq, and_true] at e2
        obtain ⟨rfl, rfl⟩ := e2
        have hyd : l.getD j 0 = y := by rw [List.getD, hy]; rfl
        have HY := Lib.hid hyd
        clear hy hyd
        by_cases h3 : x < y
        · go_wp2
          exact bodyPost_ret (v := .tuple #[.agg #[.int .i64 0, .int .i64 0, .int .i64 0, .slice none 0 0, .int .i64 0, .slice none 0 0], .int .i64 4]) (by simp [results, Tryd.results22, go_sem]) rfl ⟨rfl, bnew _ _⟩
        · have HGo := Lib.hid (HGA.out.2 ⟨by omega, by omega, fun _ => by rw [Nat.add_sub_cancel, HY.out]; omega⟩)
          go_wp2
          go_round
          case rel => exact ⟨j + 2, by omega, by go_num, fun k hk => by
            by_cases e : k = j + 1
            · rw [e]; exact HGo.out
            · exact HZ.out k (by omega)⟩
          case measure => simp [intOf]; omega
    · exact absurd (fun j hj => HZ.out j (by rw [HN.out] at hj; omega)) HG.out

theorem fwTo_at (n B k : Nat) (hk : 1 ≤ k) : fwTo n B k = if 0 < n ∧ n * 2 ^ k ≤ B then k else fwTo n B (k - 1) := by
  obtain ⟨j, rfl⟩ : ∃ j, k = j + 1 := ⟨k - 1, by omega⟩
  rfl

/-- The bits of the high part after i numbers. -/
def fhs (B : Nat) (ns : List Nat) (i : Nat) : List Bool := if ns.length = 0 then [] else fhighTo B ns i
theorem fhs_all (B : Nat) (ns : List Nat) : fhs B ns ns.length = fhigh B ns := by
  unfold fhs fhigh
  by_cases h : ns = []
  · subst h; rfl
  · rw [if_neg h, if_neg (fun e => h (List.eq_nil_of_length_eq_zero e))]

/-- Memory in the midst of the document's Make: the result's variable, the low parts so far, the high bits so far. -/
structure FrAt (w w' : World) (g : Nat) (v : Value) (i : Nat) (lows : List Value) (hs : List Bool) : Prop where
  res : Blk w' w.heap.size 28 [.int .i64 0, .int .i64 0, .int .i64 0, .slice none 0 0, .int .i64 0, .slice none 0 0]
  row : w'.ownsRow (g + 1) 3 1 v i lows
  high : Blk w' g 4 (hs.map .bool)
  bel : Below w.heap.size w w'

theorem FrAt.added {w wr w2 : World} {g : Nat} {v v1 : Value} {i : Nat} {lows : List Value} {hs : List Bool} {u : Value} (hgw : w.heap.size < g) (h : FrAt w wr g v i lows hs) {o : Obj} (hg : (wr.alloc o).grownBy w2 v.ownBlock) (hown : w2.ownsRow (g + 1) 3 1 v1 (i + 1) (lows ++ [u])) :
    FrAt w w2 g v1 (i + 1) (lows ++ [u]) hs := by
  have hfar : ∀ k, k < g + 1 → some k ≠ v.ownBlock := fun k hk e => by
    have := (h.row.lt k e.symm).1
    omega
  have hs := h.bel.size
  refine ⟨(h.res.alloc o).grown2 hg (hfar _ (by omega)), hown, (h.high.alloc o).grown2 hg (hfar _ (by omega)), ?_⟩
  refine Below.grown (h.bel.alloc hs o) hg (by simp; omega) (fun q hq => ?_)
  have := (h.row.lt q hq).1
  omega

theorem FrAt.stored {w wr : World} {g : Nat} {v : Value} {i : Nat} {lows : List Value} {hs : List Bool} (hgw : w.heap.size < g) (h : FrAt w wr g v i lows hs) (p : Nat) :
    FrAt w (wr.setCell ⟨g, p, none⟩ (.bool true)) g v i lows (hs.set p true) :=
  ⟨h.res.far (by simp; omega) _, ownsRow_setCell_below h.row (by simp) _, by rw [List.map_set]; exact h.high.put p _, h.bel.setCell (by simp; omega) _⟩

set_option maxHeartbeats 1000000 in
/-- The document's Make. -/
theorem rfmake_any (B : Nat) (A : Option Addr) (ns : List Nat) (c : Nat) (w : World) (h : ns.length ≤ 300) (hB : B ≤ 1048576) (hL : Lies w w.heap.size A ((asInts ns).map (.int .i64))) (hR : Rises B ns) :
    Calls Tryd.prog 22 #[.int .i64 B, .slice A ns.length c] w (MadeFano w B ns) := by
  have hx : ∀ x ∈ ns, x ≤ 1048576 := fun x hx => Nat.le_trans (hR.mem x hx) hB
  have hd := fw_le ns.length B
  have HPk := Lib.hid (fun A c W hL => rpmake_any (fw ns.length B) A (asInts (flow (fw ns.length B) ns)) c W (by rw [asInts_length, flow_length]; exact h) (by omega) hL (asInts_fit (flow_lt _ ns)))
  rw [natsOf_asInts, asInts_length, flow_length] at HPk
  have HBt := Lib.hid (fun A c W hL => rmake_any A (fhigh B ns) c W (by have := fhigh_short (ns := ns) hB; omega) hL)
  have HL := Lib.hid hL
  have HR := Lib.hid hR
  have HX := Lib.hid hx
  have HFS := Lib.hid (fhs_all B ns)
  have HF0 := Lib.hid (fun h : ns.length = 0 => (show fhigh B ns = [] by rw [List.eq_nil_of_length_eq_zero h]; rfl))
  have HF1 := Lib.hid (fun (h : ns.length ≠ 0) i => (show fhs B ns i = fhighTo B ns i by unfold fhs; rw [if_neg h]))
  have HFL := Lib.hid (fun (h : ns.length ≠ 0) => (show (fhigh B ns).length = B / 2 ^ fw ns.length B + ns.length + 1 by rw [← fhs_all]; unfold fhs; rw [if_neg h, fhighTo_length]))
  unfold MadeFano
  have HFW := Lib.hid (show fwTo ns.length B 20 = fw ns.length B from rfl)
  have hpw1 : 1 ≤ 2 ^ fw ns.length B := Nat.one_le_two_pow
  have hpw2 : 2 ^ fw ns.length B ≤ 1048576 := Nat.pow_le_pow_right (n := 2) (j := 20) (by decide) hd
  have hpi := pow_int2 (fw ns.length B) (by omega)
  clear hL hR hx
  have HFZ := Lib.hid (fun h : ns.length = 0 => (show (fhigh B ns).length = 0 by rw [List.eq_nil_of_length_eq_zero h]; rfl))
  generalize (fhigh B ns).length = m0 at *
  generalize hnn : ns.length = n at *
  have HN := Lib.hid hnn
  clear hnn
  have hd0 : decide ((B : Int) < 0) = false := by simp
  have hd1 : decide (1048576 < (B : Int)) = false := by simp; omega
  have hd2 : decide (300 < (n : Int)) = false := by simp; omega
  go_enter Tryd.func22, Tryd.ntmps22
  go_wp2
  go_loop [32] (fun u => ∃ i : Nat, i ≤ n ∧ u = .int .i64 i) (fun u => n - (intOf u).toNat)
  case atStart => exact ⟨0, Nat.zero_le _, rfl⟩
  case round =>
    obtain ⟨i, hi, rfl⟩ := hrel
    by_cases hlt : i < n
    · obtain ⟨b, o, z, rfl, hb, hx, hc⟩ := HL.out.at_ (k := i) (by rw [asInts_length, HN.out]; exact hlt)
      rw [asInts_get] at hx
      obtain ⟨x, hx1, rfl⟩ := Option.map_eq_some_iff.1 hx
      have hxd : ns.getD i 0 = x := by rw [List.getD, hx1]; rfl
      have hxB := HR.out.le i (by rw [HN.out]; exact hlt)
      rw [hxd] at hxB
      have hz0 : decide ((x : Int) < 0) = false := by simp
      have hz1 : decide (B < x) = false := by simp; omega
      clear hx hx1
      cases i with
      | zero =>
        have hc' : w.cell? ⟨b, o, none⟩ = some (.int .i64 x) := hc
        clear hc hxd
        go_wp2
        go_round
        case rel => exact ⟨1, by omega, rfl⟩
        case measure => simp [intOf]; omega
      | succ j =>
        obtain ⟨b2, o2, z2, e2, hb2, hy, hc2⟩ := HL.out.at_ (k := j) (by rw [asInts_length, HN.out]; omega)
        simp only [Option.some.injEq, Addr.mk.injEq, and_true] at e2
        obtain ⟨rfl, rfl⟩ := e2
        rw [asInts_get] at hy
        obtain ⟨y, hy1, rfl⟩ := Option.map_eq_some_iff.1 hy
        have hyd : ns.getD j 0 = y := by rw [List.getD, hy1]; rfl
        have hup := HR.out.up j (by rw [HN.out]; exact hlt)
        rw [hxd, hyd] at hup
        have hz2 : decide (x < y) = false := by simp; omega
        clear hxd hy hy1 hyd
        go_wp2
        go_round
        case rel => exact ⟨j + 2, by omega, by go_num⟩
        case measure => simp [intOf]; omega
    · obtain rfl : i = n := by omega
      clear hi hlt
      go_wp2
      go_loop [8, 9] (fun f s => ∃ k : Nat, 1 ≤ k ∧ k ≤ 21 ∧ s = .int .i64 k ∧ f = .int .i64 (fwTo i B (k - 1) : Nat)) (fun _ s => 21 - (intOf s).toNat)
      case atStart => exact ⟨1, by omega, by omega, rfl, rfl⟩
      case round =>
        obtain ⟨k, hk1, hk2, rfl, rfl⟩ := hrel
        by_cases hk : k < 21
        · have HAt := Lib.hid (fwTo_at i B k hk1)
          have hpk := pow_int2 k (by omega)
          have hpb : 2 ^ k ≤ 1048576 := Nat.pow_le_pow_right (n := 2) (j := 20) (by decide) (by omega)
          generalize fwTo i B (k - 1) = f at *
          generalize 2 ^ k = pw at *
          have hmul : (i : Int) * (pw : Int) = ((i * pw : Nat) : Int) := by simp
          have hqb : i * pw ≤ 300 * 1048576 := Nat.mul_le_mul h hpb
          by_cases h0 : 0 < i
          · have hd0 : decide (0 < i) = true := by simpa using h0
            by_cases h1 : i * pw ≤ B
            · have HE := Lib.hid (HAt.out.trans (if_pos ⟨h0, h1⟩))
              generalize i * pw = q at *
              go_wp2
              go_round
              case rel => exact ⟨k + 1, by omega, by omega, by go_num, by rw [Nat.add_sub_cancel, HE.out]⟩
              case measure => simp [intOf]; omega
            · have HE := Lib.hid (HAt.out.trans (if_neg (fun hh => h1 hh.2)))
              generalize i * pw = q at *
              go_wp2
              go_round
              case rel => exact ⟨k + 1, by omega, by omega, by go_num, by rw [Nat.add_sub_cancel, HE.out]⟩
              case measure => simp [intOf]; omega
          · have HE := Lib.hid (HAt.out.trans (if_neg (fun hh => h0 hh.1)))
            have hd0 : decide (0 < i) = false := by simpa using h0
            clear hmul hqb
            go_wp2
            go_round
            case rel => exact ⟨k + 1, by omega, by omega, by go_num, by rw [Nat.add_sub_cancel, HE.out]⟩
            case measure => simp [intOf]; omega
        · obtain rfl : k = 21 := by omega
          rw [show 21 - 1 = 20 from rfl, HFW.out]
          generalize hdd : fw i B = d at *
          have HD := Lib.hid hdd
          clear hdd
          rw [show ((21 : Nat) : Int) = 21 from rfl]
          by_cases h0 : i = 0
          · subst h0
            obtain rfl : m0 = 0 := HFZ.out rfl
            go_wp2
            go_loopw [11, 92] (fun v s w' => ∃ j : Nat, j ≤ 0 ∧ s = .int .i64 j ∧ FrAt w w' (w.heap.size + 1) v j ((intVals (flow d ns)).take j) (fhs B ns j)) (fun _ s _ => 0 - (intOf s).toNat)
            case atStart =>
              refine ⟨0, Nat.le_refl _, rfl, (Blk.new w 28 [.int .i64 0, .int .i64 0, .int .i64 0, .slice none 0 0, .int .i64 0, .slice none 0 0]).alloc _, World.ownsRow_nil _ _ _ _, ?_, (bnew _ _).alloc (by simp) _⟩
              have := Blk.new (w.alloc (.cells #[.int .i64 0, .int .i64 0, .int .i64 0, .slice none 0 0, .int .i64 0, .slice none 0 0] 28)) 4 []
              unfold fhs
              rw [if_pos HN.out]
              simpa using this
            case round =>
              obtain ⟨j, hj, rfl, hat⟩ := hrel
              have HAT := Lib.hid hat
              have hc1 := bcell hat.bel
              have hs1 := hat.bel.size
              have hrow := hat.row
              have hgl := hat.high.lt
              clear hat
              by_cases hlt : j < 0
              · exact absurd hlt (Nat.not_lt_zero _)
              · obtain rfl : j = 0 := by omega
                rw [List.take_of_length_le (by rw [intVals_length, flow_length, HN.out]; exact Nat.le_refl _)] at HAT hrow
                have HFS2 := HFS.out
                rw [HFS2] at HAT
                clear HFS2
                obtain ⟨A1, c1, rfl, hle1, _, hl1, _, _⟩ := own_slice hrow
                have HLL1 := Lib.hid hl1
                have HLL3 := Lib.hid HAT.out.high.lies
                have HRES := Lib.hid HAT.out.res
                have HBL := Lib.hid HAT.out.bel
                clear hl1 hrow HAT
                go_wp2_with fail
                refine (HPk.out A1 c1 _ HLL1.out).mono ?_
                rintro e w2 ⟨A2, c2, rfl, hW2, hN2, hb2⟩
                have HW2 := Lib.hid hW2
                clear hW2
                go_wp2_with fail
                refine (HBt.out (some ⟨w.heap.size + 1, 0, none⟩) (0) _ (by exact (HLL3.out.on hb2).alloc _)).mono ?_
                rintro e w4 ⟨A4, c4, rfl, hW4, hN4, hb4⟩
                have HW4 := Lib.hid hW4
                clear hW4
                have hbx : Blk w4 w2.heap.size 24 [.int .i64 0, .int .i64 d, .slice A2 (packWords d (flow d ns)).length c2] := (Blk.new w2 24 [.int .i64 0, .int .i64 d, .slice A2 (packWords d (flow d ns)).length c2]).below hb4 (by simp)
                have hrs : Blk w4 w.heap.size 28 [.int .i64 0, .int .i64 0, .int .i64 0, .slice none 0 0, .int .i64 0, .slice none 0 0] := HRES.out.below (chain (chain hb2 (bnew _ _)) hb4) HRES.out.lt
                have hx0 : w4.cell? ⟨w2.heap.size, 0, none⟩ = some (.int .i64 0) := hbx.cell 0
                have hx1 : w4.cell? ⟨w2.heap.size, 1, none⟩ = some (.int .i64 d) := hbx.cell 1
                have hx2 : w4.cell? ⟨w2.heap.size, 2, none⟩ = some (.slice A2 (packWords d (flow d ns)).length c2) := hbx.cell 2
                have hr0 : w4.cell? ⟨w.heap.size, 0, none⟩ = some (.int .i64 0) := hrs.cell 0
                have hr1 : w4.cell? ⟨w.heap.size, 1, none⟩ = some (.int .i64 0) := hrs.cell 1
                have hr2 : w4.cell? ⟨w.heap.size, 2, none⟩ = some (.int .i64 0) := hrs.cell 2
                have hr3 : w4.cell? ⟨w.heap.size, 3, none⟩ = some (.slice none 0 0) := hrs.cell 3
                have hr4 : w4.cell? ⟨w.heap.size, 4, none⟩ = some (.int .i64 0) := hrs.cell 4
                have hr5 : w4.cell? ⟨w.heap.size, 5, none⟩ = some (.slice none 0 0) := hrs.cell 5
                have hf0 := hrs.frozen 0
                have hf1 := hrs.frozen 1
                have hf2 := hrs.frozen 2
                have hf3 := hrs.frozen 3
                have hf4 := hrs.frozen 4
                have hf5 := hrs.frozen 5
                have hs0 := hbx.lt
                have hs2 := hrs.lt
                have hlt1 := HRES.out.lt
                clear hc1
                generalize packWords d (flow d ns) = lw at *
                generalize rowOf (fhigh B ns) = hw at *
                go_wp2
                have hbw : Below w.heap.size w w4 := chain (chain (chain HBL.out hb2) (bnew _ _)) hb4
                have hlt3 : w.heap.size < w2.heap.size := by have h2 := hb2.size; omega
                have hN4' : New w2.heap.size A4 := hN4.mono (by simp)
                refine bodyPost_ret (v := .tuple #[.agg #[.int .i64 B, .int .i64 0, .int .i64 d, .slice A2 lw.length c2, .int .i64 0, .slice A4 hw.length c4], .int .i64 0]) (by simp [results, Tryd.results22, go_sem, hr0, hr1, hr2, hr3, hr4, hr5, hs2]) rfl ⟨A2, c2, A4, c4, rfl, ?_, ?_, hN2.mono (by omega), hN4'.mono (by omega), ?_⟩
                · exact ((((((((HW2.out.alloc _).on hb4).stored hN2 hlt1 _).stored hN2 hlt1 _).stored hN2 hlt1 _).stored hN2 hlt1 _).stored hN2 hlt1 _).stored hN2 hlt1 _).alloc _
                · exact ((((((HW4.out.stored hN4' hlt3 _).stored hN4' hlt3 _).stored hN4' hlt3 _).stored hN4' hlt3 _).stored hN4' hlt3 _).stored hN4' hlt3 _).alloc _
                · have h6 := (((((hbw.setCell (p := ⟨w.heap.size, 0, none⟩) (Nat.le_refl _) (.int .i64 B)).setCell (p := ⟨w.heap.size, 1, none⟩) (Nat.le_refl _) (.int .i64 0)).setCell (p := ⟨w.heap.size, 2, none⟩) (Nat.le_refl _) (.int .i64 d)).setCell (p := ⟨w.heap.size, 3, none⟩) (Nat.le_refl _) (.slice A2 lw.length c2)).setCell (p := ⟨w.heap.size, 4, none⟩) (Nat.le_refl _) (.int .i64 0)).setCell (p := ⟨w.heap.size, 5, none⟩) (Nat.le_refl _) (.slice A4 hw.length c4)
                  exact h6.alloc h6.size _
          · have hp0 : decide (0 < i) = true := by simp; omega
            have HZ := Lib.hid (show fhs B ns 0 = List.replicate (B / 2 ^ d + i + 1) false by rw [HF1.out h0 0, fhighTo_zero, HN.out, HD.out])
            have HLm := Lib.hid (show m0 = B / 2 ^ d + i + 1 by rw [HFL.out h0])
            generalize hpw : 2 ^ d = pw at *
            have HPW := Lib.hid hpw
            clear hpw
            have hdiv : ((B : Int) / (pw : Int)) = ((B / pw : Nat) : Int) := by simp
            have hmk := make_row (P := Tryd.prog) 45 4 (.bool false) 1 Tryd.underlying45 fbool_info rfl (B / pw + i + 1) (by have := Nat.div_le_self B pw; omega) (by have := Nat.div_le_self B pw; omega)
            have hqb : B / pw ≤ 1048576 := Nat.le_trans (Nat.div_le_self _ _) hB
            generalize hqq : B / pw = q at *
            have HQ := Lib.hid hqq
            clear hqq
            generalize hm : q + i + 1 = m at *
            have HM := Lib.hid hm
            clear hm
            have hsum : (q : Int) + (i : Int) + 1 = (m : Int) := by rw [← HM.out]; simp
            have hmb : m ≤ 1049000 := by rw [← HM.out]; omega
            obtain rfl : m0 = m := HLm.out
            go_wp2
            go_loopw [11, 92] (fun v s w' => ∃ j : Nat, j ≤ i ∧ s = .int .i64 j ∧ FrAt w w' (w.heap.size + 2) v j ((intVals (flow d ns)).take j) (fhs B ns j)) (fun _ s _ => i - (intOf s).toNat)
            case atStart =>
              refine ⟨0, Nat.zero_le _, rfl, ((Blk.new w 28 [.int .i64 0, .int .i64 0, .int .i64 0, .slice none 0 0, .int .i64 0, .slice none 0 0]).alloc _).alloc _, World.ownsRow_nil _ _ _ _, ?_, ((bnew _ _).alloc (by simp) _).alloc (by simp; omega) _⟩
              have := zeros_blk ((w.alloc (.cells #[.int .i64 0, .int .i64 0, .int .i64 0, .slice none 0 0, .int .i64 0, .slice none 0 0] 28)).alloc (.cells #[] 4)) (.bool false) m0 4
              rw [HZ.out]
              simpa using this
            case round =>
              obtain ⟨j, hj, rfl, hat⟩ := hrel
              have HAT := Lib.hid hat
              have hc1 := bcell hat.bel
              have hs1 := hat.bel.size
              have hrow := hat.row
              have hgl := hat.high.lt
              clear hat
              by_cases hlt : j < i
              · obtain ⟨b, o, z, rfl, hb, hx, hc⟩ := HL.out.at_ (k := j) (by rw [asInts_length, HN.out]; exact hlt)
                rw [asInts_get] at hx
                obtain ⟨x, hx1, rfl⟩ := Option.map_eq_some_iff.1 hx
                have hxb := HX.out x (List.mem_of_getElem? hx1)
                have HX1 := Lib.hid (show (intVals (flow d ns)).take (j + 1) = (intVals (flow d ns)).take j ++ [.int .i64 (x % pw : Nat)] by rw [List.take_add_one, intVals_get _ j _ (flow_get d ns j x hx1), HPW.out]; rfl)
                have hfp : fpos d ns j = x / pw + j := by unfold fpos; rw [List.getD, hx1, HPW.out]; rfl
                have hph := fpos_hi HR.out d (i := j) (by rw [HN.out]; exact hlt)
                rw [hfp, HPW.out, HQ.out, HN.out, HM.out] at hph
                have HX2 := Lib.hid (show fhs B ns (j + 1) = (fhs B ns j).set (x / pw + j) true by rw [HF1.out h0 _, HF1.out h0 _, fhighTo_step, HN.out, HD.out, hfp])
                have HO := Lib.hid (show ∃ t : Bool, (fhs B ns j)[x / pw + j]? = some t by
                  rw [HF1.out h0 _]
                  exact fhighTo_old B ns j _ (by rw [HN.out, HD.out, HPW.out, HQ.out, HM.out]; exact hph))
                have hmod : ((x : Int) % (pw : Int)) = ((x % pw : Nat) : Int) := by simp
                have hdx : ((x : Int) / (pw : Int)) = ((x / pw : Nat) : Int) := by simp
                have hyb : x / pw ≤ 1048576 := Nat.le_trans (Nat.div_le_self _ _) hxb
                have hy2 : x % pw ≤ 1048576 := Nat.le_trans (Nat.mod_le _ _) hxb
                clear hfp hx hx1
                generalize x / pw = y at *
                generalize x % pw = y2 at *
                go_wp2_with (at_builtin; go_loud (refine append_one _ rfl (.tmp 97) (.tmp 101) 29 rfl (w.heap.size + 2 + 1) 3 (.int .i64 0) 8 Tryd.underlying29 fint_info rfl u11 j _ rfl (hrow.alloc _) wr.heap.size 1 (.int .i64 y2) rfl (by simp) rfl (by simp only [maxLen]; omega) (by omega) (by simp; omega) ?_))
                intro v1 w3 hown1 hg1
                have hat2 := HAT.out.added (by omega) hg1 hown1
                obtain ⟨t, ht⟩ := HO.out
                have hcell : w3.cell? ⟨w.heap.size + 2, y + j, none⟩ = some (.bool t) := by rw [hat2.high.cell]; exact boolVals_get _ _ _ ht
                have hfz := hat2.high.frozen (y + j)
                have HAT2 := Lib.hid hat2
                clear hat2 ht hown1 hg1 hrow hc1
                go_wp2
                go_roundw
                case rel => exact ⟨j + 1, by omega, by go_num, by rw [HX1.out, HX2.out]; exact HAT2.out.stored (by omega) _⟩
                case measure => simp [intOf]; omega
              · obtain rfl : j = i := by omega
                rw [List.take_of_length_le (by rw [intVals_length, flow_length, HN.out]; exact Nat.le_refl _)] at HAT hrow
                have HFS2 := HFS.out
                rw [HFS2] at HAT
                clear HFS2
                obtain ⟨A1, c1, rfl, hle1, _, hl1, _, _⟩ := own_slice hrow
                have HLL1 := Lib.hid hl1
                have HLL3 := Lib.hid HAT.out.high.lies
                have HRES := Lib.hid HAT.out.res
                have HBL := Lib.hid HAT.out.bel
                clear hl1 hrow HAT
                go_wp2_with fail
                refine (HPk.out A1 c1 _ HLL1.out).mono ?_
                rintro e w2 ⟨A2, c2, rfl, hW2, hN2, hb2⟩
                have HW2 := Lib.hid hW2
                clear hW2
                go_wp2_with fail
                refine (HBt.out (some ⟨w.heap.size + 2, 0, none⟩) (m0) _ (by exact (HLL3.out.on hb2).alloc _)).mono ?_
                rintro e w4 ⟨A4, c4, rfl, hW4, hN4, hb4⟩
                have HW4 := Lib.hid hW4
                clear hW4
                have hbx : Blk w4 w2.heap.size 24 [.int .i64 j, .int .i64 d, .slice A2 (packWords d (flow d ns)).length c2] := (Blk.new w2 24 [.int .i64 j, .int .i64 d, .slice A2 (packWords d (flow d ns)).length c2]).below hb4 (by simp)
                have hrs : Blk w4 w.heap.size 28 [.int .i64 0, .int .i64 0, .int .i64 0, .slice none 0 0, .int .i64 0, .slice none 0 0] := HRES.out.below (chain (chain hb2 (bnew _ _)) hb4) HRES.out.lt
                have hx0 : w4.cell? ⟨w2.heap.size, 0, none⟩ = some (.int .i64 j) := hbx.cell 0
                have hx1 : w4.cell? ⟨w2.heap.size, 1, none⟩ = some (.int .i64 d) := hbx.cell 1
                have hx2 : w4.cell? ⟨w2.heap.size, 2, none⟩ = some (.slice A2 (packWords d (flow d ns)).length c2) := hbx.cell 2
                have hr0 : w4.cell? ⟨w.heap.size, 0, none⟩ = some (.int .i64 0) := hrs.cell 0
                have hr1 : w4.cell? ⟨w.heap.size, 1, none⟩ = some (.int .i64 0) := hrs.cell 1
                have hr2 : w4.cell? ⟨w.heap.size, 2, none⟩ = some (.int .i64 0) := hrs.cell 2
                have hr3 : w4.cell? ⟨w.heap.size, 3, none⟩ = some (.slice none 0 0) := hrs.cell 3
                have hr4 : w4.cell? ⟨w.heap.size, 4, none⟩ = some (.int .i64 0) := hrs.cell 4
                have hr5 : w4.cell? ⟨w.heap.size, 5, none⟩ = some (.slice none 0 0) := hrs.cell 5
                have hf0 := hrs.frozen 0
                have hf1 := hrs.frozen 1
                have hf2 := hrs.frozen 2
                have hf3 := hrs.frozen 3
                have hf4 := hrs.frozen 4
                have hf5 := hrs.frozen 5
                have hs0 := hbx.lt
                have hs2 := hrs.lt
                have hlt1 := HRES.out.lt
                clear hc1
                generalize packWords d (flow d ns) = lw at *
                generalize rowOf (fhigh B ns) = hw at *
                go_wp2
                have hbw : Below w.heap.size w w4 := chain (chain (chain HBL.out hb2) (bnew _ _)) hb4
                have hlt3 : w.heap.size < w2.heap.size := by have h2 := hb2.size; omega
                have hN4' : New w2.heap.size A4 := hN4.mono (by simp)
                refine bodyPost_ret (v := .tuple #[.agg #[.int .i64 B, .int .i64 j, .int .i64 d, .slice A2 lw.length c2, .int .i64 m0, .slice A4 hw.length c4], .int .i64 0]) (by simp [results, Tryd.results22, go_sem, hr0, hr1, hr2, hr3, hr4, hr5, hs2]) rfl ⟨A2, c2, A4, c4, rfl, ?_, ?_, hN2.mono (by omega), hN4'.mono (by omega), ?_⟩
                · exact ((((((((HW2.out.alloc _).on hb4).stored hN2 hlt1 _).stored hN2 hlt1 _).stored hN2 hlt1 _).stored hN2 hlt1 _).stored hN2 hlt1 _).stored hN2 hlt1 _).alloc _
                · exact ((((((HW4.out.stored hN4' hlt3 _).stored hN4' hlt3 _).stored hN4' hlt3 _).stored hN4' hlt3 _).stored hN4' hlt3 _).stored hN4' hlt3 _).alloc _
                · have h6 := (((((hbw.setCell (p := ⟨w.heap.size, 0, none⟩) (Nat.le_refl _) (.int .i64 B)).setCell (p := ⟨w.heap.size, 1, none⟩) (Nat.le_refl _) (.int .i64 j)).setCell (p := ⟨w.heap.size, 2, none⟩) (Nat.le_refl _) (.int .i64 d)).setCell (p := ⟨w.heap.size, 3, none⟩) (Nat.le_refl _) (.slice A2 lw.length c2)).setCell (p := ⟨w.heap.size, 4, none⟩) (Nat.le_refl _) (.int .i64 m0)).setCell (p := ⟨w.heap.size, 5, none⟩) (Nat.le_refl _) (.slice A4 hw.length c4)
                  exact h6.alloc h6.size _
end Go.Proofs.YtmlekhgjnhnjlaaDoor
