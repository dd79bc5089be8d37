/-
  What grid.key, the two ways to take a point's coordinates and grid.makeOrder return: contracts, walked over the translated text. What grid's order.below and order.between return: contracts, walked over the translated text. No condition but what each theorem names.
-/
import Derived.Test.YtpkclmfadlkbeaaJ09
import Derived.Test.YtpkclmfadlkbeaaJ17
import Derived.IntWalk
import Derived.Deep.RegionHeld3
import Derived.Handy
import Derived.BigQuiet
import Derived.Deep.QuietTactic
namespace Go.Proofs.Ytpkclmfadlkbeaa
open Go.RowKit Go.Sort

set_option maxHeartbeats 1000000 in
/-- grid.key, where nothing wraps. -/
theorem key_any (a b : Int) (i : Int) (w : World) (ha : -1048576 ≤ a ∧ a ≤ 1048577) (hb : InC b) (hi : 0 ≤ i ∧ i < 150) :
    Calls Try.prog 75 #[.int .i64 a, .int .i64 b, .int .i64 i] w fun e w' => e = .returned (.int .i64 (keyI a b i)) ∧ w = w' := by
  unfold InC at hb
  obtain ⟨x1, h1⟩ : ∃ x, a + 1048576 = x := ⟨_, rfl⟩
  obtain ⟨x2, h2⟩ : ∃ x, x1 * 2097153 = x := ⟨_, rfl⟩
  obtain ⟨x3, h3⟩ : ∃ x, x2 + b = x := ⟨_, rfl⟩
  obtain ⟨x4, h4⟩ : ∃ x, x3 + 1048576 = x := ⟨_, rfl⟩
  obtain ⟨x5, h5⟩ : ∃ x, x4 * 150 = x := ⟨_, rfl⟩
  obtain ⟨x6, h6⟩ : ∃ x, x5 + i = x := ⟨_, rfl⟩
  have hk : keyI a b i = x6 := by unfold keyI; omega
  have w1 : IntKind.i64.wrap (a + 1048576) = x1 := by rw [IntKind.wrap_i64]; omega
  have w2 : IntKind.i64.wrap (x1 * 2097153) = x2 := by rw [IntKind.wrap_i64]; omega
  have w3 : IntKind.i64.wrap (x2 + b) = x3 := by rw [IntKind.wrap_i64]; omega
  have w4 : IntKind.i64.wrap (x3 + 1048576) = x4 := by rw [IntKind.wrap_i64]; omega
  have w5 : IntKind.i64.wrap (x4 * 150) = x5 := by rw [IntKind.wrap_i64]; omega
  have w6 : IntKind.i64.wrap (x5 + i) = x6 := by rw [IntKind.wrap_i64]; omega
  rw [hk]
  clear h1 h2 h3 h4 h5 h6 hk ha hb hi
  go_enter Try.func75, Try.ntmps75
  go_wp2
  go_ret
  exact ⟨rfl, rfl⟩

/-- What a way to take a point's coordinates does. -/
def Sides (F : Nat) (f g : Pt3 → Int) : Prop := ∀ p W, Calls Try.prog F #[p.val] W fun e w' => e = .returned (.tuple #[.int .i64 (f p), .int .i64 (g p)]) ∧ Below W.heap.size W w'
set_option maxHeartbeats 1000000 in
theorem sides_x : Sides 64 Pt3.x Pt3.y := fun ⟨x, y, z⟩ w => by
  unfold Pt3.val
  have HB := Lib.hid (bnew w (.cells #[.int .i64 x, .int .i64 y, .int .i64 z] 30))
  go_enter Try.func64, Try.ntmps64
  go_wp2
  go_quiet (fail)
  go_wp2
  go_ret2
  exact ⟨rfl, bdN HB.out _⟩
set_option maxHeartbeats 1000000 in
theorem sides_y : Sides 65 Pt3.y Pt3.x := fun ⟨x, y, z⟩ w => by
  unfold Pt3.val
  have HB := Lib.hid (bnew w (.cells #[.int .i64 x, .int .i64 y, .int .i64 z] 30))
  go_enter Try.func65, Try.ntmps65
  go_wp2
  go_quiet (fail)
  go_wp2
  go_ret2
  exact ⟨rfl, bdN HB.out _⟩

/-! ### makeOrder -/
theorem rks_keys {ps : List Pt3} {f g : Pt3 → Int} : (rks (keyL ps f g)).map (Value.int .i64) = natC ((List.range ps.length).map (plc ps f g)) := by
  unfold rks natC keyL plc
  rw [List.map_map, List.map_map, List.map_map]
  rfl
/-- The order while it is laid: of the first i points. -/
def laidO (ps : List Pt3) (f g : Pt3 → Int) (i : Nat) : List Nat := (ordL ps f g).map fun j => if j < i then j else 0
theorem laidO_zero {ps : List Pt3} {f g : Pt3 → Int} (hV : InV ps f g) : laidO ps f g 0 = List.replicate ps.length 0 := by
  unfold laidO
  rw [List.eq_replicate_iff]
  refine ⟨by rw [List.length_map, ordL_length hV], fun b hb => ?_⟩
  obtain ⟨x, _, rfl⟩ := List.mem_map.1 hb
  simp
theorem laidO_all {ps : List Pt3} {f g : Pt3 → Int} (hV : InV ps f g) : laidO ps f g ps.length = ordL ps f g := by
  unfold laidO
  conv => rhs; rw [← List.map_id (ordL ps f g)]
  exact List.map_congr_left fun x hx => if_pos ((ordL_mem hV).1 hx)
theorem laidO_length {ps : List Pt3} {f g : Pt3 → Int} (hV : InV ps f g) (i : Nat) : (laidO ps f g i).length = ps.length := by unfold laidO; rw [List.length_map, ordL_length hV]
theorem laidO_step {ps : List Pt3} {f g : Pt3 → Int} (hV : InV ps f g) {i : Nat} (hi : i < ps.length) : (laidO ps f g i).set (plc ps f g i) i = laidO ps f g (i + 1) := by
  have hat := ordL_at hV hi
  have hlt := plc_lt hV hi
  apply List.ext_getElem?
  intro q
  by_cases e : plc ps f g i = q
  · subst e
    rw [List.getElem?_set_self (by rw [laidO_length hV]; exact hlt)]
    unfold laidO
    rw [List.getElem?_map, hat]
    simp
  · rw [List.getElem?_set_ne e]
    unfold laidO
    rw [List.getElem?_map, List.getElem?_map]
    cases hq : (ordL ps f g)[q]? with
    | none => rfl
    | some j =>
      have hne : j ≠ i := fun e2 => by subst e2; exact e (plc_at hV hq)
      have : (j < i) = (j < i + 1) := by apply propext; omega
      simp [this]

/-- The memory of an order. -/
structure OrdM (w : World) (B : Nat) (ps : List Pt3) (f g : Pt3 → Int) (A1 A2 A3 : Option Addr) : Prop where
  keys : Lies w B A1 ((dst (keyL ps f g)).map (.int .i64))
  pts : Lies w B A2 (natC (ordL ps f g))
  plcs : Lies w B A3 (natC ((List.range ps.length).map (plc ps f g)))
theorem OrdM.on {w w' : World} {ps : List Pt3} {f g : Pt3 → Int} {A1 A2 A3 : Option Addr} (h : OrdM w w.heap.size ps f g A1 A2 A3) (hb : Below w.heap.size w w') : OrdM w' w'.heap.size ps f g A1 A2 A3 := ⟨h.keys.on hb, h.pts.on hb, h.plcs.on hb⟩
theorem OrdM.below {w w' : World} {B : Nat} {ps : List Pt3} {f g : Pt3 → Int} {A1 A2 A3 : Option Addr} (h : OrdM w B ps f g A1 A2 A3) (hb : Below B w w') : OrdM w' B ps f g A1 A2 A3 := ⟨h.keys.below hb, h.pts.below hb, h.plcs.below hb⟩
theorem OrdM.alloc {w : World} {ps : List Pt3} {f g : Pt3 → Int} {A1 A2 A3 : Option Addr} (h : OrdM w w.heap.size ps f g A1 A2 A3) (o : Obj) : OrdM (w.alloc o) (w.alloc o).heap.size ps f g A1 A2 A3 := ⟨h.keys.alloc o, h.pts.alloc o, h.plcs.alloc o⟩
def ordV (n : Nat) (A1 A2 A3 : Option Addr) (c1 c2 c3 : Nat) : Value := .agg #[.slice A1 n c1, .slice A2 n c2, .slice A3 n c3]
/-- An order in new memory. -/
def GivesOrd (w : World) (ps : List Pt3) (f g : Pt3 → Int) (e : Ending) (w' : World) : Prop := ∃ A1 A2 A3 c1 c2 c3, e = .returned (.agg #[.slice A1 ps.length c1, .slice A2 ps.length c2, .slice A3 ps.length c3]) ∧ OrdM w' w'.heap.size ps f g A1 A2 A3 ∧ (ps.length ≤ c2 ∧ (A2 = none → c2 = 0)) ∧ New w.heap.size A1 ∧ New w.heap.size A2 ∧ New w.heap.size A3 ∧ Below w.heap.size w w'

theorem oint_info : (Try.prog.info? 3).map (fun i => (i.zero, i.size, i.bytes)) = some (some (.int .i64 0), 1, 8) := by kernel_rfl

theorem lies_set3 {w : World} {B q : Nat} {A : Option Addr} {xs : List Value} {a b c : Value} (h : Lies w B A xs) (hB : B ≤ w.heap.size) (hn : New (q + 1) A) :
    Lies (((w.setCell ⟨q, 0, none⟩ a).setCell ⟨q, 1, none⟩ b).setCell ⟨q, 2, none⟩ c) (((w.setCell ⟨q, 0, none⟩ a).setCell ⟨q, 1, none⟩ b).setCell ⟨q, 2, none⟩ c).heap.size A xs :=
  (((h.setCell hn (p := ⟨q, 0, none⟩) (by simp) a).setCell hn (p := ⟨q, 1, none⟩) (by simp) b).setCell hn (p := ⟨q, 2, none⟩) (by simp) c).wide (by simpa using hB)

set_option maxHeartbeats 4000000 in
/-- grid.makeOrder. -/
theorem mkorder_any (F : Nat) (f g : Pt3 → Int) (eF : ∀ args w, (callFunc F args).run Try.prog w = .ok (.enter F args) w) (hF : Sides F f g) (A : Option Addr) (ps : List Pt3) (c : Nat) (w : World) (hV : InV ps f g) (hL : Lies w w.heap.size A (ptC ps)) :
    Calls Try.prog 63 #[.slice A ps.length c, .func (.func F) #[] #[]] w (GivesOrd w ps f g) := by
  have HL := Lib.hid hL
  have HV := Lib.hid hV
  have HF := Lib.hid hF
  have hn := hV.few
  have HKy := Lib.hid (fun (i : Nat) (p : Pt3) (hp : ps[i]? = some p) W => by
    have hi := (List.getElem?_eq_some_iff.1 hp).1
    have h1 := hV.fst i hi
    have h2 := hV.snd i hi
    rw [ptAt_of hp] at h1 h2
    unfold InC at h1
    exact key_any (f p) (g p) i W ⟨h1.1, by omega⟩ h2 ⟨by omega, by omega⟩)
  have HGet := Lib.hid (fun (i : Nat) (p : Pt3) (hp : ps[i]? = some p) => show ((keyL ps f g).map (Value.int .i64))[i]? = some (Value.int .i64 (keyI (f p) (g p) i)) by
    rw [List.getElem?_map, keyL_get (List.getElem?_eq_some_iff.1 hp).1]
    unfold kyI
    rw [ptAt_of hp]
    rfl)
  have HXl := Lib.hid (show ((keyL ps f g).map (Value.int .i64)).length = ps.length by rw [List.length_map, keyL_length])
  have HRk := Lib.hid (fun A c W hW => make_ranks A (keyL ps f g) c W (by rw [keyL_length]; omega) hW)
  unfold GivesRk at HRk
  rw [rks_keys, rks_length, keyL_length, dstK_length hV] at HRk
  have HPl := Lib.hid (fun i (h : i < ps.length) => show (natC ((List.range ps.length).map (plc ps f g)))[i]? = some (.int .i64 (plc ps f g i : Nat)) from natC_at _ _ _ (by rw [List.getElem?_map, List.getElem?_range h]; rfl))
  have HPb := Lib.hid (fun i (h : i < ps.length) => plc_lt hV h)
  have HSt := Lib.hid (fun i (h : i < ps.length) => laidO_step hV h)
  have H0 := Lib.hid (laidO_zero hV)
  have HAl := Lib.hid (laidO_all hV)
  have HOl := Lib.hid (fun i => laidO_length hV i)
  have hmk := make_row (P := Try.prog) 31 3 (.int .i64 0) 8 Try.underlying31 oint_info rfl ps.length (by omega) (by omega)
  unfold GivesOrd
  obtain ⟨n, hnn⟩ : ∃ n, ps.length = n := ⟨_, rfl⟩
  have HN := Lib.hid hnn
  rw [hnn] at hn hmk HXl HRk HPb H0 HAl HOl ⊢
  generalize hxs : (keyL ps f g).map (Value.int .i64) = xs at *
  clear hnn hL hV hF hxs
  go_enter Try.func63, Try.ntmps63
  go_wp2_with fail
  have hcell := ((Blk.new w 78 [.slice none 0 0, .slice none 0 0, .slice none 0 0]).alloc (.cells (zeros (.int .i64 0) n) 3))
  have hkey := zeros_blk (w.alloc (.cells #[.slice none 0 0, .slice none 0 0, .slice none 0 0] 78)) (.int .i64 0) n 3
  have hb1 := chain (bnew w (.cells #[.slice none 0 0, .slice none 0 0, .slice none 0 0] 78)) (bnew _ (.cells (zeros (.int .i64 0) n) 3))
  rw [World.size_alloc] at hkey
  generalize (w.alloc (.cells #[.slice none 0 0, .slice none 0 0, .slice none 0 0] 78)).alloc (.cells (zeros (.int .i64 0) n) 3) = w1 at *
  have HCell := Lib.hid hcell
  have HKey := Lib.hid hkey
  have HB1 := Lib.hid hb1
  have HLw := Lib.hid (HL.out.below hb1)
  clear hcell hkey hb1
  generalize hg1 : w.heap.size + 1 = g1 at *
  have HG1 := Lib.hid hg1
  clear hg1
  go_loopw [21] (fun u w' => ∃ i : Nat, i ≤ n ∧ u = .int .i64 i ∧ Blk w' g1 3 (fillR xs (.int .i64 0) i) ∧ Below g1 w1 w') (fun u _ => n - (intOf u).toNat)
  case atStart => exact ⟨0, Nat.zero_le _, rfl, by rw [fillR_zero, HXl.out]; exact HKey.out, Below.refl _ _⟩
  case round =>
    obtain ⟨i, hi, rfl, hbk, hbl⟩ := hrel
    have HBk := Lib.hid hbk
    have HB2 := Lib.hid hbl
    by_cases hlt : i < n
    · obtain ⟨p, hp⟩ : ∃ p, ps[i]? = some p := ⟨_, List.getElem?_eq_getElem (by rw [HN.out]; exact hlt)⟩
      have hLr := HLw.out.keep fun q hq => hbl.cell (p := q) (by have := HG1.out; omega)
      obtain ⟨b, o, rfl, hb, hcx, hcy, hcw⟩ := pts_at hLr hp
      have hsz := hbk.lt
      have HKp := Lib.hid (fun W => HKy.out i p hp W)
      have HFp := Lib.hid (fun W => HF.out p W)
      unfold Pt3.val at HFp
      have hil : (i : Int) < (n : Int) := by omega
      have HSx := Lib.hid (fillR_step xs (.int .i64 0) i _ (HGet.out i p hp))
      have HSa := Lib.hid (fillR_at xs (.int .i64 0) i (by rw [HXl.out]; exact hlt))
      have HBA := Lib.hid (hbl.alloc (Nat.le_of_lt hsz) (.cells #[.int .i64 p.x, .int .i64 p.y, .int .i64 p.w] 30))
      have HKA := Lib.hid (hbk.alloc (.cells #[.int .i64 p.x, .int .i64 p.y, .int .i64 p.w] 30))
      generalize keyI (f p) (g p) (i : Int) = kk at *
      generalize f p = fp at *
      generalize g p = gp at *
      clear hbk hbl hp hLr
      go_wp2_with fail
      refine (HFp.out _).mono ?_
      rintro e w2 ⟨rfl, hb2⟩
      have HB3 := Lib.hid (HBA.out.trans (hb2.mono (by simp; omega)))
      have HK3 := Lib.hid (HKA.out.below hb2 (by simp; omega))
      clear hb2
      go_wp2_with fail
      refine (HKp.out _).mono ?_
      rintro e w3 ⟨rfl, rfl⟩
      have hcx := HK3.out.cell i
      rw [HSa.out] at hcx
      have hfz := HK3.out.frozen i
      have HSt1 := Lib.hid (HK3.out.put i (.int .i64 kk))
      rw [HSx.out] at HSt1
      go_wp2_with fail
      go_roundw
      case rel => exact ⟨i + 1, by omega, by go_num, HSt1.out, HB3.out.setCell (Nat.le_refl _) _⟩
      case measure => simp [intOf]; omega
    · obtain rfl : n = i := by omega
      have hful : fillR xs (.int .i64 0) n = xs := by rw [← HXl.out]; exact fillR_all _ _
      rw [hful] at hbk
      have hcell2 := HCell.out.below hbl (by have := HG1.out; omega)
      have HBF := Lib.hid (HB1.out.trans (hbl.mono (by have := HG1.out; omega)))
      have HRw := Lib.hid (HRk.out (some ⟨g1, 0, none⟩) n wr hbk.lies)
      have HCell2 := Lib.hid hcell2
      clear hbk hbl hcell2 HBk HB2
      go_wp2_with fail
      refine HRw.out.mono ?_
      rintro e w2 ⟨A1, c1, A3, c3, rfl, hl1, hn1, hw1, hl3, hn3, hw3, hb2⟩
      have HO := Lib.hid (show Lies w2 w2.heap.size A1 _ ∧ New wr.heap.size A1 ∧ Lies w2 w2.heap.size A3 _ ∧ New wr.heap.size A3 from ⟨hl1, hw1, hl3, hw3⟩)
      have HC2 := Lib.hid (HCell2.out.below hb2 HCell2.out.lt)
      have HB4 := Lib.hid (HBF.out.trans (hb2.mono HBF.out.size))
      have hz2 := hb2.size
      clear hl1 hn1 hw1 hl3 hn3 hw3 hb2
      go_wp2_with fail
      have hpt := zeros_blk w2 (.int .i64 0) n 3
      have HB5 := Lib.hid (HB4.out.alloc HB4.out.size (.cells (zeros (.int .i64 0) n) 3))
      have HC5 := Lib.hid (HC2.out.alloc (.cells (zeros (.int .i64 0) n) 3))
      have HL5 := Lib.hid (show Lies (w2.alloc (.cells (zeros (.int .i64 0) n) 3)) w2.heap.size A1 _ ∧ Lies (w2.alloc (.cells (zeros (.int .i64 0) n) 3)) w2.heap.size A3 _ from ⟨HO.out.1.below (bnew w2 _), HO.out.2.2.1.below (bnew w2 _)⟩)
      have hz0 := HC2.out.lt
      generalize w2.alloc (.cells (zeros (.int .i64 0) n) 3) = w3 at *
      have HPt := Lib.hid hpt
      have HNw := Lib.hid (show w.heap.size ≤ wr.heap.size ∧ w.heap.size ≤ w2.heap.size from ⟨HBF.out.size, by have := HBF.out.size; omega⟩)
      clear hpt hz2
      generalize hg2 : w2.heap.size = g2 at *
      clear hg2
      go_loopw [51] (fun u w' => ∃ i : Nat, i ≤ n ∧ u = .int .i64 i ∧ Blk w' g2 3 (natC (laidO ps f g i)) ∧ Below g2 w3 w') (fun u _ => n - (intOf u).toNat)
      case atStart => exact ⟨0, Nat.zero_le _, rfl, by rw [H0.out, natC_replicate]; exact HPt.out, Below.refl _ _⟩
      case round =>
        obtain ⟨i, hi, rfl, hbk, hbl⟩ := hrel
        have HBk := Lib.hid hbk
        have HB6 := Lib.hid hbl
        by_cases hlt : i < n
        · obtain ⟨b, o, x, rfl, hb, hx, hc⟩ := Lies.at_ (f := fun x : Nat => Value.int .i64 (x : Int)) (l := (List.range n).map (plc ps f g)) (HL5.out.2.below hbl) (k := i) (by simp; exact hlt)
          obtain rfl : plc ps f g i = x := by
            rw [List.getElem?_map, List.getElem?_range hlt] at hx
            exact Option.some.inj hx
          have hpl := HPb.out i hlt
          have HSt1 := Lib.hid (HSt.out i (by rw [HN.out]; exact hlt))
          have hll := HOl.out i
          obtain ⟨v, hv⟩ : ∃ v, (natC (laidO ps f g i))[plc ps f g i]? = some v := ⟨_, List.getElem?_eq_getElem (by rw [natC_length, hll]; exact hpl)⟩
          have hcx := hbk.cell (plc ps f g i)
          rw [hv] at hcx
          have hfz := hbk.frozen (plc ps f g i)
          have HPu := Lib.hid (hbk.put (plc ps f g i) (.int .i64 (i : Nat)))
          rw [natC_set, HSt1.out] at HPu
          have hil : (i : Int) < (n : Int) := by omega
          clear hbk hbl hx hv hll
          generalize plc ps f g i = q at *
          go_wp2_with fail
          go_roundw
          case rel => exact ⟨i + 1, by omega, by go_num, HPu.out, HB6.out.setCell (Nat.le_refl _) _⟩
          case measure => simp [intOf]; omega
        · obtain rfl : n = i := by omega
          rw [HAl.out] at hbk
          have HBl := Lib.hid hbk
          have hc7 := HC5.out.below hbl hz0
          have c0 := hc7.cell 0
          have c1' := hc7.cell 1
          have c2' := hc7.cell 2
          have f0 := hc7.frozen 0
          have f1 := hc7.frozen 1
          have f2 := hc7.frozen 2
          have HB7 := Lib.hid (HB5.out.trans (hbl.mono HNw.out.2))
          have HRs := Lib.hid (((hc7.put 0 (.slice A1 n c1)).put 1 (.slice (some ⟨g2, 0, none⟩) n n)).put 2 (.slice A3 n c3))
          have HLk := Lib.hid (show Lies wr g2 A1 _ ∧ Lies wr g2 A3 _ from ⟨HL5.out.1.below hbl, HL5.out.2.below hbl⟩)
          have hz7 : w.heap.size < wr.heap.size := hc7.lt
          clear hbk hbl HBk
          go_wp2_with fail
          have q0 := HRs.out.cell 0
          have q1 := HRs.out.cell 1
          have q2 := HRs.out.cell 2
          have hgt : w.heap.size < g2 := by have := HNw.out.2; omega
          refine bodyPost_ret (v := .agg #[.slice A1 n c1, .slice (some ⟨g2, 0, none⟩) n n, .slice A3 n c3]) (by simp [results, Try.results63, go_sem, q0, q1, q2]) rfl ?_
          refine ⟨A1, some ⟨g2, 0, none⟩, A3, c1, n, c3, rfl, ⟨?_, ?_, ?_⟩, ⟨Nat.le_refl _, fun e => by cases e⟩, HO.out.2.1.mono HNw.out.1, fun ad e => by obtain rfl := Option.some.inj e; exact HNw.out.2, HO.out.2.2.2.mono HNw.out.1, ((HB7.out.setCell (Nat.le_refl _) _).setCell (Nat.le_refl _) _).setCell (Nat.le_refl _) _⟩
          · exact lies_set3 HLk.out.1 (Nat.le_of_lt HBl.out.lt) (HO.out.2.1.mono HCell2.out.lt)
          · exact (((HBl.out.far (p := ⟨w.heap.size, 0, none⟩) (by simp; omega) _).far (p := ⟨w.heap.size, 1, none⟩) (by simp; omega) _).far (p := ⟨w.heap.size, 2, none⟩) (by simp; omega) _).lies
          · rw [HN.out]; exact lies_set3 HLk.out.2 (Nat.le_of_lt HBl.out.lt) (HO.out.2.2.2.mono HCell2.out.lt)
end Go.Proofs.Ytpkclmfadlkbeaa

namespace Go.Proofs.Ytpkclmfadlkbeaa
open Go.RowKit Go.Sort

set_option maxHeartbeats 1000000 in
/-- order.below. -/
theorem obelow_any (ps : List Pt3) (f g : Pt3 → Int) (A1 A2 A3 : Option Addr) (c1 c2 c3 : Nat) (low : Int) (w : World) (hV : InV ps f g) (hO : OrdM w w.heap.size ps f g A1 A2 A3) :
    Calls Try.prog 79 #[.agg #[.slice A1 ps.length c1, .slice A2 ps.length c2, .slice A3 ps.length c3], .int .i64 low] w fun e w' => e = .returned (.int .i64 (loS ps f g low : Nat)) ∧ Below w.heap.size w w' := by
  have hn := hV.few
  have hc : -1048576 ≤ clampC low ∧ clampC low ≤ 1048577 := by unfold clampC; omega
  have HK := Lib.hid (fun W => key_any (clampC low) (-1048576) 0 W hc ⟨by omega, by omega⟩ ⟨by omega, by omega⟩)
  have HB := Lib.hid (bnew w (.cells #[.slice A1 ps.length c1, .slice A2 ps.length c2, .slice A3 ps.length c3] 78))
  have hO2 := hO.keys.alloc (.cells #[.slice A1 ps.length c1, .slice A2 ps.length c2, .slice A3 ps.length c3] 78)
  have HF := Lib.hid (fun d => find_ok A1 (dst (keyL ps f g)) c1 (keyI (clampC low) (-1048576) 0) ((w.alloc (.cells #[.slice A1 ps.length c1, .slice A2 ps.length c2, .slice A3 ps.length c3] 78)).drewN d) (by rw [dstK_length hV]; omega) (dst_lt _) (hO2.drewN d))
  rw [show cntL (dst (keyL ps f g)) (keyI (clampC low) (-1048576) 0) = loS ps f g low from rfl, dstK_length hV] at HF
  have HCl := Lib.hid (show min (max low (-1048576)) 1048577 = clampC low from rfl)
  generalize loS ps f g low = r at *
  generalize keyI (clampC low) (-1048576) 0 = kk at *
  generalize ps.length = n at *
  clear hO hO2 hc hV
  obtain ⟨cl, hcl⟩ : ∃ cl, clampC low = cl := ⟨_, rfl⟩
  rw [hcl] at HK HCl
  clear hcl
  have hcc := HCl.out
  go_enter Try.func79, Try.ntmps79
  go_wp2
  go_quiet (first | exact quiet1 HK | exact quiet2 HK | exact quietD1 HF | exact quietD2 HF)
  go_wp2
  go_ret
  exact ⟨rfl, bdN HB.out _⟩

set_option maxHeartbeats 1000000 in
/-- order.between. -/
theorem obetween_any (ps : List Pt3) (f g : Pt3 → Int) (A1 A2 A3 : Option Addr) (c1 c2 c3 : Nat) (low high : Int) (w : World) (hV : InV ps f g) (hh : -9223372036854775808 ≤ high) (hO : OrdM w w.heap.size ps f g A1 A2 A3) :
    Calls Try.prog 68 #[.agg #[.slice A1 ps.length c1, .slice A2 ps.length c2, .slice A3 ps.length c3], .int .i64 low, .int .i64 high] w fun e w' => e = .returned (.agg #[.int .i64 (loS ps f g low : Nat), .int .i64 (hiS ps f g low high : Nat)]) ∧ Below w.heap.size w w' := by
  have H1 := Lib.hid (fun W hO => obelow_any ps f g A1 A2 A3 c1 c2 c3 low W hV hO)
  have H2 := Lib.hid (fun W hO => obelow_any ps f g A1 A2 A3 c1 c2 c3 (min high 1048576 + 1) W hV hO)
  unfold hiS
  obtain ⟨m, hm⟩ : ∃ m, min high 1048576 = m := ⟨_, rfl⟩
  have hm1 : -9223372036854775808 ≤ m := by omega
  have hm2 : m ≤ 1048576 := by omega
  have hw1 : IntKind.i64.wrap (m + 1) = m + 1 := by rw [IntKind.wrap_i64]; omega
  rw [hm] at H2 ⊢
  generalize loS ps f g low = a at *
  generalize loS ps f g (m + 1) = b at *
  have hmx : max (a : Int) (b : Int) = ((max a b : Nat) : Int) := by omega
  have HO := Lib.hid hO
  clear hO hV hh
  generalize ps.length = n at *
  go_enter Try.func68, Try.ntmps68
  go_wp2_with fail
  have hbx := (Blk.new w 78 [.slice A1 n c1, .slice A2 n c2, .slice A3 n c3]).alloc (.cells #[.int .i64 0, .int .i64 0] 84)
  have hrs := Blk.new (w.alloc (.cells #[.slice A1 n c1, .slice A2 n c2, .slice A3 n c3] 78)) 84 [.int .i64 0, .int .i64 0]
  have hb0 := chain (bnew w (.cells #[.slice A1 n c1, .slice A2 n c2, .slice A3 n c3] 78)) (bnew _ (.cells #[.int .i64 0, .int .i64 0] 84))
  rw [World.size_alloc] at hrs
  generalize (w.alloc (.cells #[.slice A1 n c1, .slice A2 n c2, .slice A3 n c3] 78)).alloc (.cells #[.int .i64 0, .int .i64 0] 84) = w0 at *
  refine (H1.out _ (by exact HO.out.on hb0)).mono ?_
  rintro e w1 ⟨rfl, hb1⟩
  have hbx1 := hbx.below hb1 hbx.lt
  have HRs1 := Lib.hid (hrs.below hb1 hrs.lt)
  have HB1 := Lib.hid (chain hb0 hb1)
  have r0 := hbx1.cell 0
  have r1 := hbx1.cell 1
  have r2 := hbx1.cell 2
  clear hbx hrs hb0 hb1 hbx1
  go_wp2_with fail
  refine (H2.out _ (by exact HO.out.on HB1.out)).mono ?_
  rintro e w2 ⟨rfl, hb2⟩
  have hr2 := HRs1.out.below hb2 HRs1.out.lt
  have g0 := hr2.cell 0
  have g1 := hr2.cell 1
  have f0 := hr2.frozen 0
  have f1 := hr2.frozen 1
  have HB2 := Lib.hid (chain HB1.out hb2)
  have HPu := Lib.hid ((hr2.put 0 (.int .i64 (a : Nat))).put 1 (.int .i64 (max a b : Nat)))
  clear hr2 hb2 r0 r1 r2
  go_wp2_with fail
  have q0 := HPu.out.cell 0
  have q1 := HPu.out.cell 1
  refine bodyPost_ret (v := .agg #[.int .i64 (a : Nat), .int .i64 (max a b : Nat)]) (by simp [results, Try.results68, go_sem, q0, q1]) rfl ⟨rfl, ?_⟩
  exact (HB2.out.setCell (by simp) _).setCell (by simp) _
end Go.Proofs.Ytpkclmfadlkbeaa
