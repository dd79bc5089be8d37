/-
  What grid.makeTable returns: a contract, walked over the translated text. What grid's table.find, table.below and table.count return: contracts, walked over the translated text. What grid's table.points and table.kth return: contracts, walked over the translated text. What grid.Count, Report and Kth return, and Top where it refuses: contracts, walked over the translated text. No condition but what each theorem names.
-/
import Derived.Test.YtpkclmfadlkbeaaJ21
import Derived.Test.YtpkclmfadlkbeaaJ20
import Derived.Test.YtpkclmfadlkbeaaJ12
import Derived.Test.YtpkclmfadlkbeaaJ19
import Derived.Test.YtpkclmfadlkbeaaJ10
import Derived.Deep.RegionHeld3
import Derived.Deep.RegionWith
import Derived.Deep.AppendLies
import Derived.Test.YtpkclmfadlkbeaaJ09
import Derived.Test.YtpkclmfadlkbeaaJ18
import Derived.Deep.Cut
import Derived.Deep.DeepCutAuto
namespace Go.Proofs.Ytpkclmfadlkbeaa
open Go.RowKit Go.Sort Words

/-- A table's slices, and the levels of its matrix. -/
structure Tab where
  x1 : Option Addr
  x2 : Option Addr
  x3 : Option Addr
  y1 : Option Addr
  y2 : Option Addr
  y3 : Option Addr
  m : Option Addr
  cx1 : Nat
  cx2 : Nat
  cx3 : Nat
  cy1 : Nat
  cy2 : Nat
  cy3 : Nat
  cm : Nat
  vs : List Lev
def Tab.val (t : Tab) (n : Nat) : Value := .agg #[.slice t.x1 n t.cx1, .slice t.x2 n t.cx2, .slice t.x3 n t.cx3, .slice t.y1 n t.cy1, .slice t.y2 n t.cy2, .slice t.y3 n t.cy3, .slice t.m t.vs.length t.cm]
/-- Its memory. -/
structure TabM (w : World) (B : Nat) (ps : List Pt3) (t : Tab) : Prop where
  x : OrdM w B ps Pt3.x Pt3.y t.x1 t.x2 t.x3
  y : OrdM w B ps Pt3.y Pt3.x t.y1 t.y2 t.y3
  m : Mat w B t.m t.vs
theorem TabM.on {w w' : World} {ps : List Pt3} {t : Tab} (h : TabM w w.heap.size ps t) (hb : Below w.heap.size w w') : TabM w' w'.heap.size ps t := ⟨h.x.on hb, h.y.on hb, h.m.on hb⟩
theorem TabM.alloc {w : World} {ps : List Pt3} {t : Tab} (h : TabM w w.heap.size ps t) (o : Obj) : TabM (w.alloc o) (w.alloc o).heap.size ps t := ⟨h.x.alloc o, h.y.alloc o, h.m.alloc o⟩
/-- A table in new memory. -/
def GivesTb (w : World) (ps : List Pt3) (e : Ending) (w' : World) : Prop := ∃ t : Tab, e = .returned (t.val ps.length) ∧ TabM w' w'.heap.size ps t ∧ TabOf ps t.vs ∧ (ps.length ≤ t.cx2 ∧ (t.x2 = none → t.cx2 = 0)) ∧ Below w.heap.size w w'

theorem Lies.past {w : World} {B q o : Nat} {A : Option Addr} {xs : List Value} {u : Value} (h : Lies w B A xs) (hq : B ≤ q) : Lies (w.setCell ⟨q, o, none⟩ u) B A xs :=
  h.keep fun p hp => World.cell?_setCell_other w _ p u (fun e => by subst e; simp at hp; omega)
theorem Lies.st {w : World} {B q o : Nat} {A : Option Addr} {xs : List Value} {u : Value} (h : Lies w B A xs) (hn : New (q + 1) A) : Lies (w.setCell ⟨q, o, none⟩ u) B A xs := h.setCell hn (by simp) u
/-- Seven cells of a block written. -/
def set7 (w : World) (q : Nat) (a0 a1 a2 a3 a4 a5 a6 : Value) : World := ((((((w.setCell ⟨q, 0, none⟩ a0).setCell ⟨q, 1, none⟩ a1).setCell ⟨q, 2, none⟩ a2).setCell ⟨q, 3, none⟩ a3).setCell ⟨q, 4, none⟩ a4).setCell ⟨q, 5, none⟩ a5).setCell ⟨q, 6, none⟩ a6
theorem set7_size (w : World) (q : Nat) (a0 a1 a2 a3 a4 a5 a6 : Value) : (set7 w q a0 a1 a2 a3 a4 a5 a6).heap.size = w.heap.size := by simp [set7]
theorem Lies.set7 {w : World} {B q : Nat} {A : Option Addr} {xs : List Value} {a0 a1 a2 a3 a4 a5 a6 : Value} (h : Lies w B A xs) (hB : B ≤ w.heap.size) (hn : New (q + 1) A) : Lies (set7 w q a0 a1 a2 a3 a4 a5 a6) (set7 w q a0 a1 a2 a3 a4 a5 a6).heap.size A xs := by
  refine Lies.wide (B := B) ?_ (by rw [set7_size]; exact hB)
  exact ((((((h.st hn).st hn).st hn).st hn).st hn).st hn).st hn
theorem set7_below {w w' : World} {B q : Nat} {a0 a1 a2 a3 a4 a5 a6 : Value} (h : Below B w w') (hq : B ≤ q) : Below B w (set7 w' q a0 a1 a2 a3 a4 a5 a6) :=
  ((((((h.setCell hq _).setCell hq _).setCell hq _).setCell hq _).setCell hq _).setCell hq _).setCell hq _
/-- What is returned behind the stores. -/
theorem tab_end {W : World} {q h : Nat} {ps : List Pt3} {t : Tab} {u a0 a1 a2 a3 a4 a5 a6 : Value}
    (hX : OrdM W h ps Pt3.x Pt3.y t.x1 t.x2 t.x3) (hY : OrdM W h ps Pt3.y Pt3.x t.y1 t.y2 t.y3) (hM : Mat W W.heap.size t.m t.vs) (hh : h ≤ W.heap.size) (hqh : q < h)
    (n1 : New (q + 1) t.x1) (n2 : New (q + 1) t.x2) (n3 : New (q + 1) t.x3) (n4 : New (q + 1) t.y1) (n5 : New (q + 1) t.y2) (n6 : New (q + 1) t.y3) (nm : New (h + 1) t.m) (nv : ∀ v ∈ t.vs, New (h + 1) v.adr) :
    TabM (set7 (W.setCell ⟨h, 6, none⟩ u) q a0 a1 a2 a3 a4 a5 a6) (set7 (W.setCell ⟨h, 6, none⟩ u) q a0 a1 a2 a3 a4 a5 a6).heap.size ps t := by
  have hs : (W.setCell ⟨h, 6, none⟩ u).heap.size = W.heap.size := by simp
  have hB : h ≤ (W.setCell ⟨h, 6, none⟩ u).heap.size := by rw [hs]; exact hh
  refine ⟨⟨(hX.keys.past (Nat.le_refl _)).set7 hB n1, (hX.pts.past (Nat.le_refl _)).set7 hB n2, (hX.plcs.past (Nat.le_refl _)).set7 hB n3⟩, ⟨(hY.keys.past (Nat.le_refl _)).set7 hB n4, (hY.pts.past (Nat.le_refl _)).set7 hB n5, (hY.plcs.past (Nat.le_refl _)).set7 hB n6⟩, ⟨?_, fun v hv => ⟨?_, ((hM.rows v hv).2)⟩⟩⟩
  · exact (hM.heads.st nm).set7 (Nat.le_of_eq hs.symm) (nm.mono (by omega))
  · exact ((hM.rows v hv).1.st (nv v hv)).set7 (Nat.le_of_eq hs.symm) ((nv v hv).mono (by omega))

theorem rowsL_at {ps : List Pt3} {i j : Nat} (h : (ordL ps Pt3.x Pt3.y)[i]? = some j) : (natC (rowsL ps))[i]? = some (.int .i64 (plc ps Pt3.y Pt3.x j : Nat)) := natC_at _ _ _ (by unfold rowsL; rw [List.getElem?_map, h]; rfl)

set_option maxHeartbeats 4000000 in
/-- grid.makeTable. -/
theorem mktable_any (A : Option Addr) (ps : List Pt3) (c : Nat) (w : World) (hV : V2 ps) (hL : Lies w w.heap.size A (ptC ps)) :
    Calls Try.prog 45 #[.slice A ps.length c] w (GivesTb w ps) := by
  have HL := Lib.hid hL
  have hn := hV.x.few
  have HX := Lib.hid (fun W hW => mkorder_any 64 Pt3.x Pt3.y (enters_of Try.func64 (by kernel_rfl) rfl) sides_x A ps c W hV.x hW)
  have HY := Lib.hid (fun W hW => mkorder_any 65 Pt3.y Pt3.x (enters_of Try.func65 (by kernel_rfl) rfl) sides_y A ps c W hV.y hW)
  have HW := Lib.hid (fun A c W hW => wmk_any (lvl ps.length) A (rowsL ps) c W (by rw [rows_length hV]; omega) (lvl_le hn) (rows_lt hV) hW)
  have HLn := Lib.hid (fun W => len_any (ps.length : Int) W (by omega) (by omega))
  rw [Int.toNat_natCast] at HLn
  have hlv := lvl_le hn
  have HR := Lib.hid (fun i j (h : (ordL ps Pt3.x Pt3.y)[i]? = some j) => rowsL_at h)
  have HPl := Lib.hid (fun j (h : j < ps.length) => show (natC ((List.range ps.length).map (plc ps Pt3.y Pt3.x)))[j]? = some (.int .i64 (plc ps Pt3.y Pt3.x j : Nat)) from natC_at _ _ _ (by rw [List.getElem?_map, List.getElem?_range h]; rfl))
  have HIn := Lib.hid (fun j (h : j ∈ ordL ps Pt3.x Pt3.y) => (ordL_mem hV.x).1 h)
  have HOl := Lib.hid (ordL_length hV.x)
  have HXl := Lib.hid (show (natC (rowsL ps)).length = ps.length by rw [natC_length, rows_length hV])
  have hmk := make_row (P := Try.prog) 31 3 (.int .i64 0) 8 Try.underlying31 oint_info rfl ps.length (by omega) (by omega)
  unfold GivesOrd at HX HY
  unfold GivesWave at HW
  rw [rows_length hV] at HW
  rw [show Lib.bitLen ps.length = lvl ps.length from rfl] at HLn
  unfold GivesTb
  obtain ⟨n, hnn⟩ : ∃ n, ps.length = n := ⟨_, rfl⟩
  have HN := Lib.hid hnn
  rw [hnn] at hn hmk HX HY HW HLn HXl HOl hlv ⊢
  have HTo := Lib.hid (fun vs (h : MadeOf n (levs (lvl n) (rowsL ps)) vs) => show TabOf ps vs ∧ vs.length = lvl n by
    have h1 : TabOf ps vs := by unfold TabOf; rw [rows_length hV, hnn]; exact h
    exact ⟨h1, by rw [tab_len h1, hnn]⟩)
  generalize hll : lvl n = lv at *
  clear hnn hL hV hll
  go_enter Try.func45, Try.ntmps45
  go_wp2_with fail
  have hcell := Blk.new w 80 [.slice none 0 0, .slice none 0 0, .slice none 0 0, .slice none 0 0, .slice none 0 0, .slice none 0 0, .slice none 0 0]
  have hb0 := bnew w (.cells #[.slice none 0 0, .slice none 0 0, .slice none 0 0, .slice none 0 0, .slice none 0 0, .slice none 0 0, .slice none 0 0] 80)
  generalize w.alloc (.cells #[.slice none 0 0, .slice none 0 0, .slice none 0 0, .slice none 0 0, .slice none 0 0, .slice none 0 0, .slice none 0 0] 80) = w0 at *
  have hz0 := hcell.lt
  refine (HX.out w0 (HL.out.on hb0)).mono ?_
  rintro e w1 ⟨x1, x2, x3, cx1, cx2, cx3, rfl, hox, hcap, nx1, nx2, nx3, hb1⟩
  have HNx := Lib.hid (show New (w.heap.size + 1) x1 ∧ New (w.heap.size + 1) x2 ∧ New (w.heap.size + 1) x3 from ⟨nx1.mono hz0, nx2.mono hz0, nx3.mono hz0⟩)
  have HOx := Lib.hid hox
  have HC1 := Lib.hid (hcell.below hb1 hz0)
  have HB1 := Lib.hid (chain hb0 hb1)
  have HCap := Lib.hid hcap
  clear hcell hb0 hb1 hox hcap nx1 nx2 nx3
  go_wp2_with fail
  refine (HY.out w1 (HL.out.on HB1.out)).mono ?_
  rintro e w2 ⟨y1, y2, y3, cy1, cy2, cy3, rfl, hoy, _, ny1, ny2, ny3, hb2⟩
  have hz1 := HC1.out.lt
  have HNy := Lib.hid (show New (w.heap.size + 1) y1 ∧ New (w.heap.size + 1) y2 ∧ New (w.heap.size + 1) y3 from ⟨ny1.mono hz1, ny2.mono hz1, ny3.mono hz1⟩)
  have HOx2 := Lib.hid (HOx.out.on hb2)
  have HOy2 := Lib.hid hoy
  have HC2 := Lib.hid (HC1.out.below hb2 hz1)
  have HB2 := Lib.hid (chain HB1.out hb2)
  have hz2 := HC2.out.lt
  clear hb2 hoy ny1 ny2 ny3 hz0 hz1 HC1 HOx
  go_wp2_with fail
  have ht3 := (Blk.new w2 80 [.slice x1 n cx1, .slice x2 n cx2, .slice x3 n cx3, .slice y1 n cy1, .slice y2 n cy2, .slice y3 n cy3, .slice none 0 0]).alloc (.cells (zeros (.int .i64 0) n) 3)
  have hrw := zeros_blk (w2.alloc (.cells #[.slice x1 n cx1, .slice x2 n cx2, .slice x3 n cx3, .slice y1 n cy1, .slice y2 n cy2, .slice y3 n cy3, .slice none 0 0] 80)) (.int .i64 0) n 3
  have hb3 : Below w2.heap.size w2 ((w2.alloc (.cells #[.slice x1 n cx1, .slice x2 n cx2, .slice x3 n cx3, .slice y1 n cy1, .slice y2 n cy2, .slice y3 n cy3, .slice none 0 0] 80)).alloc (.cells (zeros (.int .i64 0) n) 3)) := chain (bnew w2 _) (bnew _ _)
  rw [World.size_alloc] at hrw
  generalize (w2.alloc (.cells #[.slice x1 n cx1, .slice x2 n cx2, .slice x3 n cx3, .slice y1 n cy1, .slice y2 n cy2, .slice y3 n cy3, .slice none 0 0] 80)).alloc (.cells (zeros (.int .i64 0) n) 3) = w3 at *
  have HT3 := Lib.hid ht3
  have HR3 := Lib.hid hrw
  have HB3 := Lib.hid hb3
  have HOx3 := Lib.hid (show OrdM w3 w2.heap.size ps Pt3.x Pt3.y x1 x2 x3 from ⟨HOx2.out.keys.below hb3, HOx2.out.pts.below hb3, HOx2.out.plcs.below hb3⟩)
  have HOy3 := Lib.hid (show OrdM w3 w2.heap.size ps Pt3.y Pt3.x y1 y2 y3 from ⟨HOy2.out.keys.below hb3, HOy2.out.pts.below hb3, HOy2.out.plcs.below hb3⟩)
  have HC3 := Lib.hid (HC2.out.below hb3 hz2)
  have HB4 := Lib.hid (chain HB2.out hb3)
  have hz3 := hrw.lt
  clear ht3 hrw hb3 HOx2 HOy2 HC2 HB2
  generalize w2.heap.size = h at *
  go_loopw [19] (fun u w' => ∃ i : Nat, i ≤ n ∧ u = .int .i64 i ∧ Blk w' (h + 1) 3 (fillR (natC (rowsL ps)) (.int .i64 0) i) ∧ Below (h + 1) w3 w') (fun u _ => n - (intOf u).toNat)
  case atStart => exact ⟨0, Nat.zero_le _, rfl, by rw [fillR_zero, HXl.out]; exact HR3.out, Below.refl _ _⟩
  case round =>
    obtain ⟨i, hi, rfl, hbk, hbl⟩ := hrel
    have HBk := Lib.hid hbk
    have HB5 := Lib.hid hbl
    have HT := Lib.hid (HT3.out.below hbl (by omega))
    by_cases hlt : i < n
    · obtain ⟨b, o, j, rfl, hb, hj, hc⟩ := Lies.at_ (f := fun x : Nat => Value.int .i64 (x : Int)) (l := ordL ps Pt3.x Pt3.y) (HOx3.out.pts.keep fun q hq => hbl.cell (p := q) (by omega)) (k := i) (by rw [HOl.out]; exact hlt)
      have hjn := HIn.out j (List.mem_of_getElem? hj)
      obtain ⟨b2, o2, k, rfl, hb2, hk, hc2⟩ := Lies.at_ (f := fun x : Nat => Value.int .i64 (x : Int)) (l := (List.range ps.length).map (plc ps Pt3.y Pt3.x)) (HOy3.out.plcs.keep fun q hq => hbl.cell (p := q) (by omega)) (k := j) (by simp; exact hjn)
      obtain rfl : plc ps Pt3.y Pt3.x j = k := by
        rw [List.getElem?_map, List.getElem?_range hjn] at hk
        exact Option.some.inj hk
      have HSx := Lib.hid (fillR_step (natC (rowsL ps)) (.int .i64 0) i _ (HR.out i j hj))
      have hcx := hbk.cell i
      rw [fillR_at _ _ i (by rw [HXl.out]; exact hlt)] at hcx
      have hfz := hbk.frozen i
      have HPu := Lib.hid (hbk.put i (.int .i64 (plc ps Pt3.y Pt3.x j : Nat)))
      rw [HSx.out] at HPu
      have hil : (i : Int) < (n : Int) := by omega
      have hjl : (j : Int) < (n : Int) := by have := HN.out; omega
      have q5 := HT.out.cell 5
      rw [HN.out] at hjn
      clear hbk hbl hj hk HSx
      generalize plc ps Pt3.y Pt3.x j = z at *
      go_wp2_with fail
      go_roundw
      case rel => exact ⟨i + 1, by omega, by go_num, HPu.out, HB5.out.setCell (Nat.le_refl _) _⟩
      case measure => simp [intOf]; omega
    · obtain rfl : n = i := by omega
      have hful : fillR (natC (rowsL ps)) (.int .i64 0) n = natC (rowsL ps) := by rw [← HXl.out]; exact fillR_all _ _
      rw [hful] at hbk
      have HBf := Lib.hid hbk
      have HC5 := Lib.hid (HC3.out.below hbl (by omega))
      have HB6 := Lib.hid (HB4.out.trans (hbl.mono (by omega)))
      have HOx5 := Lib.hid (show OrdM wr h ps Pt3.x Pt3.y x1 x2 x3 from ⟨HOx3.out.keys.keep fun q hq => hbl.cell (p := q) (by omega), HOx3.out.pts.keep fun q hq => hbl.cell (p := q) (by omega), HOx3.out.plcs.keep fun q hq => hbl.cell (p := q) (by omega)⟩)
      have HOy5 := Lib.hid (show OrdM wr h ps Pt3.y Pt3.x y1 y2 y3 from ⟨HOy3.out.keys.keep fun q hq => hbl.cell (p := q) (by omega), HOy3.out.pts.keep fun q hq => hbl.cell (p := q) (by omega), HOy3.out.plcs.keep fun q hq => hbl.cell (p := q) (by omega)⟩)
      clear hbk hbl HBk hful
      go_wp2_with fail
      refine (HLn.out _).mono ?_
      rintro e w' ⟨rfl, rfl⟩
      go_wp2_with fail
      have hz6 := HBf.out.lt
      refine (HW.out (some ⟨h + 1, 0, none⟩) n w' HBf.out.lies).mono ?_
      rintro e w5 ⟨Am, vs, cm, rfl, hmo, hle, hmat, nm, nv, hb5⟩
      have HMat := Lib.hid hmat
      have HTv := Lib.hid (HTo.out vs hmo)
      have HNm := Lib.hid (show New (h + 1) Am ∧ ∀ v ∈ vs, New (h + 1) v.adr from ⟨nm.mono (by omega), fun v hv => (nv v hv).mono (by omega)⟩)
      have htb := HT.out.below hb5 (by omega)
      have hcb := HC5.out.below hb5 HC5.out.lt
      have HB7 := Lib.hid (chain HB6.out hb5)
      have HOx6 := Lib.hid (show OrdM w5 h ps Pt3.x Pt3.y x1 x2 x3 from ⟨HOx5.out.keys.keep fun q hq => hb5.cell (p := q) (by omega), HOx5.out.pts.keep fun q hq => hb5.cell (p := q) (by omega), HOx5.out.plcs.keep fun q hq => hb5.cell (p := q) (by omega)⟩)
      have HOy6 := Lib.hid (show OrdM w5 h ps Pt3.y Pt3.x y1 y2 y3 from ⟨HOy5.out.keys.keep fun q hq => hb5.cell (p := q) (by omega), HOy5.out.pts.keep fun q hq => hb5.cell (p := q) (by omega), HOy5.out.plcs.keep fun q hq => hb5.cell (p := q) (by omega)⟩)
      have ht0 := htb.cell 0
      have ht1 := htb.cell 1
      have ht2 := htb.cell 2
      have ht3 := htb.cell 3
      have ht4 := htb.cell 4
      have ht5 := htb.cell 5
      have ht6 := htb.cell 6
      have fr6 := htb.frozen 6
      have hc0 := hcb.cell 0
      have hc1 := hcb.cell 1
      have hc2 := hcb.cell 2
      have hc3 := hcb.cell 3
      have hc4 := hcb.cell 4
      have hc5 := hcb.cell 5
      have hc6 := hcb.cell 6
      have fc0 := hcb.frozen 0
      have fc1 := hcb.frozen 1
      have fc2 := hcb.frozen 2
      have fc3 := hcb.frozen 3
      have fc4 := hcb.frozen 4
      have fc5 := hcb.frozen 5
      have fc6 := hcb.frozen 6
      have hne : w.heap.size ≠ h := by omega
      have HPu := Lib.hid ((((((((hcb.far (p := ⟨h, 6, none⟩) (by simp; omega) (.slice Am lv cm)).put 0 (.slice x1 n cx1)).put 1 (.slice x2 n cx2)).put 2 (.slice x3 n cx3)).put 3 (.slice y1 n cy1)).put 4 (.slice y2 n cy2)).put 5 (.slice y3 n cy3)).put 6 (.slice Am lv cm))
      have hz7 : h ≤ w5.heap.size := by have := hb5.size; omega
      clear htb hcb hb5 hmo hmat nm nv HT HC5 HOx5 HOy5
      go_wp2_with fail
      have q0 := HPu.out.cell 0
      have q1 := HPu.out.cell 1
      have q2 := HPu.out.cell 2
      have q3 := HPu.out.cell 3
      have q4 := HPu.out.cell 4
      have q5 := HPu.out.cell 5
      have q6 := HPu.out.cell 6
      refine bodyPost_ret (v := .agg #[.slice x1 n cx1, .slice x2 n cx2, .slice x3 n cx3, .slice y1 n cy1, .slice y2 n cy2, .slice y3 n cy3, .slice Am lv cm]) (by simp [results, Try.results45, go_sem, q0, q1, q2, q3, q4, q5, q6]) rfl ?_
      exact ⟨⟨x1, x2, x3, y1, y2, y3, Am, cx1, cx2, cx3, cy1, cy2, cy3, cm, vs⟩, by unfold Tab.val; rw [HTv.out.2], tab_end (t := ⟨x1, x2, x3, y1, y2, y3, Am, cx1, cx2, cx3, cy1, cy2, cy3, cm, vs⟩) HOx6.out HOy6.out HMat.out hz7 hz2 HNx.out.1 HNx.out.2.1 HNx.out.2.2 HNy.out.1 HNy.out.2.1 HNy.out.2.2 HNm.out.1 HNm.out.2, HTv.out.1, HCap.out, set7_below (HB7.out.setCell (Nat.le_of_lt hz2) _) (Nat.le_refl _)⟩
end Go.Proofs.Ytpkclmfadlkbeaa

namespace Go.Proofs.Ytpkclmfadlkbeaa
open Go.RowKit Go.Sort Words

/-- The cells of a table, of a rectangle. -/
def Tab.cells (t : Tab) (n : Nat) : List Value := [.slice t.x1 n t.cx1, .slice t.x2 n t.cx2, .slice t.x3 n t.cx3, .slice t.y1 n t.cy1, .slice t.y2 n t.cy2, .slice t.y3 n t.cy3, .slice t.m t.vs.length t.cm]
/-- Two boxes behind one another: a table's and another struct's. -/
structure TqAt (w : World) (ps : List Pt3) (t : Tab) (ty : TypeId) (xs : List Value) (W : World) : Prop where
  tb : Blk W w.heap.size 80 (t.cells ps.length)
  bx : Blk W (w.heap.size + 1) ty xs
  mem : TabM W W.heap.size ps t
  bel : Below w.heap.size w W
theorem TqAt.on {w : World} {ps : List Pt3} {t : Tab} {ty : TypeId} {xs : List Value} {W W' : World} (h : TqAt w ps t ty xs W) (hb : Below W.heap.size W W') : TqAt w ps t ty xs W' := ⟨h.tb.below hb h.tb.lt, h.bx.below hb h.bx.lt, h.mem.on hb, chain h.bel hb⟩
theorem TqAt.drew {w : World} {ps : List Pt3} {t : Tab} {ty : TypeId} {xs : List Value} {W : World} (h : TqAt w ps t ty xs W) : TqAt w ps t ty xs W.drew := ⟨h.tb.drew, h.bx.drew, ⟨⟨h.mem.x.keys.drew, h.mem.x.pts.drew, h.mem.x.plcs.drew⟩, ⟨h.mem.y.keys.drew, h.mem.y.pts.drew, h.mem.y.plcs.drew⟩, h.mem.m.drew⟩, h.bel.drew⟩
theorem TqAt.start {w : World} {ps : List Pt3} {t : Tab} (ty : TypeId) (xs : List Value) (hM : TabM w w.heap.size ps t) : TqAt w ps t ty xs ((w.alloc (.cells (t.cells ps.length).toArray 80)).alloc (.cells xs.toArray ty)) := by
  refine ⟨(Blk.new w _ _).alloc _, ?_, (hM.alloc _).alloc _, chain (bnew _ _) (bnew _ _)⟩
  have := Blk.new (w.alloc (.cells (t.cells ps.length).toArray 80)) ty xs
  rwa [World.size_alloc] at this
theorem TqAt.cells7 {w : World} {ps : List Pt3} {t : Tab} {ty : TypeId} {xs : List Value} {W : World} (h : TqAt w ps t ty xs W) :
    W.cell? ⟨w.heap.size, 0, none⟩ = some (.slice t.x1 ps.length t.cx1) ∧ W.cell? ⟨w.heap.size, 1, none⟩ = some (.slice t.x2 ps.length t.cx2) ∧ W.cell? ⟨w.heap.size, 2, none⟩ = some (.slice t.x3 ps.length t.cx3) ∧ W.cell? ⟨w.heap.size, 3, none⟩ = some (.slice t.y1 ps.length t.cy1) ∧ W.cell? ⟨w.heap.size, 4, none⟩ = some (.slice t.y2 ps.length t.cy2) ∧ W.cell? ⟨w.heap.size, 5, none⟩ = some (.slice t.y3 ps.length t.cy3) ∧ W.cell? ⟨w.heap.size, 6, none⟩ = some (.slice t.m t.vs.length t.cm) :=
  ⟨h.tb.cell 0, h.tb.cell 1, h.tb.cell 2, h.tb.cell 3, h.tb.cell 4, h.tb.cell 5, h.tb.cell 6⟩

set_option maxHeartbeats 1000000 in
/-- table.below. -/
theorem tbelow_any (ps : List Pt3) (t : Tab) (a b : Nat) (q : Int) (w : World) (hV : V2 ps) (hT : TabOf ps t.vs) (hab : a ≤ b) (hb : b ≤ ps.length) (hM : TabM w w.heap.size ps t) :
    Calls Try.prog 67 #[t.val ps.length, .agg #[.int .i64 a, .int .i64 b], .int .i64 q] w fun e w' => e = .returned (.int .i64 (lessI ps.length (fns t.vs) q a b)) ∧ Below w.heap.size w w' := by
  have HW := Lib.hid (fun W hW => wbel_in ps.length t.m t.vs t.cm a b q W (tab_wv hV hT) hW hab hb)
  have HS := Lib.hid (TqAt.start 84 [.int .i64 a, .int .i64 b] hM)
  unfold Tab.cells at HS
  unfold Tab.val
  generalize lessI ps.length (fns t.vs) q a b = r at *
  clear hM hV hT
  go_enter Try.func67, Try.ntmps67
  go_wp2_with fail
  refine (HW.out _ (by exact HS.out.mem.m)).mono ?_
  rintro e w1 ⟨rfl, hb1⟩
  go_wp2_with fail
  go_ret
  exact ⟨rfl, chain HS.out.bel hb1⟩

/-- Three boxes: a table's, a rectangle's, that of the area to be returned. -/
structure FdAt (w : World) (ps : List Pt3) (t : Tab) (r : Rc4) (W : World) : Prop where
  q : TqAt w ps t 57 [.int .i64 r.x0, .int .i64 r.y0, .int .i64 r.x1, .int .i64 r.y1] W
  ar : Blk W (w.heap.size + 1 + 1) 86 [.int .i64 0, .int .i64 0, .int .i64 0, .int .i64 0]
theorem FdAt.on {w : World} {ps : List Pt3} {t : Tab} {r : Rc4} {W W' : World} (h : FdAt w ps t r W) (hb : Below W.heap.size W W') : FdAt w ps t r W' := ⟨h.q.on hb, h.ar.below hb h.ar.lt⟩
theorem FdAt.drew {w : World} {ps : List Pt3} {t : Tab} {r : Rc4} {W : World} (h : FdAt w ps t r W) : FdAt w ps t r W.drew := ⟨h.q.drew, h.ar.drew⟩
theorem FdAt.c {w : World} {ps : List Pt3} {t : Tab} {r : Rc4} {n : Nat} (hn : ps.length = n) {W : World} (h : FdAt w ps t r W) : W.cell? ⟨w.heap.size, 0, none⟩ = some (.slice t.x1 n t.cx1) ∧ W.cell? ⟨w.heap.size, 1, none⟩ = some (.slice t.x2 n t.cx2) ∧ W.cell? ⟨w.heap.size, 2, none⟩ = some (.slice t.x3 n t.cx3) ∧ W.cell? ⟨w.heap.size, 3, none⟩ = some (.slice t.y1 n t.cy1) ∧ W.cell? ⟨w.heap.size, 4, none⟩ = some (.slice t.y2 n t.cy2) ∧ W.cell? ⟨w.heap.size, 5, none⟩ = some (.slice t.y3 n t.cy3) ∧ W.cell? ⟨w.heap.size, 6, none⟩ = some (.slice t.m t.vs.length t.cm) ∧ W.cell? ⟨w.heap.size + 1, 0, none⟩ = some (.int .i64 r.x0) ∧ W.cell? ⟨w.heap.size + 1, 1, none⟩ = some (.int .i64 r.y0) ∧ W.cell? ⟨w.heap.size + 1, 2, none⟩ = some (.int .i64 r.x1) ∧ W.cell? ⟨w.heap.size + 1, 3, none⟩ = some (.int .i64 r.y1) := by
  obtain ⟨a, b, c, d, e, f, g⟩ := h.q.cells7
  rw [hn] at a b c d e f
  exact ⟨a, b, c, d, e, f, g, h.q.bx.cell 0, h.q.bx.cell 1, h.q.bx.cell 2, h.q.bx.cell 3⟩

theorem FdAt.c4 {w : World} {ps : List Pt3} {t : Tab} {r : Rc4} {n : Nat} (hn : ps.length = n) {W : World} (h : FdAt w ps t r W) {u0 u1 u2 u3 : Value} : ((((W.setCell ⟨w.heap.size + 1 + 1, 0, none⟩ u0).setCell ⟨w.heap.size + 1 + 1, 1, none⟩ u1).setCell ⟨w.heap.size + 1 + 1, 2, none⟩ u2).setCell ⟨w.heap.size + 1 + 1, 3, none⟩ u3).cell? ⟨w.heap.size, 0, none⟩ = some (.slice t.x1 n t.cx1) ∧ ((((W.setCell ⟨w.heap.size + 1 + 1, 0, none⟩ u0).setCell ⟨w.heap.size + 1 + 1, 1, none⟩ u1).setCell ⟨w.heap.size + 1 + 1, 2, none⟩ u2).setCell ⟨w.heap.size + 1 + 1, 3, none⟩ u3).cell? ⟨w.heap.size, 1, none⟩ = some (.slice t.x2 n t.cx2) ∧ ((((W.setCell ⟨w.heap.size + 1 + 1, 0, none⟩ u0).setCell ⟨w.heap.size + 1 + 1, 1, none⟩ u1).setCell ⟨w.heap.size + 1 + 1, 2, none⟩ u2).setCell ⟨w.heap.size + 1 + 1, 3, none⟩ u3).cell? ⟨w.heap.size, 2, none⟩ = some (.slice t.x3 n t.cx3) ∧ ((((W.setCell ⟨w.heap.size + 1 + 1, 0, none⟩ u0).setCell ⟨w.heap.size + 1 + 1, 1, none⟩ u1).setCell ⟨w.heap.size + 1 + 1, 2, none⟩ u2).setCell ⟨w.heap.size + 1 + 1, 3, none⟩ u3).cell? ⟨w.heap.size, 3, none⟩ = some (.slice t.y1 n t.cy1) ∧ ((((W.setCell ⟨w.heap.size + 1 + 1, 0, none⟩ u0).setCell ⟨w.heap.size + 1 + 1, 1, none⟩ u1).setCell ⟨w.heap.size + 1 + 1, 2, none⟩ u2).setCell ⟨w.heap.size + 1 + 1, 3, none⟩ u3).cell? ⟨w.heap.size, 4, none⟩ = some (.slice t.y2 n t.cy2) ∧ ((((W.setCell ⟨w.heap.size + 1 + 1, 0, none⟩ u0).setCell ⟨w.heap.size + 1 + 1, 1, none⟩ u1).setCell ⟨w.heap.size + 1 + 1, 2, none⟩ u2).setCell ⟨w.heap.size + 1 + 1, 3, none⟩ u3).cell? ⟨w.heap.size, 5, none⟩ = some (.slice t.y3 n t.cy3) ∧ ((((W.setCell ⟨w.heap.size + 1 + 1, 0, none⟩ u0).setCell ⟨w.heap.size + 1 + 1, 1, none⟩ u1).setCell ⟨w.heap.size + 1 + 1, 2, none⟩ u2).setCell ⟨w.heap.size + 1 + 1, 3, none⟩ u3).cell? ⟨w.heap.size, 6, none⟩ = some (.slice t.m t.vs.length t.cm) ∧ ((((W.setCell ⟨w.heap.size + 1 + 1, 0, none⟩ u0).setCell ⟨w.heap.size + 1 + 1, 1, none⟩ u1).setCell ⟨w.heap.size + 1 + 1, 2, none⟩ u2).setCell ⟨w.heap.size + 1 + 1, 3, none⟩ u3).cell? ⟨w.heap.size + 1, 0, none⟩ = some (.int .i64 r.x0) ∧ ((((W.setCell ⟨w.heap.size + 1 + 1, 0, none⟩ u0).setCell ⟨w.heap.size + 1 + 1, 1, none⟩ u1).setCell ⟨w.heap.size + 1 + 1, 2, none⟩ u2).setCell ⟨w.heap.size + 1 + 1, 3, none⟩ u3).cell? ⟨w.heap.size + 1, 1, none⟩ = some (.int .i64 r.y0) ∧ ((((W.setCell ⟨w.heap.size + 1 + 1, 0, none⟩ u0).setCell ⟨w.heap.size + 1 + 1, 1, none⟩ u1).setCell ⟨w.heap.size + 1 + 1, 2, none⟩ u2).setCell ⟨w.heap.size + 1 + 1, 3, none⟩ u3).cell? ⟨w.heap.size + 1, 2, none⟩ = some (.int .i64 r.x1) ∧ ((((W.setCell ⟨w.heap.size + 1 + 1, 0, none⟩ u0).setCell ⟨w.heap.size + 1 + 1, 1, none⟩ u1).setCell ⟨w.heap.size + 1 + 1, 2, none⟩ u2).setCell ⟨w.heap.size + 1 + 1, 3, none⟩ u3).cell? ⟨w.heap.size + 1, 3, none⟩ = some (.int .i64 r.y1) := by
  have hA := (((h.q.tb.far (p := ⟨w.heap.size + 1 + 1, 0, none⟩) (by simp; omega) u0).far (p := ⟨w.heap.size + 1 + 1, 1, none⟩) (by simp; omega) u1).far (p := ⟨w.heap.size + 1 + 1, 2, none⟩) (by simp; omega) u2).far (p := ⟨w.heap.size + 1 + 1, 3, none⟩) (by simp; omega) u3
  have hB := (((h.q.bx.far (p := ⟨w.heap.size + 1 + 1, 0, none⟩) (by simp) u0).far (p := ⟨w.heap.size + 1 + 1, 1, none⟩) (by simp) u1).far (p := ⟨w.heap.size + 1 + 1, 2, none⟩) (by simp) u2).far (p := ⟨w.heap.size + 1 + 1, 3, none⟩) (by simp) u3
  unfold Tab.cells at hA
  rw [hn] at hA
  exact ⟨hA.cell 0, hA.cell 1, hA.cell 2, hA.cell 3, hA.cell 4, hA.cell 5, hA.cell 6, hB.cell 0, hB.cell 1, hB.cell 2, hB.cell 3⟩

set_option maxRecDepth 100000 in
set_option maxHeartbeats 4000000 in
/-- table.find. -/
theorem find_tab (ps : List Pt3) (t : Tab) (r : Rc4) (w : World) (hV : V2 ps) (hr : -9223372036854775808 ≤ r.x1 ∧ -9223372036854775808 ≤ r.y1) (hM : TabM w w.heap.size ps t) :
    Calls Try.prog 47 #[t.val ps.length, r.val] w fun e w' => e = .returned (.agg #[.int .i64 (cLo ps r : Nat), .int .i64 (cHi ps r : Nat), .int .i64 (rLo ps r : Nat), .int .i64 (rHi ps r : Nat)]) ∧ Below w.heap.size w w' := by
  have HX := Lib.hid (fun W hW => obetween_any ps Pt3.x Pt3.y t.x1 t.x2 t.x3 t.cx1 t.cx2 t.cx3 r.x0 r.x1 W hV.x hr.1 hW)
  have HY := Lib.hid (fun W hW => obetween_any ps Pt3.y Pt3.x t.y1 t.y2 t.y3 t.cy1 t.cy2 t.cy3 r.y0 r.y1 W hV.y hr.2 hW)
  rw [show loS ps Pt3.x Pt3.y r.x0 = cLo ps r from rfl, show hiS ps Pt3.x Pt3.y r.x0 r.x1 = cHi ps r from rfl] at HX
  rw [show loS ps Pt3.y Pt3.x r.y0 = rLo ps r from rfl, show hiS ps Pt3.y Pt3.x r.y0 r.y1 = rHi ps r from rfl] at HY
  have hs := TqAt.start 57 [.int .i64 r.x0, .int .i64 r.y0, .int .i64 r.x1, .int .i64 r.y1] hM
  have hfd : FdAt w ps t r _ := ⟨hs.on (bnew _ (.cells #[.int .i64 0, .int .i64 0, .int .i64 0, .int .i64 0] 86)), by
    have := Blk.new ((w.alloc (.cells (t.cells ps.length).toArray 80)).alloc (.cells [Value.int .i64 r.x0, .int .i64 r.y0, .int .i64 r.x1, .int .i64 r.y1].toArray 57)) 86 [.int .i64 0, .int .i64 0, .int .i64 0, .int .i64 0]
    rwa [World.size_alloc, World.size_alloc] at this⟩
  have HFd := Lib.hid hfd
  unfold Tab.cells at HFd
  unfold Tab.val Rc4.val
  generalize cLo ps r = a1 at *
  generalize cHi ps r = a2 at *
  generalize rLo ps r = a3 at *
  generalize rHi ps r = a4 at *
  obtain ⟨n, hn⟩ : ∃ n, ps.length = n := ⟨_, rfl⟩
  have HN := Lib.hid hn
  rw [hn] at HX HY HFd ⊢
  clear hM hV hs hfd hn
  go_enter Try.func47, Try.ntmps47
  go_wp2_with fail
  have HX0 : Hid (FdAt w ps t r (((w.alloc (.cells #[.slice t.x1 n t.cx1, .slice t.x2 n t.cx2, .slice t.x3 n t.cx3, .slice t.y1 n t.cy1, .slice t.y2 n t.cy2, .slice t.y3 n t.cy3, .slice t.m t.vs.length t.cm] 80)).alloc (.cells #[.int .i64 r.x0, .int .i64 r.y0, .int .i64 r.x1, .int .i64 r.y1] 57)).alloc (.cells #[.int .i64 0, .int .i64 0, .int .i64 0, .int .i64 0] 86))) := HFd
  clear HFd
  generalize (((w.alloc (.cells #[.slice t.x1 n t.cx1, .slice t.x2 n t.cx2, .slice t.x3 n t.cx3, .slice t.y1 n t.cy1, .slice t.y2 n t.cy2, .slice t.y3 n t.cy3, .slice t.m t.vs.length t.cm] 80)).alloc (.cells #[.int .i64 r.x0, .int .i64 r.y0, .int .i64 r.x1, .int .i64 r.y1] 57)).alloc (.cells #[.int .i64 0, .int .i64 0, .int .i64 0, .int .i64 0] 86)) = W0 at *
  obtain ⟨d0, d1, d2, d3, d4, d5, d6, d7, d8, d9, d10⟩ := HX0.out.c HN.out
  go_region_held3 (fun W => W.cell? ⟨w.heap.size, 0, none⟩ = some (.slice t.x1 n t.cx1) ∧ W.cell? ⟨w.heap.size, 1, none⟩ = some (.slice t.x2 n t.cx2) ∧ W.cell? ⟨w.heap.size, 2, none⟩ = some (.slice t.x3 n t.cx3) ∧ W.cell? ⟨w.heap.size, 3, none⟩ = some (.slice t.y1 n t.cy1) ∧ W.cell? ⟨w.heap.size, 4, none⟩ = some (.slice t.y2 n t.cy2) ∧ W.cell? ⟨w.heap.size, 5, none⟩ = some (.slice t.y3 n t.cy3) ∧ W.cell? ⟨w.heap.size, 6, none⟩ = some (.slice t.m t.vs.length t.cm) ∧ W.cell? ⟨w.heap.size + 1, 0, none⟩ = some (.int .i64 r.x0) ∧ W.cell? ⟨w.heap.size + 1, 1, none⟩ = some (.int .i64 r.y0) ∧ W.cell? ⟨w.heap.size + 1, 2, none⟩ = some (.int .i64 r.x1) ∧ W.cell? ⟨w.heap.size + 1, 3, none⟩ = some (.int .i64 r.y1))
    (first | exact HX0.out.c HN.out | exact HF1.out.c HN.out | exact HE.out.c HN.out | exact HE.out.c4 HN.out)
    (first
      | (go_at_call_of 68 (Value.int .i64 r.x0); refine (HX.out _ ?_).mono ?_; exact HX0.out.drew.q.mem.x; rintro e w2 ⟨rfl, hb2⟩; have HF1 := Lib.hid (HX0.out.drew.on hb2); clear HX)
      | (go_at_call_of 68 (Value.int .i64 r.y0); refine (HY.out _ ?_).mono ?_; exact HX0.out.drew.q.mem.y; rintro e w2 ⟨rfl, hb2⟩; have HF1 := Lib.hid (HX0.out.drew.on hb2); clear HY)
      | (go_at_call_of 68 (Value.int .i64 r.x0); refine (HX.out _ ?_).mono ?_; exact HF1.out.q.mem.x; rintro e w3 ⟨rfl, hb3⟩; have HE := Lib.hid (HF1.out.on hb3); have f0 := HE.out.ar.frozen 0; have f1 := HE.out.ar.frozen 1; have f2 := HE.out.ar.frozen 2; have f3 := HE.out.ar.frozen 3; have g0 : w3.cell? ⟨w.heap.size + 1 + 1, 0, none⟩ = some (.int .i64 0) := HE.out.ar.cell 0; have g1 : w3.cell? ⟨w.heap.size + 1 + 1, 1, none⟩ = some (.int .i64 0) := HE.out.ar.cell 1; have g2 : w3.cell? ⟨w.heap.size + 1 + 1, 2, none⟩ = some (.int .i64 0) := HE.out.ar.cell 2; have g3 : w3.cell? ⟨w.heap.size + 1 + 1, 3, none⟩ = some (.int .i64 0) := HE.out.ar.cell 3)
      | (go_at_call_of 68 (Value.int .i64 r.y0); refine (HY.out _ ?_).mono ?_; exact HF1.out.q.mem.y; rintro e w3 ⟨rfl, hb3⟩; have HE := Lib.hid (HF1.out.on hb3); have f0 := HE.out.ar.frozen 0; have f1 := HE.out.ar.frozen 1; have f2 := HE.out.ar.frozen 2; have f3 := HE.out.ar.frozen 3; have g0 : w3.cell? ⟨w.heap.size + 1 + 1, 0, none⟩ = some (.int .i64 0) := HE.out.ar.cell 0; have g1 : w3.cell? ⟨w.heap.size + 1 + 1, 1, none⟩ = some (.int .i64 0) := HE.out.ar.cell 1; have g2 : w3.cell? ⟨w.heap.size + 1 + 1, 2, none⟩ = some (.int .i64 0) := HE.out.ar.cell 2; have g3 : w3.cell? ⟨w.heap.size + 1 + 1, 3, none⟩ = some (.int .i64 0) := HE.out.ar.cell 3))
  all_goals
    clear d0 d1 d2 d3 d4 d5 d6 d7 d8 d9 d10
    go_wp2_with fail
    refine bodyPost_ret (v := .agg #[.int .i64 a1, .int .i64 a2, .int .i64 a3, .int .i64 a4]) (by simp [results, Try.results47, go_sem, g0, g1, g2, g3]) rfl ⟨rfl, ?_⟩
    exact (((HE.out.q.bel.setCell (by simp; omega) _).setCell (by simp; omega) _).setCell (by simp; omega) _).setCell (by simp; omega) _

/-- A table's box and an area's. -/
theorem TqAt.c {w : World} {ps : List Pt3} {t : Tab} {n a1 a2 a3 a4 : Nat} (hn : ps.length = n) {W : World} (h : TqAt w ps t 86 [.int .i64 a1, .int .i64 a2, .int .i64 a3, .int .i64 a4] W) : W.cell? ⟨w.heap.size, 0, none⟩ = some (.slice t.x1 n t.cx1) ∧ W.cell? ⟨w.heap.size, 1, none⟩ = some (.slice t.x2 n t.cx2) ∧ W.cell? ⟨w.heap.size, 2, none⟩ = some (.slice t.x3 n t.cx3) ∧ W.cell? ⟨w.heap.size, 3, none⟩ = some (.slice t.y1 n t.cy1) ∧ W.cell? ⟨w.heap.size, 4, none⟩ = some (.slice t.y2 n t.cy2) ∧ W.cell? ⟨w.heap.size, 5, none⟩ = some (.slice t.y3 n t.cy3) ∧ W.cell? ⟨w.heap.size, 6, none⟩ = some (.slice t.m t.vs.length t.cm) ∧ W.cell? ⟨w.heap.size + 1, 0, none⟩ = some (.int .i64 a1) ∧ W.cell? ⟨w.heap.size + 1, 1, none⟩ = some (.int .i64 a2) ∧ W.cell? ⟨w.heap.size + 1, 2, none⟩ = some (.int .i64 a3) ∧ W.cell? ⟨w.heap.size + 1, 3, none⟩ = some (.int .i64 a4) := by
  obtain ⟨a, b, c, d, e, f, g⟩ := h.cells7
  rw [hn] at a b c d e f
  exact ⟨a, b, c, d, e, f, g, h.bx.cell 0, h.bx.cell 1, h.bx.cell 2, h.bx.cell 3⟩
/-- A rectangle's area as a value. -/
def areaV (ps : List Pt3) (r : Rc4) : Value := .agg #[.int .i64 (cLo ps r : Nat), .int .i64 (cHi ps r : Nat), .int .i64 (rLo ps r : Nat), .int .i64 (rHi ps r : Nat)]

set_option maxRecDepth 100000 in
set_option maxHeartbeats 4000000 in
/-- table.count. -/
theorem count_tab (ps : List Pt3) (t : Tab) (r : Rc4) (w : World) (hV : V2 ps) (hT : TabOf ps t.vs) (hM : TabM w w.heap.size ps t) :
    Calls Try.prog 46 #[t.val ps.length, areaV ps r] w fun e w' => e = .returned (.int .i64 ((insR ps r).length : Nat)) ∧ Below w.heap.size w w' := by
  have hc := c_le hV r
  have H1 := Lib.hid (fun W hW => tbelow_any ps t (cLo ps r) (cHi ps r) (rHi ps r : Nat) W hV hT hc.1 hc.2 hW)
  have H2 := Lib.hid (fun W hW => tbelow_any ps t (cLo ps r) (cHi ps r) (rLo ps r : Nat) W hV hT hc.1 hc.2 hW)
  have htc := tab_count hV hT r
  have hl := insR_len ps r
  have hl0 : 0 ≤ lessI ps.length (fns t.vs) (rLo ps r : Nat) (cLo ps r) (cHi ps r) := num_nonneg _ _ _ _ _ hc.1
  have hl1 : lessI ps.length (fns t.vs) (rHi ps r : Nat) (cLo ps r) (cHi ps r) ≤ ((cHi ps r : Nat) : Int) - (cLo ps r : Nat) := num_le _ _ _ _ _ hc.1
  have hl2 : ((cHi ps r : Nat) : Int) ≤ 150 := by have := hV.x.few; omega
  have HS := Lib.hid (TqAt.start 86 [.int .i64 (cLo ps r : Nat), .int .i64 (cHi ps r : Nat), .int .i64 (rLo ps r : Nat), .int .i64 (rHi ps r : Nat)] hM)
  unfold Tab.cells at HS
  unfold areaV
  unfold Tab.val at H1 H2 ⊢
  have hrr : rLo ps r ≠ rHi ps r ∨ (insR ps r).length = 0 := by
    by_cases e : rLo ps r = rHi ps r
    · right; rw [e] at htc; omega
    · exact .inl e
  generalize lessI ps.length (fns t.vs) (rLo ps r : Nat) (cLo ps r) (cHi ps r) = u at *
  generalize lessI ps.length (fns t.vs) (rHi ps r : Nat) (cLo ps r) (cHi ps r) = v at *
  generalize cLo ps r = a1 at *
  generalize cHi ps r = a2 at *
  generalize rLo ps r = a3 at *
  generalize rHi ps r = a4 at *
  generalize (insR ps r).length = m at *
  obtain ⟨n, hn⟩ : ∃ n, ps.length = n := ⟨_, rfl⟩
  have HN := Lib.hid hn
  rw [hn] at H1 H2 HS ⊢
  have hsub : v - u = (m : Int) := by omega
  have hw : IntKind.i64.wrap (m : Int) = (m : Int) := by rw [IntKind.wrap_i64]; omega
  clear hM hV hT hn htc hl hc hrr
  go_enter Try.func46, Try.ntmps46
  go_wp2_with fail
  have HX0 : Hid (TqAt w ps t 86 [.int .i64 a1, .int .i64 a2, .int .i64 a3, .int .i64 a4] ((w.alloc (.cells #[.slice t.x1 n t.cx1, .slice t.x2 n t.cx2, .slice t.x3 n t.cx3, .slice t.y1 n t.cy1, .slice t.y2 n t.cy2, .slice t.y3 n t.cy3, .slice t.m t.vs.length t.cm] 80)).alloc (.cells #[.int .i64 a1, .int .i64 a2, .int .i64 a3, .int .i64 a4] 86))) := HS
  clear HS
  generalize (w.alloc (.cells #[.slice t.x1 n t.cx1, .slice t.x2 n t.cx2, .slice t.x3 n t.cx3, .slice t.y1 n t.cy1, .slice t.y2 n t.cy2, .slice t.y3 n t.cy3, .slice t.m t.vs.length t.cm] 80)).alloc (.cells #[.int .i64 a1, .int .i64 a2, .int .i64 a3, .int .i64 a4] 86) = W0 at *
  obtain ⟨d0, d1, d2, d3, d4, d5, d6, d7, d8, d9, d10⟩ := HX0.out.c HN.out
  go_region_held3 (fun W => W.cell? ⟨w.heap.size, 0, none⟩ = some (.slice t.x1 n t.cx1) ∧ W.cell? ⟨w.heap.size, 1, none⟩ = some (.slice t.x2 n t.cx2) ∧ W.cell? ⟨w.heap.size, 2, none⟩ = some (.slice t.x3 n t.cx3) ∧ W.cell? ⟨w.heap.size, 3, none⟩ = some (.slice t.y1 n t.cy1) ∧ W.cell? ⟨w.heap.size, 4, none⟩ = some (.slice t.y2 n t.cy2) ∧ W.cell? ⟨w.heap.size, 5, none⟩ = some (.slice t.y3 n t.cy3) ∧ W.cell? ⟨w.heap.size, 6, none⟩ = some (.slice t.m t.vs.length t.cm) ∧ W.cell? ⟨w.heap.size + 1, 0, none⟩ = some (.int .i64 a1) ∧ W.cell? ⟨w.heap.size + 1, 1, none⟩ = some (.int .i64 a2) ∧ W.cell? ⟨w.heap.size + 1, 2, none⟩ = some (.int .i64 a3) ∧ W.cell? ⟨w.heap.size + 1, 3, none⟩ = some (.int .i64 a4))
    (first | exact HX0.out.c HN.out | exact HF1.out.c HN.out | exact HE.out.c HN.out)
    (first
      | (go_at_call_of 67 (Value.int .i64 (a4 : Int)); refine (H1.out _ ?_).mono ?_; exact HX0.out.drew.mem; rintro e w2 ⟨rfl, hb2⟩; have HF1 := Lib.hid (HX0.out.drew.on hb2); clear H1)
      | (go_at_call_of 67 (Value.int .i64 (a3 : Int)); refine (H2.out _ ?_).mono ?_; exact HX0.out.drew.mem; rintro e w2 ⟨rfl, hb2⟩; have HF1 := Lib.hid (HX0.out.drew.on hb2); clear H2)
      | (go_at_call_of 67 (Value.int .i64 (a4 : Int)); refine (H1.out _ ?_).mono ?_; exact HF1.out.mem; rintro e w3 ⟨rfl, hb3⟩; have HE := Lib.hid (HF1.out.on hb3))
      | (go_at_call_of 67 (Value.int .i64 (a3 : Int)); refine (H2.out _ ?_).mono ?_; exact HF1.out.mem; rintro e w3 ⟨rfl, hb3⟩; have HE := Lib.hid (HF1.out.on hb3)))
  all_goals
    clear d0 d1 d2 d3 d4 d5 d6 d7 d8 d9 d10
    go_wp2_with fail
    go_ret
    exact ⟨rfl, HE.out.bel⟩
end Go.Proofs.Ytpkclmfadlkbeaa

namespace Go.Proofs.Ytpkclmfadlkbeaa
open Go.RowKit Go.Sort Words

/-- A new row of places, its caller's own. -/
def GivesPl (w : World) (l : List Nat) (e : Ending) (w' : World) : Prop := ∃ v, e = .returned v ∧ w'.ownsRow w.heap.size 3 1 v l.length (natC l) ∧ Below w.heap.size w w'
/-- The points gathered of the first i. -/
def pkTo (l : List Nat) (p : Nat → Bool) (i : Nat) : List Nat := (l.take i).filter p
theorem pkTo_zero (l : List Nat) (p : Nat → Bool) : pkTo l p 0 = [] := rfl
theorem pkTo_all (l : List Nat) (p : Nat → Bool) : pkTo l p l.length = l.filter p := by unfold pkTo; rw [List.take_length]
theorem pkTo_yes {l : List Nat} {p : Nat → Bool} {i x : Nat} (h : l[i]? = some x) (hp : p x = true) : pkTo l p (i + 1) = pkTo l p i ++ [x] := by
  unfold pkTo
  rw [List.take_add_one, h, Option.toList_some, List.filter_append]
  simp [hp]
theorem pkTo_no {l : List Nat} {p : Nat → Bool} {i x : Nat} (h : l[i]? = some x) (hp : p x = false) : pkTo l p (i + 1) = pkTo l p i := by
  unfold pkTo
  rw [List.take_add_one, h, Option.toList_some, List.filter_append]
  simp [hp]
theorem pkTo_length (l : List Nat) (p : Nat → Bool) (i : Nat) : (pkTo l p i).length ≤ i := by
  unfold pkTo
  exact Nat.le_trans (List.length_filter_le _ _) (by simp; omega)

set_option maxRecDepth 100000 in
set_option maxHeartbeats 4000000 in
/-- table.points. -/
theorem points_tab (ps : List Pt3) (t : Tab) (r : Rc4) (w : World) (hV : V2 ps) (hcap : ps.length ≤ t.cx2 ∧ (t.x2 = none → t.cx2 = 0)) (hM : TabM w w.heap.size ps t) :
    Calls Try.prog 69 #[t.val ps.length, areaV ps r] w (GivesPl w (ssort (ltP ps ltX) (insR ps r))) := by
  have hc := c_le hV r
  have hn150 := hV.x.few
  have hpt := tab_points hV r
  have hs := TqAt.start 86 [.int .i64 (cLo ps r : Nat), .int .i64 (cHi ps r : Nat), .int .i64 (rLo ps r : Nat), .int .i64 (rHi ps r : Nat)] hM
  obtain ⟨A3, hrun, hl3, _⟩ := slice_row (P := Try.prog) 31 (by kernel_rfl) (fun W => by kernel_rfl) hc.1 hc.2 hcap.1 hM.x.pts (by rw [natC_length, ordL_length hV.x]) hcap.2
  have hcut : ((natC (ordL ps Pt3.x Pt3.y)).drop (cLo ps r)).take (cHi ps r - cLo ps r) = natC (((ordL ps Pt3.x Pt3.y).drop (cLo ps r)).take (cHi ps r - cLo ps r)) := by unfold natC; rw [List.map_take, List.map_drop]
  rw [hcut] at hl3
  have hcl : (((ordL ps Pt3.x Pt3.y).drop (cLo ps r)).take (cHi ps r - cLo ps r)).length = cHi ps r - cLo ps r := by rw [List.length_take, List.length_drop, ordL_length hV.x]; omega
  have hin : ∀ x ∈ ((ordL ps Pt3.x Pt3.y).drop (cLo ps r)).take (cHi ps r - cLo ps r), x < ps.length := fun x hx => (ordL_mem hV.x).1 (List.mem_of_mem_drop (List.mem_of_mem_take hx))
  generalize ((ordL ps Pt3.x Pt3.y).drop (cLo ps r)).take (cHi ps r - cLo ps r) = cs at *
  rw [← hpt]
  have HS := Lib.hid hs
  unfold Tab.cells at HS
  unfold areaV Tab.val
  have HPl := Lib.hid (fun j (h : j < ps.length) => show ((List.range ps.length).map (plc ps Pt3.y Pt3.x))[j]? = some (plc ps Pt3.y Pt3.x j) by rw [List.getElem?_map, List.getElem?_range h]; rfl)
  have hr := r_le hV r
  obtain ⟨P, hP⟩ : ∃ P : Nat → Bool, (fun i => decide (rLo ps r ≤ plc ps Pt3.y Pt3.x i) && decide (plc ps Pt3.y Pt3.x i < rHi ps r)) = P := ⟨_, rfl⟩
  have HP := Lib.hid (fun i => show P i = (decide (rLo ps r ≤ plc ps Pt3.y Pt3.x i) && decide (plc ps Pt3.y Pt3.x i < rHi ps r)) by rw [← hP])
  rw [hP]
  generalize cLo ps r = a1 at *
  generalize cHi ps r = a2 at *
  generalize rLo ps r = a3 at *
  generalize rHi ps r = a4 at *
  obtain ⟨n, hn⟩ : ∃ n, ps.length = n := ⟨_, rfl⟩
  have HN := Lib.hid hn
  rw [hn] at HS hrun hn150 hc hr hin HPl ⊢
  have hcx : n ≤ t.cx2 := by have := hcap.1; omega
  have HL3 := Lib.hid hl3
  have HCl := Lib.hid hcl
  have HIn := Lib.hid hin
  have hca : ((a2 : Int) - (a1 : Int)) = ((a2 - a1 : Nat) : Int) := by omega
  have hcb : a2 - a1 ≤ 150 := by omega
  have hc1 := hc.1
  have hc2 := hc.2
  clear hM hV hs hn hpt hP hcap hl3 hcl hin hcut hc
  generalize hmm : a2 - a1 = m at *
  generalize hmc : t.cx2 - a1 = mc at *
  clear hmm hmc
  go_enter Try.func69, Try.ntmps69
  go_wp2_with fail
  have HX0 : Hid (TqAt w ps t 86 [.int .i64 a1, .int .i64 a2, .int .i64 a3, .int .i64 a4] ((w.alloc (.cells #[.slice t.x1 n t.cx1, .slice t.x2 n t.cx2, .slice t.x3 n t.cx3, .slice t.y1 n t.cy1, .slice t.y2 n t.cy2, .slice t.y3 n t.cy3, .slice t.m t.vs.length t.cm] 80)).alloc (.cells #[.int .i64 a1, .int .i64 a2, .int .i64 a3, .int .i64 a4] 86))) := HS
  clear HS
  generalize (w.alloc (.cells #[.slice t.x1 n t.cx1, .slice t.x2 n t.cx2, .slice t.x3 n t.cx3, .slice t.y1 n t.cy1, .slice t.y2 n t.cy2, .slice t.y3 n t.cy3, .slice t.m t.vs.length t.cm] 80)).alloc (.cells #[.int .i64 a1, .int .i64 a2, .int .i64 a3, .int .i64 a4] 86) = W0 at *
  have HL0 := Lib.hid (HL3.out.below HX0.out.bel)
  have hsz := HX0.out.bel.size
  go_loopw [5, 20] (fun v u w' => ∃ i : Nat, i ≤ m ∧ u = .int .i64 i ∧ w'.ownsRow W0.heap.size 3 1 v (pkTo cs P i).length (natC (pkTo cs P i)) ∧ Below W0.heap.size W0 w') (fun _ u _ => m - (intOf u).toNat)
  case atStart => exact ⟨0, Nat.zero_le _, rfl, World.ownsRow_nil _ _ _ _, Below.refl _ _⟩
  case round =>
    obtain ⟨i, hi, rfl, hown, hbl⟩ := hrel
    have HO := Lib.hid hown
    have HB := Lib.hid hbl
    by_cases hlt : i < m
    · obtain ⟨b, o, x, rfl, hb, hx, hcx⟩ := Lies.at_ (f := fun x : Nat => Value.int .i64 (x : Int)) (l := cs) (HL0.out.keep fun q hq => hbl.cell (p := q) (by omega)) (k := i) (by rw [HCl.out]; exact hlt)
      have hxn := HIn.out x (List.mem_of_getElem? hx)
      obtain ⟨d0, d1, d2, d3, d4, d5, d6, d7, d8, d9, d10⟩ := (HX0.out.on hbl).c HN.out
      obtain ⟨b2, o2, y, hy3, hb2, hy, hcy⟩ := Lies.at_ (f := fun x : Nat => Value.int .i64 (x : Int)) (l := (List.range ps.length).map (plc ps Pt3.y Pt3.x)) (HX0.out.on hbl).mem.y.plcs (k := x) (by simp; rw [HN.out]; exact hxn)
      obtain rfl : plc ps Pt3.y Pt3.x x = y := by
        have := HPl.out x hxn
        rw [HN.out] at hy
        exact Option.some.inj (this.symm.trans hy)
      rw [hy3] at d5
      have hil : (i : Int) < (m : Int) := by omega
      have hxi : (x : Int) < (n : Int) := by omega
      have HY := Lib.hid (fun h => pkTo_yes (p := P) hx h)
      have HNo := Lib.hid (fun h => pkTo_no (p := P) hx h)
      have HPx := HP.out x
      have hkl := pkTo_length cs P i
      have hszr := hbl.size
      clear hx hy hy3 hown hbl
      generalize plc ps Pt3.y Pt3.x x = y at *
      generalize pkTo cs P i = k at *
      obtain ⟨kn, hkn⟩ : ∃ kn, k.length = kn := ⟨_, rfl⟩
      have HKn := Lib.hid hkn
      rw [hkn] at HO hkl
      clear hkn
      by_cases h1 : a3 ≤ y
      · by_cases h2 : y < a4
        · have HEq := Lib.hid (HY.out (by rw [HPx]; simp [h1, h2]))
          clear HY HNo HPx
          go_wp2_with (at_builtin; go_loud (refine append_one _ rfl (.tmp 42) (.tmp 44) 31 rfl W0.heap.size 3 (.int .i64 0) 8 Try.underlying31 oint_info rfl u5 kn _ rfl (HO.out.alloc _) wr.heap.size 1 (.int .i64 x) rfl (by simp) rfl (by simp only [maxLen]; omega) (by omega) (by simp; omega) ?_))
          intro v1 w3 hown1 hg1
          have HB3 := Lib.hid ((HB.out.alloc hszr _).grown hg1 (by simp; omega) (fun q hq => (HO.out.lt q hq).1))
          have HO3 := Lib.hid hown1
          clear hown1 hg1
          go_wp2_with fail
          go_roundw
          case rel => exact ⟨i + 1, by omega, by go_num, by rw [HEq.out, List.length_append, HKn.out, natC_snoc]; exact HO3.out, HB3.out⟩
          case measure => simp [intOf]; omega
        · have HEq := Lib.hid (HNo.out (by rw [HPx]; simp [h2]))
          clear HY HNo HPx
          go_wp2_with fail
          go_roundw
          case rel => exact ⟨i + 1, by omega, by go_num, by rw [HEq.out, HKn.out]; exact HO.out, HB.out⟩
          case measure => simp [intOf]; omega
      · have HEq := Lib.hid (HNo.out (by rw [HPx]; simp [h1]))
        clear HY HNo HPx
        go_wp2_with fail
        go_roundw
        case rel => exact ⟨i + 1, by omega, by go_num, by rw [HEq.out, HKn.out]; exact HO.out, HB.out⟩
        case measure => simp [intOf]; omega
    · obtain rfl : m = i := by omega
      have HAl := Lib.hid (show pkTo cs P m = cs.filter P by rw [← HCl.out]; exact pkTo_all cs P)
      rw [HAl.out] at HO
      clear hown hbl
      go_wp2_with fail
      go_ret
      exact ⟨_, rfl, own_base HO.out hsz, HX0.out.bel.trans (HB.out.mono hsz)⟩
end Go.Proofs.Ytpkclmfadlkbeaa

namespace Go.Proofs.Ytpkclmfadlkbeaa
open Go.RowKit Go.Sort

set_option maxHeartbeats 1000000 in
theorem gcount_err (A : Option Addr) (ps : List Pt3) (c : Nat) (r : Rc4) (w : World) (hb : ps.length ≤ 17592186044416) (hL : Lies w w.heap.size A (ptC ps)) (he : ptsF ps ≠ 0) :
    Calls Try.prog 25 #[.slice A ps.length c, r.val] w (TellsG w 0 (ptsF ps)) := by
  have HP := Lib.hid (fun W (h : Below w.heap.size w W) => gck_any A ps c W hb (hL.on h))
  have hc := ptsF_cases ps
  unfold Rc4.val
  have HB := Lib.hid (bnew w (.cells #[.int .i64 r.x0, .int .i64 r.y0, .int .i64 r.x1, .int .i64 r.y1] 57))
  generalize ptsF ps = z at *
  generalize ps.length = n at *
  have hz : (z != 0) = true := by simpa using he
  clear hL he
  go_enter Try.func25, Try.ntmps25
  go_wp2_with fail
  refine (HP.out _ HB.out).mono ?_
  rintro e w1 ⟨rfl, hb1⟩
  go_wp2_with fail
  go_ret2
  exact ⟨rfl, chain HB.out hb1⟩

set_option maxHeartbeats 1000000 in
theorem greport_err (A : Option Addr) (ps : List Pt3) (c : Nat) (r : Rc4) (w : World) (hb : ps.length ≤ 17592186044416) (hL : Lies w w.heap.size A (ptC ps)) (he : ptsF ps ≠ 0) :
    Calls Try.prog 49 #[.slice A ps.length c, r.val] w (NoGL w (ptsF ps)) := by
  have HP := Lib.hid (fun W (h : Below w.heap.size w W) => gck_any A ps c W hb (hL.on h))
  have hc := ptsF_cases ps
  unfold Rc4.val
  have HB := Lib.hid (bnew w (.cells #[.int .i64 r.x0, .int .i64 r.y0, .int .i64 r.x1, .int .i64 r.y1] 57))
  generalize ptsF ps = z at *
  generalize ps.length = n at *
  have hz : (z != 0) = true := by simpa using he
  clear hL he
  go_enter Try.func49, Try.ntmps49
  go_wp2_with fail
  refine (HP.out _ HB.out).mono ?_
  rintro e w1 ⟨rfl, hb1⟩
  go_wp2_with fail
  go_ret2
  exact ⟨rfl, chain HB.out hb1⟩

/-- The boxes of a rectangle and of a table. -/
structure GoAt (w : World) (g : Nat) (ps : List Pt3) (t : Tab) (r : Rc4) (W : World) : Prop where
  rc : Blk W w.heap.size 57 [.int .i64 r.x0, .int .i64 r.y0, .int .i64 r.x1, .int .i64 r.y1]
  tb : Blk W g 80 (t.cells ps.length)
  mem : TabM W W.heap.size ps t
  bel : Below w.heap.size w W
theorem GoAt.on {w : World} {g : Nat} {ps : List Pt3} {t : Tab} {r : Rc4} {W W' : World} (h : GoAt w g ps t r W) (hb : Below W.heap.size W W') : GoAt w g ps t r W' := ⟨h.rc.below hb h.rc.lt, h.tb.below hb h.tb.lt, h.mem.on hb, chain h.bel hb⟩
theorem GoAt.drew {w : World} {g : Nat} {ps : List Pt3} {t : Tab} {r : Rc4} {W : World} (h : GoAt w g ps t r W) : GoAt w g ps t r W.drew := ⟨h.rc.drew, h.tb.drew, ⟨⟨h.mem.x.keys.drew, h.mem.x.pts.drew, h.mem.x.plcs.drew⟩, ⟨h.mem.y.keys.drew, h.mem.y.pts.drew, h.mem.y.plcs.drew⟩, h.mem.m.drew⟩, h.bel.drew⟩
theorem GoAt.start {w w2 : World} {ps : List Pt3} {t : Tab} {r : Rc4} (hr : Blk w2 w.heap.size 57 [.int .i64 r.x0, .int .i64 r.y0, .int .i64 r.x1, .int .i64 r.y1]) (hM : TabM w2 w2.heap.size ps t) (hb : Below w.heap.size w w2) : GoAt w w2.heap.size ps t r (w2.alloc (.cells (t.cells ps.length).toArray 80)) :=
  ⟨hr.alloc _, Blk.new w2 _ _, hM.alloc _, chain hb (bnew w2 _)⟩
theorem GoAt.c {w : World} {g : Nat} {ps : List Pt3} {t : Tab} {r : Rc4} {n : Nat} (hn : ps.length = n) {W : World} (h : GoAt w g ps t r W) : W.cell? ⟨w.heap.size, 0, none⟩ = some (.int .i64 r.x0) ∧ W.cell? ⟨w.heap.size, 1, none⟩ = some (.int .i64 r.y0) ∧ W.cell? ⟨w.heap.size, 2, none⟩ = some (.int .i64 r.x1) ∧ W.cell? ⟨w.heap.size, 3, none⟩ = some (.int .i64 r.y1) ∧ W.cell? ⟨g, 0, none⟩ = some (.slice t.x1 n t.cx1) ∧ W.cell? ⟨g, 1, none⟩ = some (.slice t.x2 n t.cx2) ∧ W.cell? ⟨g, 2, none⟩ = some (.slice t.x3 n t.cx3) ∧ W.cell? ⟨g, 3, none⟩ = some (.slice t.y1 n t.cy1) ∧ W.cell? ⟨g, 4, none⟩ = some (.slice t.y2 n t.cy2) ∧ W.cell? ⟨g, 5, none⟩ = some (.slice t.y3 n t.cy3) ∧ W.cell? ⟨g, 6, none⟩ = some (.slice t.m t.vs.length t.cm) := by
  have hA := h.tb
  unfold Tab.cells at hA
  rw [hn] at hA
  exact ⟨h.rc.cell 0, h.rc.cell 1, h.rc.cell 2, h.rc.cell 3, hA.cell 0, hA.cell 1, hA.cell 2, hA.cell 3, hA.cell 4, hA.cell 5, hA.cell 6⟩
theorem fits_low {r : Rc4} (h : r.Fits) : -9223372036854775808 ≤ r.x1 ∧ -9223372036854775808 ≤ r.y1 := ⟨(bounds_i64 h.2.2.1).1, (bounds_i64 h.2.2.2).1⟩

set_option maxRecDepth 100000 in
set_option maxHeartbeats 4000000 in
/-- grid.Count of points that may be. -/
theorem gcount_ok (A : Option Addr) (ps : List Pt3) (c : Nat) (r : Rc4) (w : World) (he : ptsF ps = 0) (hr : r.Fits) (hL : Lies w w.heap.size A (ptC ps)) :
    Calls Try.prog 25 #[.slice A ps.length c, r.val] w (TellsG w (insR ps r).length 0) := by
  have hV := v2_of he
  have hb : ps.length ≤ 17592186044416 := by have := hV.x.few; omega
  have hp := fun W (h : Below w.heap.size w W) => gck_any A ps c W hb (hL.on h)
  rw [he] at hp
  have HP := Lib.hid hp
  have HT := Lib.hid (fun W (h : Below w.heap.size w W) => mktable_any A ps c W hV (hL.on h))
  have HFd := Lib.hid (fun t W hM => find_tab ps t r W hV (fits_low hr) hM)
  have HCn := Lib.hid (fun t W hT hM => count_tab ps t r W hV hT hM)
  have HB := Lib.hid (bnew w (.cells #[.int .i64 r.x0, .int .i64 r.y0, .int .i64 r.x1, .int .i64 r.y1] 57))
  have HK := Lib.hid (Blk.new w 57 [.int .i64 r.x0, .int .i64 r.y0, .int .i64 r.x1, .int .i64 r.y1])
  unfold GivesTb at HT
  unfold areaV at HCn
  simp only [Tab.val] at HT HFd HCn
  unfold Rc4.val at HFd ⊢
  generalize (insR ps r).length = m at *
  generalize cLo ps r = a1 at *
  generalize cHi ps r = a2 at *
  generalize rLo ps r = a3 at *
  generalize rHi ps r = a4 at *
  obtain ⟨n, hn⟩ : ∃ n, ps.length = n := ⟨_, rfl⟩
  have HN := Lib.hid hn
  rw [hn] at HP HT HFd HCn ⊢
  clear hL hp he hr hV hb hn
  go_enter Try.func25, Try.ntmps25
  go_wp2_with fail
  refine (HP.out _ HB.out).mono ?_
  rintro e w1 ⟨rfl, hb1⟩
  have HB1 := Lib.hid (chain HB.out hb1)
  have HK1 := Lib.hid (HK.out.below hb1 HK.out.lt)
  clear hb1
  go_wp2_with fail
  refine (HT.out _ HB1.out).mono ?_
  rintro e w2 ⟨t, rfl, hM, hTo, hcap, hb2⟩
  have HX0 := Lib.hid (GoAt.start (HK1.out.below hb2 HK1.out.lt) hM (chain HB1.out hb2))
  unfold Tab.cells at HX0
  rw [HN.out] at HX0
  have HTo := Lib.hid hTo
  have HCap := Lib.hid hcap
  clear hM hTo hcap hb2
  go_wp2_with fail
  generalize hg : w2.heap.size = g at *
  have HX1 : Hid (GoAt w g ps t r (w2.alloc (.cells #[.slice t.x1 n t.cx1, .slice t.x2 n t.cx2, .slice t.x3 n t.cx3, .slice t.y1 n t.cy1, .slice t.y2 n t.cy2, .slice t.y3 n t.cy3, .slice t.m t.vs.length t.cm] 80))) := HX0
  clear HX0
  generalize (w2.alloc (.cells #[.slice t.x1 n t.cx1, .slice t.x2 n t.cx2, .slice t.x3 n t.cx3, .slice t.y1 n t.cy1, .slice t.y2 n t.cy2, .slice t.y3 n t.cy3, .slice t.m t.vs.length t.cm] 80)) = W0 at *
  clear hg
  obtain ⟨d0, d1, d2, d3, d4, d5, d6, d7, d8, d9, d10⟩ := HX1.out.c HN.out
  go_region_held3 (fun W => W.cell? ⟨w.heap.size, 0, none⟩ = some (.int .i64 r.x0) ∧ W.cell? ⟨w.heap.size, 1, none⟩ = some (.int .i64 r.y0) ∧ W.cell? ⟨w.heap.size, 2, none⟩ = some (.int .i64 r.x1) ∧ W.cell? ⟨w.heap.size, 3, none⟩ = some (.int .i64 r.y1) ∧ W.cell? ⟨g, 0, none⟩ = some (.slice t.x1 n t.cx1) ∧ W.cell? ⟨g, 1, none⟩ = some (.slice t.x2 n t.cx2) ∧ W.cell? ⟨g, 2, none⟩ = some (.slice t.x3 n t.cx3) ∧ W.cell? ⟨g, 3, none⟩ = some (.slice t.y1 n t.cy1) ∧ W.cell? ⟨g, 4, none⟩ = some (.slice t.y2 n t.cy2) ∧ W.cell? ⟨g, 5, none⟩ = some (.slice t.y3 n t.cy3) ∧ W.cell? ⟨g, 6, none⟩ = some (.slice t.m t.vs.length t.cm))
    (first | exact HX1.out.c HN.out | exact HF1.out.c HN.out | exact HE.out.c HN.out)
    (first
      | (go_at_call 47; refine (HFd.out t _ ?_).mono ?_; exact HX1.out.drew.mem; rintro e w3 ⟨rfl, hb3⟩; have HF1 := Lib.hid (HX1.out.drew.on hb3))
      | (go_at_call 46; refine (HCn.out t _ HTo.out ?_).mono ?_; exact HF1.out.mem; rintro e w4 ⟨rfl, hb4⟩; have HE := Lib.hid (HF1.out.on hb4)))
  all_goals
    clear d0 d1 d2 d3 d4 d5 d6 d7 d8 d9 d10
    go_wp2_with fail
    go_ret2
    exact ⟨rfl, HE.out.bel⟩

set_option maxRecDepth 100000 in
set_option maxHeartbeats 4000000 in
/-- grid.Report of points that may be. -/
theorem greport_ok (A : Option Addr) (ps : List Pt3) (c : Nat) (r : Rc4) (w : World) (he : ptsF ps = 0) (hr : r.Fits) (hL : Lies w w.heap.size A (ptC ps)) :
    Calls Try.prog 49 #[.slice A ps.length c, r.val] w (GivesGL w (ssort (ltP ps ltX) (insR ps r))) := by
  have hV := v2_of he
  have hb : ps.length ≤ 17592186044416 := by have := hV.x.few; omega
  have hp := fun W (h : Below w.heap.size w W) => gck_any A ps c W hb (hL.on h)
  rw [he] at hp
  have HP := Lib.hid hp
  have HT := Lib.hid (fun W (h : Below w.heap.size w W) => mktable_any A ps c W hV (hL.on h))
  have HFd := Lib.hid (fun t W hM => find_tab ps t r W hV (fits_low hr) hM)
  have HCn := Lib.hid (fun t W hC hM => points_tab ps t r W hV hC hM)
  have HB := Lib.hid (bnew w (.cells #[.int .i64 r.x0, .int .i64 r.y0, .int .i64 r.x1, .int .i64 r.y1] 57))
  have HK := Lib.hid (Blk.new w 57 [.int .i64 r.x0, .int .i64 r.y0, .int .i64 r.x1, .int .i64 r.y1])
  unfold GivesTb at HT
  unfold areaV GivesPl at HCn
  simp only [Tab.val] at HT HFd HCn
  unfold Rc4.val at HFd ⊢
  unfold GivesGL
  generalize ssort (ltP ps ltX) (insR ps r) = L at *
  generalize cLo ps r = a1 at *
  generalize cHi ps r = a2 at *
  generalize rLo ps r = a3 at *
  generalize rHi ps r = a4 at *
  obtain ⟨n, hn⟩ : ∃ n, ps.length = n := ⟨_, rfl⟩
  have HN := Lib.hid hn
  rw [hn] at HP HT HFd HCn ⊢
  clear hL hp he hr hV hb hn
  go_enter Try.func49, Try.ntmps49
  go_wp2_with fail
  refine (HP.out _ HB.out).mono ?_
  rintro e w1 ⟨rfl, hb1⟩
  have HB1 := Lib.hid (chain HB.out hb1)
  have HK1 := Lib.hid (HK.out.below hb1 HK.out.lt)
  clear hb1
  go_wp2_with fail
  refine (HT.out _ HB1.out).mono ?_
  rintro e w2 ⟨t, rfl, hM, hTo, hcap, hb2⟩
  have HX0 := Lib.hid (GoAt.start (HK1.out.below hb2 HK1.out.lt) hM (chain HB1.out hb2))
  unfold Tab.cells at HX0
  rw [HN.out] at HX0
  have HTo := Lib.hid hTo
  have HCap := Lib.hid hcap
  clear hM hTo hcap hb2
  go_wp2_with fail
  generalize hg : w2.heap.size = g at *
  have HX1 : Hid (GoAt w g ps t r (w2.alloc (.cells #[.slice t.x1 n t.cx1, .slice t.x2 n t.cx2, .slice t.x3 n t.cx3, .slice t.y1 n t.cy1, .slice t.y2 n t.cy2, .slice t.y3 n t.cy3, .slice t.m t.vs.length t.cm] 80))) := HX0
  clear HX0
  generalize (w2.alloc (.cells #[.slice t.x1 n t.cx1, .slice t.x2 n t.cx2, .slice t.x3 n t.cx3, .slice t.y1 n t.cy1, .slice t.y2 n t.cy2, .slice t.y3 n t.cy3, .slice t.m t.vs.length t.cm] 80)) = W0 at *
  clear hg
  have hsz := HX1.out.bel.size
  obtain ⟨d0, d1, d2, d3, d4, d5, d6, d7, d8, d9, d10⟩ := HX1.out.c HN.out
  go_region_held3 (fun W => W.cell? ⟨w.heap.size, 0, none⟩ = some (.int .i64 r.x0) ∧ W.cell? ⟨w.heap.size, 1, none⟩ = some (.int .i64 r.y0) ∧ W.cell? ⟨w.heap.size, 2, none⟩ = some (.int .i64 r.x1) ∧ W.cell? ⟨w.heap.size, 3, none⟩ = some (.int .i64 r.y1) ∧ W.cell? ⟨g, 0, none⟩ = some (.slice t.x1 n t.cx1) ∧ W.cell? ⟨g, 1, none⟩ = some (.slice t.x2 n t.cx2) ∧ W.cell? ⟨g, 2, none⟩ = some (.slice t.x3 n t.cx3) ∧ W.cell? ⟨g, 3, none⟩ = some (.slice t.y1 n t.cy1) ∧ W.cell? ⟨g, 4, none⟩ = some (.slice t.y2 n t.cy2) ∧ W.cell? ⟨g, 5, none⟩ = some (.slice t.y3 n t.cy3) ∧ W.cell? ⟨g, 6, none⟩ = some (.slice t.m t.vs.length t.cm))
    (first | exact HX1.out.c HN.out | exact HF1.out.c HN.out | exact HE.out.c HN.out)
    (first
      | (go_at_call 47; refine (HFd.out t _ ?_).mono ?_; exact HX1.out.drew.mem; rintro e w3 ⟨rfl, hb3⟩; have HF1 := Lib.hid (HX1.out.drew.on hb3))
      | (go_at_call 69; refine (HCn.out t _ HCap.out ?_).mono ?_; exact HF1.out.mem; rintro e w4 ⟨v, rfl, hown, hb4⟩; obtain ⟨A2, c2, rfl, hle, _, hl2, hn2, hnew⟩ := own_slice hown; have HE := Lib.hid (HF1.out.on hb4); have HW := Lib.hid (show L.length ≤ c2 ∧ Lies w4 w4.heap.size A2 (natC L) ∧ (A2 = none → c2 = 0) ∧ New w3.heap.size A2 from ⟨hle, hl2, hn2, hnew⟩); clear hown hle hl2 hn2 hnew))
  all_goals
    clear d0 d1 d2 d3 d4 d5 d6 d7 d8 d9 d10
    go_wp2_with fail
    go_ret2
    exact ⟨A2, c2, rfl, HW.out.1, HW.out.2.1, HW.out.2.2.1, HW.out.2.2.2.mono HF1.out.bel.size, HE.out.bel⟩

end Go.Proofs.Ytpkclmfadlkbeaa
