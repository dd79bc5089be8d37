/-
  What wave.makeLevel returns: contracts, walked over the translated text. What wave.Make returns: contracts, walked over the translated text. No condition but what each theorem names.
-/
import Derived.Test.YtpkclmfadlkbeaaJ11
import Derived.Test.YtpkclmfadlkbeaaJ10
import Derived.Test.YtpkclmfadlkbeaaJ01
import Derived.Test.YtpkclmfadlkbeaaJ02
import Derived.Deep.AppendLies
import Derived.Deep.Cut
import Derived.Test.YtpkclmfadlkbeaaJ07
namespace Go.Proofs.Ytpkclmfadlkbeaa
open Go.RowKit Words

theorem wbool_info : (Try.prog.info? 4).map (fun i => (i.zero, i.size, i.bytes)) = some (some (.bool false), 1, 1) := by kernel_rfl

/-- The numbers of the first i places whose digit is 0, and those whose digit is 1. -/
def zsP (p : Nat) (ns : List Nat) (i : Nat) : List Nat := (ns.take i).filter fun x => !x.testBit p
def osP (p : Nat) (ns : List Nat) (i : Nat) : List Nat := (ns.take i).filter fun x => x.testBit p
theorem zsP_zero (p : Nat) (ns : List Nat) (i x : Nat) (h : ns[i]? = some x) (hb : x.testBit p = false) : zsP p ns (i + 1) = zsP p ns i ++ [x] ∧ osP p ns (i + 1) = osP p ns i := by
  unfold zsP osP
  rw [List.take_add_one, h]
  simp [List.filter_append, hb]
theorem zsP_one (p : Nat) (ns : List Nat) (i x : Nat) (h : ns[i]? = some x) (hb : x.testBit p = true) : zsP p ns (i + 1) = zsP p ns i ∧ osP p ns (i + 1) = osP p ns i ++ [x] := by
  unfold zsP osP
  rw [List.take_add_one, h]
  simp [List.filter_append, hb]
theorem zsP_all (p : Nat) (ns : List Nat) : zsP p ns ns.length ++ osP p ns ns.length = nxt p ns := by unfold zsP osP nxt; rw [List.take_length]
theorem zsP_le (p : Nat) (ns : List Nat) (i : Nat) : (zsP p ns i).length ≤ i ∧ (osP p ns i).length ≤ i := by
  unfold zsP osP
  have h1 := List.length_filter_le (fun x : Nat => !x.testBit p) (ns.take i)
  have h2 := List.length_filter_le (fun x : Nat => x.testBit p) (ns.take i)
  rw [List.length_take] at h1 h2
  omega

theorem digs_cell (p : Nat) (ns : List Nat) (i x : Nat) (h : ns[i]? = some x) : ((digs10 p ns).map Value.bool)[i]? = some (.bool (x.testBit p)) := by simp [digs10, h]

/-- Memory while a level is made. -/
structure LvAt (w : World) (nz no : Nat) (R : List Value) (zs os : List Nat) (Z O : Value) (W : World) : Prop where
  res : Blk W w.heap.size 67 [.int .i64 0, .slice none 0 0]
  ones : Blk W (w.heap.size + 1) 4 R
  hal : Blk W (w.heap.size + 2) 94 [Z, O]
  zer : W.ownsRow (w.heap.size + 3) 3 1 Z nz (natC zs)
  one : W.ownsRow (w.heap.size + 3) 3 1 O no (natC os)
  apart : ∀ q, Z.ownBlock = some q → O.ownBlock ≠ some q
  bel : Below w.heap.size w W

theorem LvAt.zapp {w : World} {nz no : Nat} {R : List Value} {zs os : List Nat} {Z O : Value} {W : World} (h : LvAt w nz no R zs os Z O W) {o : Obj} {x : Nat} {Z' : Value} {W' : World}
    (hown : W'.ownsRow (w.heap.size + 3) 3 1 Z' (nz + 1) (natC zs ++ [.int .i64 (x : Int)])) (hg : (W.alloc o).grownBy W' Z.ownBlock) (hat : Z'.ownBlock = Z.ownBlock ∨ Z'.ownBlock = some (W.alloc o).heap.size) :
    LvAt w (nz + 1) no R (zs ++ [x]) os Z' O (W'.setCell ⟨w.heap.size + 2, 0, none⟩ Z') ∧ Blk W' (w.heap.size + 2) 94 [Z, O] := by
  have hk : ∀ q, q < W.heap.size → some q ≠ Z.ownBlock → W'.heap[q]? = W.heap[q]? := fun q hq hne => (hg.block q (by simp; omega) hne).trans (Below.heap_alloc W o q hq)
  have hz : ∀ q, q < w.heap.size + 3 → some q ≠ Z.ownBlock := fun q hq e => by have := (h.zer.lt q e.symm).1; omega
  have l1 := h.res.lt
  have l2 := h.ones.lt
  have l3 := h.hal.lt
  have hs : ∀ q, q ≠ w.heap.size + 2 → (W'.setCell ⟨w.heap.size + 2, 0, none⟩ Z').heap[q]? = W'.heap[q]? := fun q hq => Below.heap_setCell W' _ _ q hq
  have hhal : Blk W' (w.heap.size + 2) 94 [Z, O] := (hk _ l3 (hz _ (by omega))).trans h.hal
  refine ⟨⟨(hs _ (by omega)).trans ((hk _ l1 (hz _ (by omega))).trans h.res), (hs _ (by omega)).trans ((hk _ l2 (hz _ (by omega))).trans h.ones), hhal.put 0 Z', ?_, ?_, ?_, ?_⟩, hhal⟩
  · rw [natC_append]
    exact own_keep hown fun q hq => hs q (by have := (hown.lt q hq).1; omega)
  · exact own_keep h.one fun q hq => (hs q (by have := (h.one.lt q hq).1; omega)).trans (hk q (own_lt h.one hq) fun e => h.apart q e.symm hq)
  · intro q hq e
    rcases hat with e2 | e2
    · exact h.apart q (by rw [← e2]; exact hq) e
    · rw [e2] at hq
      obtain rfl := Option.some.inj hq
      have := own_lt h.one e
      simp at this
      omega
  · exact ((h.bel.alloc h.bel.size o).grown hg (by have := h.bel.size; simp; omega) (fun q hq => by have := (h.zer.lt q hq).1; omega)).setCell (by simp) _

theorem LvAt.oapp {w : World} {nz no : Nat} {R : List Value} {zs os : List Nat} {Z O : Value} {W : World} (h : LvAt w nz no R zs os Z O W) {o : Obj} {x : Nat} {O' : Value} {W' : World}
    (hown : W'.ownsRow (w.heap.size + 3) 3 1 O' (no + 1) (natC os ++ [.int .i64 (x : Int)])) (hg : (W.alloc o).grownBy W' O.ownBlock) (hat : O'.ownBlock = O.ownBlock ∨ O'.ownBlock = some (W.alloc o).heap.size) :
    LvAt w nz (no + 1) R zs (os ++ [x]) Z O' (W'.setCell ⟨w.heap.size + 2, 1, none⟩ O') ∧ Blk W' (w.heap.size + 2) 94 [Z, O] := by
  have hk : ∀ q, q < W.heap.size → some q ≠ O.ownBlock → W'.heap[q]? = W.heap[q]? := fun q hq hne => (hg.block q (by simp; omega) hne).trans (Below.heap_alloc W o q hq)
  have hz : ∀ q, q < w.heap.size + 3 → some q ≠ O.ownBlock := fun q hq e => by have := (h.one.lt q e.symm).1; omega
  have l1 := h.res.lt
  have l2 := h.ones.lt
  have l3 := h.hal.lt
  have hs : ∀ q, q ≠ w.heap.size + 2 → (W'.setCell ⟨w.heap.size + 2, 1, none⟩ O').heap[q]? = W'.heap[q]? := fun q hq => Below.heap_setCell W' _ _ q hq
  have hhal : Blk W' (w.heap.size + 2) 94 [Z, O] := (hk _ l3 (hz _ (by omega))).trans h.hal
  refine ⟨⟨(hs _ (by omega)).trans ((hk _ l1 (hz _ (by omega))).trans h.res), (hs _ (by omega)).trans ((hk _ l2 (hz _ (by omega))).trans h.ones), hhal.put 1 O', ?_, ?_, ?_, ?_⟩, hhal⟩
  · exact own_keep h.zer fun q hq => (hs q (by have := (h.zer.lt q hq).1; omega)).trans (hk q (own_lt h.zer hq) fun e => h.apart q hq e.symm)
  · rw [natC_append]
    exact own_keep hown fun q hq => hs q (by have := (hown.lt q hq).1; omega)
  · intro q hq e
    rcases hat with e2 | e2
    · exact h.apart q hq (by rw [← e2]; exact e)
    · rw [e2] at e
      obtain rfl := Option.some.inj e
      have := own_lt h.zer hq
      simp at this
      omega
  · exact ((h.bel.alloc h.bel.size o).grown hg (by have := h.bel.size; simp; omega) (fun q hq => by have := (h.one.lt q hq).1; omega)).setCell (by simp) _

theorem LvAt.put {w : World} {nz no : Nat} {R : List Value} {zs os : List Nat} {Z O : Value} {W : World} (h : LvAt w nz no R zs os Z O W) (i : Nat) (y : Value) :
    LvAt w nz no (R.set i y) zs os Z O (W.setCell ⟨w.heap.size + 1, i, none⟩ y) := by
  have hs : ∀ q, q ≠ w.heap.size + 1 → (W.setCell ⟨w.heap.size + 1, i, none⟩ y).heap[q]? = W.heap[q]? := fun q hq => Below.heap_setCell W _ _ q hq
  refine ⟨(hs _ (by omega)).trans h.res, h.ones.put i y, (hs _ (by omega)).trans h.hal, ?_, ?_, h.apart, h.bel.setCell (by simp) _⟩
  · exact own_keep h.zer fun q hq => hs q (by have := (h.zer.lt q hq).1; omega)
  · exact own_keep h.one fun q hq => hs q (by have := (h.one.lt q hq).1; omega)

theorem natC_ints (l : List Nat) : natC l = (l.map fun x : Nat => (x : Int)).map (Value.int .i64) := by unfold natC; rw [List.map_map]; rfl

/-- What a call that returns a new row of numbers leaves. -/
def GivesOwnN (w : World) (l : List Nat) (e : Ending) (w' : World) : Prop := ∃ v, e = .returned v ∧ w'.ownsRow w.heap.size 3 1 v l.length (natC l) ∧ Below w.heap.size w w'

theorem concat_two (g : Nat) (A2 A3 : Option Addr) (zs os : List Nat) (c2 c3 : Nat) (w : World) (hB : Blk w g 31 [.slice A2 zs.length c2, .slice A3 os.length c3]) (hz : Lies w w.heap.size A2 (natC zs)) (ho : Lies w w.heap.size A3 (natC os)) (hn2 : A2 = none → c2 = 0) (hn3 : A3 = none → c3 = 0) (hl : zs.length + os.length ≤ 4096) :
    Calls Try.prog 57 #[.slice (some ⟨g, 0, none⟩) 2 2] w (GivesOwnN w (zs ++ os)) := by
  have hf : flat [⟨A2, zs.map fun x : Nat => (x : Int), c2⟩, ⟨A3, os.map fun x : Nat => (x : Int), c3⟩] = (zs ++ os).map fun x : Nat => (x : Int) := by simp [flat]
  have h := concat_any (some ⟨g, 0, none⟩) [⟨A2, zs.map fun x : Nat => (x : Int), c2⟩, ⟨A3, os.map fun x : Nat => (x : Int), c3⟩] 2 w ⟨by
      have := hB.lies
      simpa [Row.val] using this, by
      intro r hr
      simp only [List.mem_cons, List.not_mem_nil, or_false] at hr
      rcases hr with rfl | rfl
      · rw [← natC_ints]; exact hz
      · rw [← natC_ints]; exact ho⟩ (by simp) (by rw [hf]; simp; omega) (by
      intro r hr
      simp only [List.mem_cons, List.not_mem_nil, or_false] at hr
      rcases hr with rfl | rfl
      · exact hn2
      · exact hn3)
  rw [hf] at h
  exact h.mono fun _ _ ⟨v, he, hown, hb⟩ => ⟨v, he, by rw [natC_ints]; rw [List.length_map] at hown; exact hown, hb⟩

theorem set2_far {W : World} {g b o : Nat} {u1 u2 v : Value} (h : W.cell? ⟨b, o, none⟩ = some v) (hne : b ≠ g) : ((W.setCell ⟨g, 0, none⟩ u1).setCell ⟨g, 1, none⟩ u2).cell? ⟨b, o, none⟩ = some v := by
  rw [World.cell?_setCell_other _ _ _ _ (fun e => by injection e with e1; exact hne e1.symm), World.cell?_setCell_other _ _ _ _ (fun e => by injection e with e1; exact hne e1.symm), h]

/-- What makeLevel leaves. -/
def GivesLevel (w : World) (p : Nat) (ns : List Nat) (e : Ending) (w' : World) : Prop :=
  ∃ A c A2 c2, e = .returned (.tuple #[.agg #[.int .i64 ns.length, .slice A (rowOf (digs10 p ns)).length c], .slice A2 ns.length c2]) ∧ Words64 w' w'.heap.size A (rowOf (digs10 p ns)) ∧ New w.heap.size A ∧ Lies w' w'.heap.size A2 (natC (nxt p ns)) ∧ ns.length ≤ c2 ∧ New w.heap.size A2 ∧ Below w.heap.size w w'

set_option maxRecDepth 100000 in
set_option maxHeartbeats 4000000 in
/-- wave.makeLevel. -/
theorem mklevel_any (A : Option Addr) (ns : List Nat) (c p : Nat) (w : World) (hn : ns.length ≤ 300) (hp : p ≤ 21) (hx : ∀ x ∈ ns, x < 2097152) (hL : Lies w w.heap.size A (natC ns)) :
    Calls Try.prog 35 #[.slice A ns.length c, .int .i64 p] w (GivesLevel w p ns) := by
  have HL := Lib.hid hL
  have HX := Lib.hid hx
  have hdl : ((digs10 p ns).map Value.bool).length = ns.length := by simp [digs10]
  have HDL := Lib.hid hdl
  have HDg := Lib.hid (fun i x h => digs_cell p ns i x h)
  have hmk := make_row (P := Try.prog) 34 4 (.bool false) 1 Try.underlying34 wbool_info rfl ns.length (by omega) (by omega)
  have HZa := Lib.hid (zsP_all p ns)
  have HLe := Lib.hid (zsP_le p ns)
  have HMk := Lib.hid (fun A c W hW => make_any A (digs10 p ns) c W (by have := hdl; rw [List.length_map] at this; omega) hW)
  rw [show (digs10 p ns).length = ns.length by simp [digs10]] at HMk
  clear hL hx hdl
  generalize hbb : (digs10 p ns).map Value.bool = bb at *
  generalize hnn : ns.length = n at *
  have HN := Lib.hid hnn
  clear hnn
  go_enter Try.func35, Try.ntmps35
  go_wp2_with fail
  have hB1 := ((Blk.new w 67 [.int .i64 0, .slice none 0 0]).alloc (.cells (zeros (.bool false) n) 4)).alloc (.cells #[.slice none 0 0, .slice none 0 0] 94)
  have hB2 := (zeros_blk (w.alloc (.cells #[.int .i64 0, .slice none 0 0] 67)) (.bool false) n 4).alloc (.cells #[.slice none 0 0, .slice none 0 0] 94)
  have hB3 := Blk.new ((w.alloc (.cells #[.int .i64 0, .slice none 0 0] 67)).alloc (.cells (zeros (.bool false) n) 4)) 94 [.slice none 0 0, .slice none 0 0]
  have hbel := chain (chain (bnew w (.cells #[.int .i64 0, .slice none 0 0] 67)) (bnew _ (.cells (zeros (.bool false) n) 4))) (bnew _ (.cells #[.slice none 0 0, .slice none 0 0] 94))
  simp only [World.size_alloc] at hB2 hB3
  generalize ((w.alloc (.cells #[.int .i64 0, .slice none 0 0] 67)).alloc (.cells (zeros (.bool false) n) 4)).alloc (.cells #[.slice none 0 0, .slice none 0 0] 94) = w0 at *
  have hR0 : List.replicate n (Value.bool false) = fillR bb (.bool false) 0 := by rw [fillR_zero, HDL.out]
  rw [hR0] at hB2
  have H0 := Lib.hid (show LvAt w 0 0 (fillR bb (.bool false) 0) [] [] (.slice none 0 0) (.slice none 0 0) w0 from ⟨hB1, hB2, hB3, World.ownsRow_nil _ _ _ _, World.ownsRow_nil _ _ _ _, (fun q hq => by cases hq), hbel⟩)
  clear hB1 hB2 hB3 hbel hR0 hmk
  go_loopw [18] (fun s18 w' => ∃ (i : Nat) (Z O : Value), i ≤ n ∧ s18 = .int .i64 i ∧ LvAt w (zsP p ns i).length (osP p ns i).length (fillR bb (.bool false) i) (zsP p ns i) (osP p ns i) Z O w') (fun s18 _ => n - (intOf s18).toNat)
  case atStart => exact ⟨0, _, _, Nat.zero_le _, rfl, H0.out⟩
  case round =>
    obtain ⟨i, Z, O, hi, rfl, hat⟩ := hrel
    have HAT := Lib.hid hat
    clear hat
    have hl1 := HAT.out.ones.lt
    have hle1 := (HLe.out i).1
    have hle2 := (HLe.out i).2
    by_cases hlt : i < n
    · obtain ⟨b, o, x, rfl, hb, hxx, hc⟩ := (HL.out.on HAT.out.bel).at_ (l := ns) (f := fun x : Nat => Value.int .i64 (x : Int)) (k := i) (by rw [HN.out]; exact hlt)
      have hx21 := HX.out x (List.mem_of_getElem? hxx)
      have HD := Lib.hid (digit_any x p · (by omega) hp)
      have HST := Lib.hid (fillR_step bb (.bool false) i _ (HDg.out i x hxx))
      have q0 : wr.cell? ⟨w.heap.size + 1, i, none⟩ = some (.bool false) := by rw [HAT.out.ones.cell]; exact fillR_at _ _ _ (by rw [HDL.out]; exact hlt)
      have f0 := HAT.out.ones.frozen i
      have HPut := Lib.hid (HAT.out.put i (.bool (x.testBit p)))
      rw [HST.out] at HPut
      have HXX := Lib.hid hxx
      clear hxx
      cases hbt : x.testBit p
      · rw [hbt] at HD HPut
        have HZ0 := Lib.hid (zsP_zero p ns i x HXX.out hbt)
        have hq : ((0 : Int) == 1) = false := by decide
        simp only [Bool.toNat_false] at HD
        clear hbt
        go_wp2_with fail
        refine (HD.out _).mono ?_
        rintro e w1 ⟨rfl, rfl⟩
        go_upto_region 8 with fail
        generalize wr.setCell ⟨w.heap.size + 1, i, none⟩ (.bool false) = w2 at *
        clear q0 f0 hc
        have q1 : w2.cell? ⟨w.heap.size + 2, 0, none⟩ = some Z := HPut.out.hal.cell 0
        have l2 := HPut.out.hal.lt
        go_wp2_with (at_builtin; go_loud (refine append_one_at _ rfl (.tmp 34) (.tmp 36) 31 rfl (w.heap.size + 3) 3 (.int .i64 0) 8 Try.underlying31 wint_info rfl Z (zsP p ns i).length _ rfl (HPut.out.zer.alloc _) w2.heap.size 1 (.int .i64 x) rfl (by simp) rfl (by simp only [maxLen]; omega) (by omega) (by simp; omega) ?_))
        intro v1 w5 hown1 hg1 hat1
        obtain ⟨g5, cap5, rfl, _, _⟩ := hown1.form (by omega)
        obtain ⟨hA5, hh5⟩ := HPut.out.zapp hown1 hg1 (by simpa using hat1)
        have HA5 := Lib.hid hA5
        have q2 : w5.cell? ⟨w.heap.size + 2, 0, none⟩ = some Z := hh5.cell 0
        have f2 := hh5.frozen 0
        clear hA5 hh5 hown1 hg1 hat1 q1
        go_wp2_with fail
        go_roundw
        case rel => exact ⟨i + 1, _, _, by omega, by go_num, by rw [HZ0.out.1, HZ0.out.2, List.length_append]; exact HA5.out⟩
        case measure => simp [intOf]; omega
      · rw [hbt] at HD HPut
        have HZ1 := Lib.hid (zsP_one p ns i x HXX.out hbt)
        have hq : ((1 : Int) == 1) = true := by decide
        simp only [Bool.toNat_true] at HD
        clear hbt
        go_wp2_with fail
        refine (HD.out _).mono ?_
        rintro e w1 ⟨rfl, rfl⟩
        go_upto_region 8 with fail
        generalize wr.setCell ⟨w.heap.size + 1, i, none⟩ (.bool true) = w2 at *
        clear q0 f0 hc
        have q1 : w2.cell? ⟨w.heap.size + 2, 1, none⟩ = some O := HPut.out.hal.cell 1
        have l2 := HPut.out.hal.lt
        go_wp2_with (at_builtin; go_loud (refine append_one_at _ rfl (.tmp 34) (.tmp 36) 31 rfl (w.heap.size + 3) 3 (.int .i64 0) 8 Try.underlying31 wint_info rfl O (osP p ns i).length _ rfl (HPut.out.one.alloc _) w2.heap.size 1 (.int .i64 x) rfl (by simp) rfl (by simp only [maxLen]; omega) (by omega) (by simp; omega) ?_))
        intro v1 w5 hown1 hg1 hat1
        obtain ⟨g5, cap5, rfl, _, _⟩ := hown1.form (by omega)
        obtain ⟨hA5, hh5⟩ := HPut.out.oapp hown1 hg1 (by simpa using hat1)
        have HA5 := Lib.hid hA5
        have q2 : w5.cell? ⟨w.heap.size + 2, 1, none⟩ = some O := hh5.cell 1
        have f2 := hh5.frozen 1
        clear hA5 hh5 hown1 hg1 hat1 q1
        go_wp2_with fail
        go_roundw
        case rel => exact ⟨i + 1, _, _, by omega, by go_num, by rw [HZ1.out.1, HZ1.out.2, List.length_append]; exact HA5.out⟩
        case measure => simp [intOf]; omega
    · obtain rfl : n = i := by omega
      have hB := HAT.out.ones
      rw [show fillR bb (.bool false) n = bb by rw [← HDL.out]; exact fillR_all _ _] at hB
      have hLb := hB.lies
      have HLb := Lib.hid hLb
      obtain ⟨A2, c2, rfl, hle2', _, hz2, hn2, _⟩ := own_slice HAT.out.zer
      obtain ⟨A3, c3, rfl, hle3', _, hz3, hn3, _⟩ := own_slice HAT.out.one
      have HZ2 := Lib.hid hz2
      have HZ3 := Lib.hid hz3
      have HN2 := Lib.hid hn2
      have HN3 := Lib.hid hn3
      have HBB := Lib.hid hbb
      clear hB hLb hz2 hz3 hn2 hn3 hbb
      go_wp2_with fail
      refine (HMk.out _ n _ HLb.out).mono ?_
      rintro e w1 ⟨A1, c1, rfl, hW1, hN1, hb1⟩
      go_wp2_with fail
      have hb2 := chain hb1 (bnew w1 (.cells #[.int .i64 n, .slice A1 (rowOf (digs10 p ns)).length c1] 67))
      have hB2 := Blk.new w1 67 [.int .i64 n, .slice A1 (rowOf (digs10 p ns)).length c1]
      have hs1 := hb1.size
      have HW2 := Lib.hid (hW1.alloc (.cells #[.int .i64 n, .slice A1 (rowOf (digs10 p ns)).length c1] 67))
      have HNew1 := Lib.hid (hN1.mono (show w.heap.size + 1 ≤ wr.heap.size by omega))
      have hH2 := HAT.out.hal.below hb2 HAT.out.hal.lt
      have hR2 := HAT.out.res.below hb2 HAT.out.res.lt
      have HZb := Lib.hid (HZ2.out.on hb2)
      have HOb := Lib.hid (HZ3.out.on hb2)
      have HBl := Lib.hid (chain HAT.out.bel hb2)
      generalize w1.alloc (.cells #[.int .i64 n, .slice A1 (rowOf (digs10 p ns)).length c1] 67) = w2 at *
      have r0 : w2.cell? ⟨w1.heap.size, 0, none⟩ = some (.int .i64 n) := hB2.cell 0
      have r1 : w2.cell? ⟨w1.heap.size, 1, none⟩ = some (.slice A1 (rowOf (digs10 p ns)).length c1) := hB2.cell 1
      have r2 : w2.cell? ⟨w.heap.size + 2, 0, none⟩ = some (.slice A2 (zsP p ns n).length c2) := hH2.cell 0
      have r3 : w2.cell? ⟨w.heap.size + 2, 1, none⟩ = some (.slice A3 (osP p ns n).length c3) := hH2.cell 1
      have l1 := hB2.lt
      have l2 := hH2.lt
      have l3 := hR2.lt
      have HR2 := Lib.hid hR2
      clear hb1 hb2 hW1 hN1 hB2 hH2 hR2
      refine wp_region_held_drew (S := fun w' => w'.cell? ⟨w1.heap.size, 0, none⟩ = some (.int .i64 n) ∧ w'.cell? ⟨w1.heap.size, 1, none⟩ = some (.slice A1 (rowOf (digs10 p ns)).length c1) ∧ w'.cell? ⟨w.heap.size + 2, 0, none⟩ = some (.slice A2 (zsP p ns n).length c2) ∧ w'.cell? ⟨w.heap.size + 2, 1, none⟩ = some (.slice A3 (osP p ns n).length c3)) (by kernel_rfl) ⟨r0, r1, r2, r3⟩ (fun hHeld1 => ?_)
      refine wpAnyH_take (i := 0) (oi := ⟨some 45, _, _, _, _, _⟩) (v := ?_) rfl (by kernel_rfl) (by kernel_rfl) (by kernel_rfl) (fun _ _ _ h => h) (Or.inl ⟨by kernel_rfl, ?_⟩) (by assumption) ?_
      rotate_left
      · (intro w hSw; (try dsimp only at hSw); go_simp; (try with_reducible rfl))
      try simp only [Act.put, List.setIfInBounds_toArray, List.set_cons_zero, List.set_cons_succ]
      refine wpAnyH_take (i := 1) (oi := ⟨some 46, _, _, _, _, _⟩) (v := ?_) rfl (by kernel_rfl) (by kernel_rfl) (by kernel_rfl) (fun _ _ _ h => h) (Or.inl ⟨by kernel_rfl, ?_⟩) (by assumption) ?_
      rotate_left
      · (intro w hSw; (try dsimp only at hSw); go_simp; (try with_reducible rfl))
      try simp only [Act.put, List.setIfInBounds_toArray, List.set_cons_zero, List.set_cons_succ]
      refine wpAnyH_take (i := 2) (oi := ⟨some 47, _, _, _, _, _⟩) (v := ?_) rfl (by kernel_rfl) (by kernel_rfl) (by kernel_rfl) (fun _ _ _ h => h) (Or.inl ⟨by kernel_rfl, ?_⟩) (by assumption) ?_
      rotate_left
      · (intro w hSw; (try dsimp only at hSw); go_simp; (try with_reducible rfl))
      try simp only [Act.put, List.setIfInBounds_toArray, List.set_cons_zero, List.set_cons_succ]
      refine wpAnyH_take (i := 3) (oi := ⟨some 48, _, _, _, _, _⟩) (v := ?_) rfl (by kernel_rfl) (by kernel_rfl) (by kernel_rfl) (fun _ _ _ h => h) (Or.inl ⟨by kernel_rfl, ?_⟩) (by assumption) ?_
      rotate_left
      · (intro w hSw; (try dsimp only at hSw); go_simp; (try with_reducible rfl))
      try simp only [Act.put, List.setIfInBounds_toArray, List.set_cons_zero, List.set_cons_succ]
      refine wpAnyH_take (i := 4) (oi := ⟨some 49, _, _, _, _, _⟩) (v := ?_) rfl (by kernel_rfl) (by kernel_rfl) (by kernel_rfl) (fun _ _ _ h => h) (Or.inl ⟨by kernel_rfl, ?_⟩) (by assumption) ?_
      rotate_left
      · (intro w hSw; (try dsimp only at hSw); go_simp; (try with_reducible rfl))
      try simp only [Act.put, List.setIfInBounds_toArray, List.set_cons_zero, List.set_cons_succ]
      refine wpAnyH_ready (rs := [5]) (by kernel_rfl) (by simp) ?_
      refine AllReadyH.cons (o := ⟨some 50, _, _, _, _, _⟩) rfl (fun K hK => ?_) AllReadyH.nil
      have hb4 := bnew w2.drew (.cells #[.slice A2 (zsP p ns n).length c2, .slice A3 (osP p ns n).length c3] 31)
      have hc4 : ∀ b o, b < w2.heap.size → (w2.drew.alloc (.cells #[.slice A2 (zsP p ns n).length c2, .slice A3 (osP p ns n).length c3] 31)).cell? ⟨b, o, none⟩ = w2.cell? ⟨b, o, none⟩ := fun b o h => bcell hb4 b o h
      have hB4 := Blk.new w2.drew 31 [.slice A2 (zsP p ns n).length c2, .slice A3 (osP p ns n).length c3]
      go_simp
      refine hK.out _ _ ⟨(hc4 _ _ l1).trans r0, (hc4 _ _ l1).trans r1, (hc4 _ _ l2).trans r2, (hc4 _ _ l2).trans r3⟩ (fun hHeld2 => ?_)
      clear hK K
      try simp only [Act.put, List.setIfInBounds_toArray, List.set_cons_zero, List.set_cons_succ]
      have HB4 := Lib.hid hB4
      have HBl4 := Lib.hid (chain HBl.out.drew hb4)
      have HZ4 := Lib.hid (HZb.out.drew.on hb4)
      have HO4 := Lib.hid (HOb.out.drew.on hb4)
      have hb24 := Lib.hid hb4
      have l4 := hB4.lt
      clear hb4 hc4 hB4
      have hlen : (zsP p ns n).length + (osP p ns n).length = n := by
        have := congrArg List.length HZa.out
        rw [List.length_append, nxt_length, HN.out] at this
        exact this
      refine wpAnyH_ready (rs := [6]) (by kernel_rfl) (by simp) ?_
      refine AllReadyH.cons (o := ⟨some 51, _, _, _, _, _⟩) rfl (fun K hK => ?_) AllReadyH.nil
      go_simp
      refine (concat_two w2.heap.size A2 A3 (zsP p ns n) (osP p ns n) c2 c3 _ (by exact HB4.out) (by exact HZ4.out) (by exact HO4.out) HN2.out HN3.out (by omega)).mono ?_
      rintro e w5 ⟨v5, rfl, hown5, hb5⟩
      have hb25 := chain hb24.out hb5
      have hc5 : ∀ b o, b < w2.heap.size → w5.cell? ⟨b, o, none⟩ = w2.cell? ⟨b, o, none⟩ := fun b o h => bcell hb25 b o h
      go_wp2_with fail
      refine hK.out _ _ ⟨(hc5 _ _ l1).trans r0, (hc5 _ _ l1).trans r1, (hc5 _ _ l2).trans r2, (hc5 _ _ l2).trans r3⟩ (fun hHeld3 => ?_)
      clear hK K
      try simp only [Act.put, List.setIfInBounds_toArray, List.set_cons_zero, List.set_cons_succ]
      have hR5 := HR2.out.drew.below hb25 l3
      have HBl5 := Lib.hid (chain HBl4.out hb5)
      have HW5 := Lib.hid (HW2.out.drew.on hb25)
      have HOwn5 := Lib.hid hown5
      have HR5 := Lib.hid hR5
      have g0 : w5.cell? ⟨w.heap.size, 0, none⟩ = some (.int .i64 0) := hR5.cell 0
      have g1 : w5.cell? ⟨w.heap.size, 1, none⟩ = some (.slice none 0 0) := hR5.cell 1
      have f0 := hR5.frozen 0
      have f1 := hR5.frozen 1
      have hs5 : w2.heap.size ≤ w5.heap.size := hb25.size
      have hs24 : w.heap.size + 3 ≤ w2.heap.size + 1 := by omega
      have s0 := (hc5 _ _ l1).trans r0
      have s1 := (hc5 _ _ l1).trans r1
      have s2 := (hc5 _ _ l2).trans r2
      have s3 := (hc5 _ _ l2).trans r3
      clear hb5 hown5 hR5 hc5
      refine wpAnyH_ready (rs := [7]) (by kernel_rfl) (by simp) ?_
      refine AllReadyH.cons (o := ⟨none, _, _, _, _, _⟩) rfl (fun K hK => ?_) AllReadyH.nil
      go_simp
      refine hK.out _ _ ⟨set2_far (g := w.heap.size) s0 (by omega), set2_far (g := w.heap.size) s1 (by omega), set2_far (g := w.heap.size) s2 (by omega), set2_far (g := w.heap.size) s3 (by omega)⟩ (fun hHeld4 => ?_)
      clear hK K
      try simp only [Act.put, List.setIfInBounds_toArray, List.set_cons_zero, List.set_cons_succ]
      refine wpAnyH_take (i := 8) (oi := ⟨some 5, _, _, _, _, _⟩) (v := ?_) rfl (by kernel_rfl) (by kernel_rfl) (by kernel_rfl) (fun _ _ _ h => h) (Or.inl ⟨by kernel_rfl, ?_⟩) (by assumption) ?_
      rotate_left
      · (intro w hSw; (try dsimp only at hSw); go_simp; (try with_reducible rfl))
      try simp only [Act.put, List.setIfInBounds_toArray, List.set_cons_zero, List.set_cons_succ]
      refine wpAnyH_done (by kernel_rfl) ?_ _
      have hl5 := hHeld4
      clear hHeld1 hHeld2 hHeld3 hHeld4 r0 r1 r2 r3 s0 s1 s2 s3 hl5
      go_wp2_with fail
      refine bodyPost_ret (v := .tuple #[.agg #[.int .i64 n, .slice A1 (rowOf (digs10 p ns)).length c1], v5]) (by simp [results, Try.results35, go_sem, g0, g1]) rfl ?_
      have hrow := own_keep (w' := (w5.setCell ⟨w.heap.size, 0, none⟩ (.int .i64 n)).setCell ⟨w.heap.size, 1, none⟩ (.slice A1 (rowOf (digs10 p ns)).length c1)) HOwn5.out fun q hq => by
        have hq2 := (HOwn5.out.lt q hq).1
        simp at hq2
        rw [Below.heap_setCell _ _ _ _ (by show q ≠ w.heap.size; omega), Below.heap_setCell _ _ _ _ (by show q ≠ w.heap.size; omega)]
      obtain ⟨A6, c6, rfl, hle6, _, hl6, _, hn6⟩ := own_slice hrow
      rw [HZa.out] at hl6
      have hnl : (zsP p ns n ++ osP p ns n).length = n := by rw [List.length_append]; exact hlen
      have hw5 := (HW5.out.setCell (B' := w.heap.size + 1) HNew1.out (p := ⟨w.heap.size, 0, none⟩) (by simp) (.int .i64 n)).setCell (B' := w.heap.size + 1) HNew1.out (p := ⟨w.heap.size, 1, none⟩) (by simp) (.slice A1 (rowOf (digs10 p ns)).length c1)
      refine ⟨A1, c1, A6, c6, by rw [HN.out, hnl], ⟨hw5.1.wide (by simp), hw5.2⟩, HNew1.out.mono (Nat.le_succ _), hl6, by rw [HN.out, ← hnl]; exact hle6, hn6.mono (by simp; omega), ((HBl5.out.setCell (Nat.le_refl _) _).setCell (Nat.le_refl _) _)⟩
end Go.Proofs.Ytpkclmfadlkbeaa

namespace Go.Proofs.Ytpkclmfadlkbeaa
open Go.RowKit Words

/-- A number that fits into L digits. -/
def fit (L : Nat) (x : Int) : Bool := decide (0 ≤ x ∧ x < ((2 ^ L : Nat) : Int))
theorem fits_int (x : Int) (L : Nat) (w : World) (hL : L ≤ 21) :
    Calls Try.prog 34 #[.int .i64 x, .int .i64 L] w fun e w' => e = .returned (.bool (fit L x)) ∧ w = w' := by
  by_cases h : x < 0
  · rw [show fit L x = false from decide_eq_false (by omega)]
    exact fits_neg x L w h
  · obtain ⟨y, rfl⟩ : ∃ y : Nat, x = y := ⟨x.toNat, by omega⟩
    exact fits_any y L w hL _ (by unfold fit; exact Bool.eq_iff_iff.2 (by simp only [decide_eq_true_eq]; omega))

/-- wave.Make's closure. -/
theorem cl_fits (x : Int) (L : Nat) (g : Nat) (w : World) (hL : L ≤ 21) (hc : w.cell? ⟨g, 0, none⟩ = some (.int .i64 L)) :
    Calls Try.prog 33 #[.int .i64 x, .pointer (some ⟨g, 0, none⟩)] w fun e w' => e = .returned (.bool (!fit L x)) ∧ ∃ d, w' = w.drewN d := by
  have H := Lib.hid (fits_int x L · hL)
  generalize fit L x = r at *
  go_enter Try.func33, Try.ntmps33
  go_wp2_with (go_at_call 34; refine (H.out _).mono ?_; rintro e w' ⟨rfl, rfl⟩)
  go_ret
  exact ⟨rfl, 0, rfl⟩

/-- The first of a list at which p holds. -/
theorem first_at10 (p : Int → Bool) (l : List Int) : ∃ i, i ≤ l.length ∧ (∀ k x, k < i → l[k]? = some x → p x = false) ∧ (∀ x, l[i]? = some x → p x = true) ∧ l.any p = decide (i < l.length) := by
  induction l with
  | nil => exact ⟨0, Nat.le_refl _, (fun k x h _ => by omega), (fun x h => by cases h), rfl⟩
  | cons a l ih =>
    by_cases h : p a = true
    · refine ⟨0, Nat.zero_le _, (fun k x h _ => by omega), (fun x hx => ?_), by simp [h]⟩
      obtain rfl : a = x := by simpa using hx
      exact h
    · obtain ⟨i, h1, h2, h3, h4⟩ := ih
      refine ⟨i + 1, by simp; omega, fun k x hk hx => ?_, (fun x hx => h3 x (by simpa using hx)), ?_⟩
      · cases k with
        | zero =>
          obtain rfl : a = x := by simpa using hx
          simpa using h
        | succ k => exact h2 k x (by omega) (by simpa using hx)
      · rw [List.any_cons, h4]
        simp [h]

set_option maxHeartbeats 1000000 in
/-- slices.IndexFunc with that closure: the first index at which it holds, or -1. -/
theorem index_wmk (A : Option Addr) (l : List Int) (c i : Nat) (g : Nat) (p : Int → Bool) (w : World) (hn : l.length ≤ 17592186044416) (hin : i ≤ l.length) (hlo : ∀ k x, k < i → l[k]? = some x → p x = false) (hhi : ∀ x, l[i]? = some x → p x = true) (hL : Lies w w.heap.size A (l.map (.int .i64)))
    (hf : ∀ x d, x ∈ l → Calls Try.prog 33 #[.int .i64 x, .pointer (some ⟨g, 0, none⟩)] (w.drewN d) fun e w' => e = .returned (.bool (p x)) ∧ ∃ m, w' = (w.drewN d).drewN m) :
    Calls Try.prog 54 #[.slice A l.length c, .func (.func 33) #[] #[.pointer (some ⟨g, 0, none⟩)]] w fun e w' => e = .returned (.int .i64 (if i < l.length then (i : Int) else -1)) ∧ ∃ d, w' = w.drewN d := by
  have HF := Lib.hid hf
  have HLo := Lib.hid hlo
  have HHi := Lib.hid hhi
  have HL := Lib.hid hL
  clear hf hlo hhi hL
  generalize hk : l.length = n at *
  have HN := Lib.hid hk
  clear hk
  obtain ⟨r, hr⟩ : ∃ r : Int, r = if i < n then (i : Int) else -1 := ⟨_, rfl⟩
  rw [← hr]
  have HR := Lib.hid hr
  clear hr
  go_enter Try.func54, Try.ntmps54
  go_wp2_with fail
  go_loopw [8] (fun a w' => ∃ k d : Nat, k ≤ i ∧ a = .int .i64 k ∧ w' = w.drewN d) (fun a _ => n - (intOf a).toNat)
  case atStart => exact ⟨0, 0, Nat.zero_le _, rfl, rfl⟩
  case round =>
    obtain ⟨k, d, hki, rfl, rfl⟩ := hrel
    by_cases hlt : k < n
    · obtain ⟨b, o, x, rfl, hb, hx, hc⟩ := HL.out.at_ (k := k) (by rw [HN.out]; exact hlt)
      have HC := Lib.hid (fun d => HF.out x d (List.mem_of_getElem? hx))
      by_cases hlt2 : k < i
      · rw [HLo.out k x hlt2 hx] at HC
        clear hx
        go_wp2_with fail
        refine (HC.out _).mono ?_
        rintro e w1 ⟨rfl, m, rfl⟩
        go_wp2_with fail
        go_roundw
        case rel => exact ⟨k + 1, _, by omega, by go_num, by first | rfl | (simp only [World.drewN_drewN]; rfl)⟩
        case measure => simp [intOf]; omega
      · obtain rfl : k = i := by omega
        have hre : r = (k : Int) := by rw [HR.out, if_pos hlt]
        subst hre
        clear HR
        rw [HHi.out x hx] at HC
        clear hx
        go_wp2_with fail
        refine (HC.out _).mono ?_
        rintro e w1 ⟨rfl, m, rfl⟩
        go_wp2_with fail
        go_ret
        exact ⟨rfl, _, by first | rfl | (simp only [World.drewN_drewN]; rfl)⟩
    · have hre : r = -1 := by rw [HR.out, if_neg (by omega)]
      subst hre
      go_wp2_with fail
      go_ret
      exact ⟨rfl, _, rfl⟩

/-- slices.ContainsFunc with that closure. -/
theorem contains_wmk (A : Option Addr) (l : List Int) (c : Nat) (g : Nat) (p : Int → Bool) (w : World) (hn : l.length ≤ 17592186044416) (hL : Lies w w.heap.size A (l.map (.int .i64)))
    (hf : ∀ x d, x ∈ l → Calls Try.prog 33 #[.int .i64 x, .pointer (some ⟨g, 0, none⟩)] (w.drewN d) fun e w' => e = .returned (.bool (p x)) ∧ ∃ m, w' = (w.drewN d).drewN m) :
    Calls Try.prog 32 #[.slice A l.length c, .func (.func 33) #[] #[.pointer (some ⟨g, 0, none⟩)]] w fun e w' => e = .returned (.bool (l.any p)) ∧ ∃ d, w' = w.drewN d := by
  obtain ⟨i, hi, hlo, hhi, hany⟩ := first_at10 p l
  have H := Lib.hid (fun W hL hf => index_wmk A l c i g p W hn hi hlo hhi hL hf)
  rw [hany]
  have H2 := Lib.hid (H.out w hL hf)
  clear H hf hL hany hlo hhi
  generalize l.length = n at *
  by_cases h : i < n
  · rw [if_pos h] at H2
    have hd : decide (i < n) = true := by simpa using h
    rw [hd]
    go_enter Try.func32, Try.ntmps32
    go_wp2_with fail
    refine H2.out.mono ?_
    rintro e w1 ⟨rfl, d, rfl⟩
    go_wp2_with fail
    go_ret
    exact ⟨rfl, _, rfl⟩
  · rw [if_neg h] at H2
    have hd : decide (i < n) = false := by simpa using h
    rw [hd]
    go_enter Try.func32, Try.ntmps32
    go_wp2_with fail
    refine H2.out.mono ?_
    rintro e w1 ⟨rfl, d, rfl⟩
    go_wp2_with fail
    go_ret
    exact ⟨rfl, _, rfl⟩

/-- No matrix, an error. -/
def NoWave (w : World) (r : Int) (e : Ending) (w' : World) : Prop := e = .returned (.tuple #[.agg #[.slice none 0 0], .int .i64 r]) ∧ Below w.heap.size w w'

set_option maxHeartbeats 1000000 in
/-- wave.Make of too long a list. -/
theorem wmk_size (L : Int) (A : Option Addr) (n c : Nat) (w : World) (h : 300 < n) (hn : n ≤ 17592186044416) :
    Calls Try.prog 18 #[.int .i64 L, .slice A n c] w (NoWave w 1) := by
  go_enter Try.func18, Try.ntmps18
  go_wp2_with fail
  refine bodyPost_ret (v := .tuple #[.agg #[.slice none 0 0], .int .i64 1]) (by simp [results, Try.results18, go_sem]) rfl ⟨rfl, ?_⟩
  exact chain (bnew _ _) (bnew _ _)

set_option maxHeartbeats 1000000 in
/-- wave.Make of levels that are not allowed, or of a number that does not fit. -/
theorem wmk_levels (L : Int) (A : Option Addr) (n c : Nat) (w : World) (hn : n ≤ 300) (h : L < 0 ∨ 21 < L) :
    Calls Try.prog 18 #[.int .i64 L, .slice A n c] w (NoWave w 2) := by
  have hd : decide (300 < (n : Int)) = false := by simp; omega
  have hh : L < 0 ∨ (¬ L < 0 ∧ 21 < L) := by omega
  clear h
  rcases hh with h0 | ⟨h0, h1⟩
  all_goals
    go_enter Try.func18, Try.ntmps18
    go_wp2_with fail
    refine bodyPost_ret (v := .tuple #[.agg #[.slice none 0 0], .int .i64 2]) (by simp [results, Try.results18, go_sem]) rfl ⟨rfl, ?_⟩
    exact chain (bnew _ _) (bnew _ _)

set_option maxHeartbeats 1000000 in
theorem wmk_fit (L : Nat) (A : Option Addr) (l : List Int) (c : Nat) (w : World) (hn : l.length ≤ 300) (hL : L ≤ 21) (hl : Lies w w.heap.size A (l.map (.int .i64))) (h : l.any (fun x => !fit L x) = true) :
    Calls Try.prog 18 #[.int .i64 L, .slice A l.length c] w (NoWave w 2) := by
  have HC := Lib.hid (fun (W : World) hW (hc : W.cell? ⟨w.heap.size, 0, none⟩ = some (.int .i64 L)) => contains_wmk A l c w.heap.size (fun x => !fit L x) W (by omega) hW (fun x d _ => cl_fits x L w.heap.size (W.drewN d) hL hc))
  rw [h] at HC
  have HL := Lib.hid hl
  clear h hl
  generalize l.length = n at *
  have hd : decide (300 < (n : Int)) = false := by simp; omega
  have hd0 : decide ((L : Int) < 0) = false := by simp
  have hd1 : decide (21 < (L : Int)) = false := by simp; omega
  go_enter Try.func18, Try.ntmps18
  go_wp2_with fail
  refine (HC.out _ (by exact (HL.out.alloc _).alloc _) (by simp)).mono ?_
  rintro e w1 ⟨rfl, d, rfl⟩
  go_wp2_with fail
  refine bodyPost_ret (v := .tuple #[.agg #[.slice none 0 0], .int .i64 2]) (by simp [results, Try.results18, go_sem]) rfl ⟨rfl, ?_⟩
  exact (bdN (chain (bnew _ _) (bnew _ _)) _).setCell (by simp) _

/-- What Make leaves. -/
def GivesWave (w : World) (L : Nat) (ns : List Nat) (e : Ending) (w' : World) : Prop :=
  ∃ A vs c, e = .returned (.tuple #[.agg #[.slice A L c], .int .i64 0]) ∧ MadeOf ns.length (levs L ns) vs ∧ L ≤ c ∧ Mat w' w'.heap.size A vs ∧ New w.heap.size A ∧ (∀ v ∈ vs, New w.heap.size v.adr) ∧ Below w.heap.size w w'

theorem make_levs (L : Nat) (hL : L ≤ 21) (w : World) :
    (Instr.makeSlice 43 (.int .i64 (L : Int)) (.int .i64 (L : Int))).run Try.prog w = .ok (.slice (some ⟨w.heap.size, 0, none⟩) L L) (w.alloc (.cells (levC (List.replicate L lev0)).toArray 67)) := by
  have hinfo : (Try.prog.info? 67).map (fun i => (i.zero, i.size, i.bytes)) = some (some (.agg #[.int .i64 0, .slice none 0 0]), 2, 32) := by kernel_rfl
  obtain ⟨i, hi, hz0, hz1, hz2⟩ := info_parts hinfo
  have hr := run_make (P := Try.prog) w 43 67 i (.agg #[.int .i64 0, .slice none 0 0]) Try.underlying43 hi hz0 .i64 .i64 L L (by omega) (Int.le_refl _) (by rw [hz2]; omega) (by omega)
  rw [hr, hz1, Int.toNat_natCast]
  show Result.ok _ (w.alloc (.cells (madeCells #[.int .i64 0, .slice none 0 0] (L * 2)) _)) = _
  rw [made_levs]

theorem set2_at {W : World} {g b o o1 o2 : Nat} {u1 u2 v : Value} (h : W.cell? ⟨b, o, none⟩ = some v) (hne : b ≠ g) : ((W.setCell ⟨g, o1, none⟩ u1).setCell ⟨g, o2, none⟩ u2).cell? ⟨b, o, none⟩ = some v := by
  rw [World.cell?_setCell_other _ _ _ _ (fun e => by injection e with e1; exact hne e1.symm), World.cell?_setCell_other _ _ _ _ (fun e => by injection e with e1; exact hne e1.symm), h]

/-- Memory between the levels. -/
structure MkWv (w : World) (L n c : Nat) (ns : List Nat) (i : Nat) (done : List Lev) (A : Option Addr) (W : World) : Prop where
  lv : Blk W w.heap.size 3 [.int .i64 L]
  res : Blk W (w.heap.size + 1) 45 [.slice none 0 0]
  tab : Blk W (w.heap.size + 2) 67 (levC (done ++ List.replicate (L - i) lev0))
  bw : Blk W (w.heap.size + 3) 45 [.slice (some ⟨w.heap.size + 2, 0, none⟩) L L]
  dl : done.length = i
  dn : done.map (fun v => (v.n, v.ws)) = ((levs L ns).take i).map fun r => ((n : Int), rowOf r)
  rows : ∀ v ∈ done, Words64 W W.heap.size v.adr v.ws ∧ New (w.heap.size + 4) v.adr
  cur : Lies W W.heap.size A (natC (lst L i ns))
  bel : Below w.heap.size w W

theorem MkWv.step {w : World} {L n c c2 : Nat} {ns : List Nat} {i : Nat} {done : List Lev} {A : Option Addr} {W W' : World} (h : MkWv w L n c ns i done A W) (hi : i < L) {A1 A2 : Option Addr} {c1 : Nat}
    (hb : Below W.heap.size W W') (hW : Words64 W' W'.heap.size A1 (rowOf (digs10 (L - 1 - i) (lst L i ns)))) (hN : New W.heap.size A1) (hl : Lies W' W'.heap.size A2 (natC (nxt (L - 1 - i) (lst L i ns)))) (hN2 : New W.heap.size A2) :
    MkWv w L n c2 ns (i + 1) (done ++ [⟨n, A1, rowOf (digs10 (L - 1 - i) (lst L i ns)), c1⟩]) A2 ((W'.setCell ⟨w.heap.size + 2, i * 2, none⟩ (.int .i64 n)).setCell ⟨w.heap.size + 2, i * 2 + 1, none⟩ (.slice A1 (rowOf (digs10 (L - 1 - i) (lst L i ns))).length c1)) := by
  have l4 := h.bw.lt
  have hs : ∀ q, q ≠ w.heap.size + 2 → ∀ u1 u2, ((W'.setCell ⟨w.heap.size + 2, i * 2, none⟩ u1).setCell ⟨w.heap.size + 2, i * 2 + 1, none⟩ u2).heap[q]? = W'.heap[q]? := fun q hq u1 u2 => by
    rw [Below.heap_setCell _ _ _ _ (by exact hq), Below.heap_setCell _ _ _ _ (by exact hq)]
  have hsz : ∀ u1 u2, ((W'.setCell ⟨w.heap.size + 2, i * 2, none⟩ u1).setCell ⟨w.heap.size + 2, i * 2 + 1, none⟩ u2).heap.size = W'.heap.size := fun u1 u2 => by simp
  have hlev : (levs L ns)[i]? = some (digs10 (L - 1 - i) (lst L i ns)) := levs_at L i ns hi
  refine ⟨(hs _ (by omega) _ _).trans (h.lv.below hb (by omega)), (hs _ (by omega) _ _).trans (h.res.below hb (by omega)), ?_, (hs _ (by omega) _ _).trans (h.bw.below hb (by omega)), by simp [h.dl], ?_, ?_, ?_, ?_⟩
  · have ht := ((h.tab.below hb (by omega)).put (i * 2) (.int .i64 n)).put (i * 2 + 1) (.slice A1 (rowOf (digs10 (L - 1 - i) (lst L i ns))).length c1)
    rw [show L - i = (L - (i + 1)) + 1 by omega, List.replicate_succ] at ht
    have he := levC_set done lev0 ⟨n, A1, rowOf (digs10 (L - 1 - i) (lst L i ns)), c1⟩ (List.replicate (L - (i + 1)) lev0) _ _ rfl
    rw [h.dl] at he
    rw [he] at ht
    rw [List.append_assoc]
    exact ht
  · rw [List.map_append, h.dn, List.take_add_one, hlev, List.map_append]
    rfl
  · intro v hv
    rw [hsz]
    rcases List.mem_append.1 hv with hv | hv
    · obtain ⟨h1, h2⟩ := h.rows v hv
      have h3 := h1.on hb
      exact ⟨(h3.setCell (h2.mono (show w.heap.size + 3 ≤ w.heap.size + 4 by omega)) (by simp) _).setCell (h2.mono (show w.heap.size + 3 ≤ w.heap.size + 4 by omega)) (by simp) _, h2⟩
    · obtain rfl : v = _ := List.mem_singleton.1 hv
      exact ⟨(hW.setCell (hN.mono (show w.heap.size + 3 ≤ W.heap.size by omega)) (by simp) _).setCell (hN.mono (show w.heap.size + 3 ≤ W.heap.size by omega)) (by simp) _, hN.mono (by omega)⟩
  · rw [hsz, lst_succ L i ns hi]
    exact (hl.setCell (hN2.mono (show w.heap.size + 3 ≤ W.heap.size by omega)) (by simp) _).setCell (hN2.mono (show w.heap.size + 3 ≤ W.heap.size by omega)) (by simp) _
  · exact ((chain h.bel hb).setCell (by simp) _).setCell (by simp) _

theorem MkWv.slot {w : World} {L n c : Nat} {ns : List Nat} {i : Nat} {done : List Lev} {A : Option Addr} {W W' : World} (h : MkWv w L n c ns i done A W) (hi : i < L) (hb : Below W.heap.size W W') :
    W'.cell? ⟨w.heap.size + 2, i * 2, none⟩ = some (.int .i64 0) ∧ W'.cell? ⟨w.heap.size + 2, i * 2 + 1, none⟩ = some (.slice none 0 0) ∧ W'.frozen? ⟨w.heap.size + 2, i * 2, none⟩ = false ∧ W'.frozen? ⟨w.heap.size + 2, i * 2 + 1, none⟩ = false := by
  have ht := h.tab.below hb h.tab.lt
  have hg : (done ++ List.replicate (L - i) lev0)[i]? = some lev0 := by
    rw [List.getElem?_append_right (by rw [h.dl]; exact Nat.le_refl _), h.dl, Nat.sub_self, List.getElem?_replicate, if_pos (by omega)]
  exact ⟨(ht.cell _).trans (levC_get _ i _ 0 hg (by decide)), (ht.cell _).trans (levC_get _ i _ 1 hg (by decide)), ht.frozen _, ht.frozen _⟩

theorem fit_all {L : Nat} {ns : List Nat} (hx : ∀ x ∈ ns, x < 2 ^ L) : (ns.map fun x : Nat => (x : Int)).any (fun x => !fit L x) = false := by
  rw [List.any_eq_false]
  intro x hx2
  obtain ⟨y, hy, rfl⟩ := List.mem_map.1 hx2
  have := hx y hy
  have h2 : fit L (y : Int) = true := decide_eq_true ⟨by omega, Int.ofNat_lt.2 this⟩
  simp [h2]

set_option maxRecDepth 100000 in
set_option maxHeartbeats 4000000 in
/-- wave.Make. -/
theorem wmk_any (L : Nat) (A : Option Addr) (ns : List Nat) (c : Nat) (w : World) (hn : ns.length ≤ 300) (hL : L ≤ 21) (hx : ∀ x ∈ ns, x < 2 ^ L) (hl : Lies w w.heap.size A (natC ns)) :
    Calls Try.prog 18 #[.int .i64 L, .slice A ns.length c] w (GivesWave w L ns) := by
  have hli : (ns.map fun x : Nat => (x : Int)).length = ns.length := by simp
  have HC := Lib.hid (fun (W : World) (hW : Lies W W.heap.size A (natC ns)) (hc : W.cell? ⟨w.heap.size, 0, none⟩ = some (.int .i64 L)) => contains_wmk A (ns.map fun x : Nat => (x : Int)) c w.heap.size (fun x => !fit L x) W (by rw [hli]; omega) (by rw [← natC_ints]; exact hW) (fun x d _ => cl_fits x L w.heap.size (W.drewN d) hL hc))
  rw [fit_all hx, hli] at HC
  have HL := Lib.hid hl
  have HLv := Lib.hid (fun A i c W (hi : i < L) hW => mklevel_any A (lst L i ns) c (L - 1 - i) W (by rw [lst_length]; exact hn) (by omega) (fun x h => Nat.lt_of_lt_of_le (hx x (lst_mem L i ns x h)) (Nat.le_trans (Nat.pow_le_pow_right (n := 2) (j := 21) (by decide) hL) (by decide))) hW)
  unfold GivesLevel at HLv
  simp only [lst_length] at HLv
  have hmk := make_levs L hL
  clear hl hx hli
  generalize hnn : ns.length = n at *
  have HN := Lib.hid hnn
  clear hnn
  have hd : decide (300 < (n : Int)) = false := by simp; omega
  have hd0 : decide ((L : Int) < 0) = false := by simp
  have hd1 : decide (21 < (L : Int)) = false := by simp; omega
  go_enter Try.func18, Try.ntmps18
  go_wp2_with fail
  refine (HC.out _ (by exact (HL.out.alloc _).alloc _) (by simp)).mono ?_
  rintro e w1 ⟨rfl, d, rfl⟩
  have hB1 := ((Blk.new w 3 [.int .i64 L]).alloc (.cells #[.slice none 0 0] 45)).drewN d
  have hB2 := (Blk.new (w.alloc (.cells #[.int .i64 L] 3)) 45 [.slice none 0 0]).drewN d
  have hbel := bdN (chain (bnew w (.cells #[.int .i64 L] 3)) (bnew _ (.cells #[.slice none 0 0] 45))) d
  have hcur := ((HL.out.alloc (.cells #[.int .i64 L] 3)).alloc (.cells #[.slice none 0 0] 45)).drewN d
  rw [World.size_alloc] at hB2
  have hsz : (((w.alloc (.cells #[.int .i64 L] 3)).alloc (.cells #[.slice none 0 0] 45)).drewN d).heap.size = w.heap.size + 2 := by simp
  generalize ((w.alloc (.cells #[.int .i64 L] 3)).alloc (.cells #[.slice none 0 0] 45)).drewN d = w1 at *
  have q0 : w1.cell? ⟨w.heap.size, 0, none⟩ = some (.int .i64 L) := hB1.cell 0
  go_wp2_with fail
  have hB3 := (Blk.new w1 67 (levC (List.replicate L lev0))).alloc (.cells #[.slice (some ⟨w1.heap.size, 0, none⟩) L L] 45)
  have hB4 := Blk.new (w1.alloc (.cells (levC (List.replicate L lev0)).toArray 67)) 45 [.slice (some ⟨w1.heap.size, 0, none⟩) L L]
  have hB1' := (hB1.alloc (.cells (levC (List.replicate L lev0)).toArray 67)).alloc (.cells #[.slice (some ⟨w1.heap.size, 0, none⟩) L L] 45)
  have hB2' := (hB2.alloc (.cells (levC (List.replicate L lev0)).toArray 67)).alloc (.cells #[.slice (some ⟨w1.heap.size, 0, none⟩) L L] 45)
  have hbel' := chain (chain hbel (bnew w1 (.cells (levC (List.replicate L lev0)).toArray 67))) (bnew _ (.cells #[.slice (some ⟨w1.heap.size, 0, none⟩) L L] 45))
  have hcur' := (((hcur.wide (show _ ≤ w1.heap.size by rw [hsz]; simp)).alloc (.cells (levC (List.replicate L lev0)).toArray 67)).alloc (.cells #[.slice (some ⟨w1.heap.size, 0, none⟩) L L] 45))
  rw [World.size_alloc] at hB4
  simp only [hsz] at hB3 hB4 hB1' hB2' hbel' hcur' ⊢
  have H0 : Hid (MkWv w L n c ns 0 [] A ((w1.alloc (.cells (levC (List.replicate L lev0)).toArray 67)).alloc (.cells #[.slice (some ⟨w.heap.size + 2, 0, none⟩) L L] 45))) := Lib.hid ⟨hB1', hB2', hB3, hB4, rfl, rfl, (fun v hv => by cases hv), by rw [lst_zero]; exact hcur', hbel'⟩
  have q1 : ((w1.alloc (.cells (levC (List.replicate L lev0)).toArray 67)).alloc (.cells #[.slice (some ⟨w.heap.size + 2, 0, none⟩) L L] 45)).cell? ⟨w.heap.size + 3, 0, none⟩ = some (.slice (some ⟨w.heap.size + 2, 0, none⟩) L L) := hB4.cell 0
  clear hB1 hB2 hB3 hB4 hB1' hB2' hbel hbel' hcur hcur' q0 hmk
  generalize (w1.alloc (.cells (levC (List.replicate L lev0)).toArray 67)).alloc (.cells #[.slice (some ⟨w.heap.size + 2, 0, none⟩) L L] 45) = w2 at *
  go_wp2_with fail
  clear q1
  go_loopw [1, 30] (fun s1 s30 w' => ∃ (i : Nat) (done : List Lev) (A1 : Option Addr) (c1 : Nat), i ≤ L ∧ s30 = .int .i64 i ∧ s1 = .slice A1 n c1 ∧ MkWv w L n c ns i done A1 w') (fun _ s30 _ => L - (intOf s30).toNat)
  case atStart => exact ⟨0, [], A, c, Nat.zero_le _, rfl, rfl, H0.out⟩
  case round =>
    obtain ⟨i, done, A1, c1, hi, rfl, rfl, hat⟩ := hrel
    have HAT := Lib.hid hat
    have l4 := hat.bw.lt
    have r0 : wr.cell? ⟨w.heap.size + 3, 0, none⟩ = some (.slice (some ⟨w.heap.size + 2, 0, none⟩) L L) := hat.bw.cell 0
    have r1 : wr.cell? ⟨w.heap.size, 0, none⟩ = some (.int .i64 L) := hat.lv.cell 0
    clear hat
    by_cases hlt : i < L
    · have HL1 := Lib.hid (fun W hW => HLv.out A1 i c1 W hlt hW)
      have hw1 : IntKind.i64.wrap ((L : Int) - 1) = (L : Int) - 1 := by rw [IntKind.wrap_i64]; omega
      have hw2 : IntKind.i64.wrap ((L : Int) - 1 - (i : Int)) = ((L - 1 - i : Nat) : Int) := by rw [IntKind.wrap_i64]; omega
      have hi1 : (i : Int) < (L : Int) := by omega
      have hi0 : (0 : Int) ≤ (i : Int) := by omega
      have HCur := Lib.hid HAT.out.cur
      go_wp2_with fail
      refine wp_region_held_drew (S := fun w' => w'.cell? ⟨w.heap.size + 3, 0, none⟩ = some (.slice (some ⟨w.heap.size + 2, 0, none⟩) L L) ∧ w'.cell? ⟨w.heap.size, 0, none⟩ = some (.int .i64 L)) (by kernel_rfl) ⟨r0, r1⟩ (fun hHeld1 => ?_)
      refine wpAnyH_take (i := 0) (oi := ⟨some 34, _, _, _, _, _⟩) (v := ?_) rfl (by kernel_rfl) (by kernel_rfl) (by kernel_rfl) (fun _ _ _ h => h) (Or.inl ⟨by kernel_rfl, ?_⟩) (by assumption) ?_
      rotate_left
      · (intro w hSw; (try dsimp only at hSw); go_simp; (try with_reducible rfl))
      try simp only [Act.put, List.setIfInBounds_toArray, List.set_cons_zero, List.set_cons_succ]
      refine wpAnyH_take (i := 1) (oi := ⟨some 35, _, _, _, _, _⟩) (v := ?_) rfl (by kernel_rfl) (by kernel_rfl) (by kernel_rfl) (fun _ _ _ h => h) (Or.inl ⟨by kernel_rfl, ?_⟩) (by assumption) ?_
      rotate_left
      · (intro w hSw; (try dsimp only at hSw); go_simp; (try with_reducible rfl))
      try simp only [Act.put, List.setIfInBounds_toArray, List.set_cons_zero, List.set_cons_succ]
      refine wpAnyH_take (i := 2) (oi := ⟨some 36, _, _, _, _, _⟩) (v := ?_) rfl (by kernel_rfl) (by kernel_rfl) (by kernel_rfl) (fun _ _ _ h => h) (Or.inl ⟨by kernel_rfl, ?_⟩) (by assumption) ?_
      rotate_left
      · (intro w hSw; (try dsimp only at hSw); go_simp; (try with_reducible rfl))
      try simp only [Act.put, List.setIfInBounds_toArray, List.set_cons_zero, List.set_cons_succ]
      refine wpAnyH_take (i := 3) (oi := ⟨some 37, _, _, _, _, _⟩) (v := ?_) rfl (by kernel_rfl) (by kernel_rfl) (by kernel_rfl) (fun _ _ _ h => h) (Or.inl ⟨by kernel_rfl, ?_⟩) (by assumption) ?_
      rotate_left
      · (intro w hSw; (try dsimp only at hSw); go_simp; (try with_reducible rfl))
      try simp only [Act.put, List.setIfInBounds_toArray, List.set_cons_zero, List.set_cons_succ]
      refine wpAnyH_take (i := 4) (oi := ⟨some 38, _, _, _, _, _⟩) (v := ?_) rfl (by kernel_rfl) (by kernel_rfl) (by kernel_rfl) (fun _ _ _ h => h) (Or.inl ⟨by kernel_rfl, ?_⟩) (by assumption) ?_
      rotate_left
      · (intro w hSw; (try dsimp only at hSw); go_simp; (try with_reducible rfl))
      try simp only [Act.put, List.setIfInBounds_toArray, List.set_cons_zero, List.set_cons_succ]
      refine wpAnyH_take (i := 5) (oi := ⟨some 39, _, _, _, _, _⟩) (v := ?_) rfl (by kernel_rfl) (by kernel_rfl) (by kernel_rfl) (fun _ _ _ h => h) (Or.inl ⟨by kernel_rfl, ?_⟩) (by assumption) ?_
      rotate_left
      · (intro w hSw; (try dsimp only at hSw); go_simp; (try with_reducible rfl))
      try simp only [Act.put, List.setIfInBounds_toArray, List.set_cons_zero, List.set_cons_succ]
      refine wpAnyH_take (i := 6) (oi := ⟨some 40, _, _, _, _, _⟩) (v := ?_) rfl (by kernel_rfl) (by kernel_rfl) (by kernel_rfl) (fun _ _ _ h => h) (Or.inl ⟨by kernel_rfl, ?_⟩) (by assumption) ?_
      rotate_left
      · (intro w hSw; (try dsimp only at hSw); go_simp; (try with_reducible rfl))
      try simp only [Act.put, List.setIfInBounds_toArray, List.set_cons_zero, List.set_cons_succ]
      refine wpAnyH_take (i := 7) (oi := ⟨some 41, _, _, _, _, _⟩) (v := ?_) rfl (by kernel_rfl) (by kernel_rfl) (by kernel_rfl) (fun _ _ _ h => h) (Or.inl ⟨by kernel_rfl, ?_⟩) (by assumption) ?_
      rotate_left
      · (intro w hSw; (try dsimp only at hSw); go_simp; (try with_reducible rfl))
      try simp only [Act.put, List.setIfInBounds_toArray, List.set_cons_zero, List.set_cons_succ]
      refine wpAnyH_ready (rs := [8]) (by kernel_rfl) (by simp) ?_
      refine AllReadyH.cons (o := ⟨some 42, _, _, _, _, _⟩) rfl (fun K hK => ?_) AllReadyH.nil
      go_simp
      refine (HL1.out _ (by exact HCur.out.drew)).mono ?_
      rintro e w5 ⟨A5, c5, A6, c6, rfl, hW5, hN5, hl5, hle5, hN6, hb5⟩
      have s0 : w5.cell? ⟨w.heap.size + 3, 0, none⟩ = some (.slice (some ⟨w.heap.size + 2, 0, none⟩) L L) := (bcell hb5 _ _ l4).trans r0
      have s1 : w5.cell? ⟨w.heap.size, 0, none⟩ = some (.int .i64 L) := (bcell hb5 _ _ (show w.heap.size < wr.drew.heap.size from by show w.heap.size < wr.heap.size; omega)).trans r1
      obtain ⟨g0, g1, f0, f1⟩ := HAT.out.slot hlt (⟨hb5.os, hb5.tape, hb5.output, hb5.size, hb5.block⟩ : Below wr.heap.size wr w5)
      have hb5' : Below wr.heap.size wr w5 := ⟨hb5.os, hb5.tape, hb5.output, hb5.size, hb5.block⟩
      have HSt := Lib.hid (HAT.out.step (c2 := c) (c1 := c5) hlt hb5' hW5 hN5 hl5 hN6)
      clear hb5 hb5' hW5 hN5 hl5 hN6
      go_wp2_with fail
      refine hK.out _ _ ⟨s0, s1⟩ (fun hHeld2 => ?_)
      clear hK K
      try simp only [Act.put, List.setIfInBounds_toArray, List.set_cons_zero, List.set_cons_succ]
      refine wpAnyH_take (i := 9) (oi := ⟨some 33, _, _, _, _, _⟩) (v := ?_) rfl (by kernel_rfl) (by kernel_rfl) (by kernel_rfl) (fun _ _ _ h => h) (Or.inl ⟨by kernel_rfl, ?_⟩) (by assumption) ?_
      rotate_left
      · (intro w hSw; (try dsimp only at hSw); go_simp; (try with_reducible rfl))
      try simp only [Act.put, List.setIfInBounds_toArray, List.set_cons_zero, List.set_cons_succ]
      refine wpAnyH_take (i := 10) (oi := ⟨some 43, _, _, _, _, _⟩) (v := ?_) rfl (by kernel_rfl) (by kernel_rfl) (by kernel_rfl) (fun _ _ _ h => h) (Or.inl ⟨by kernel_rfl, ?_⟩) (by assumption) ?_
      rotate_left
      · (intro w hSw; (try dsimp only at hSw); go_simp; (try with_reducible rfl))
      try simp only [Act.put, List.setIfInBounds_toArray, List.set_cons_zero, List.set_cons_succ]
      refine wpAnyH_take (i := 11) (oi := ⟨some 44, _, _, _, _, _⟩) (v := ?_) rfl (by kernel_rfl) (by kernel_rfl) (by kernel_rfl) (fun _ _ _ h => h) (Or.inl ⟨by kernel_rfl, ?_⟩) (by assumption) ?_
      rotate_left
      · (intro w hSw; (try dsimp only at hSw); go_simp; (try with_reducible rfl))
      try simp only [Act.put, List.setIfInBounds_toArray, List.set_cons_zero, List.set_cons_succ]
      refine wpAnyH_take (i := 12) (oi := ⟨some 45, _, _, _, _, _⟩) (v := ?_) rfl (by kernel_rfl) (by kernel_rfl) (by kernel_rfl) (fun _ _ _ h => h) (Or.inl ⟨by kernel_rfl, ?_⟩) (by assumption) ?_
      rotate_left
      · (intro w hSw; (try dsimp only at hSw); go_simp; (try with_reducible rfl))
      try simp only [Act.put, List.setIfInBounds_toArray, List.set_cons_zero, List.set_cons_succ]
      refine wpAnyH_ready (rs := [13]) (by kernel_rfl) (by simp) ?_
      refine AllReadyH.cons (o := ⟨none, _, _, _, _, _⟩) rfl (fun K hK => ?_) AllReadyH.nil
      go_simp
      refine hK.out _ _ ⟨set2_at (g := w.heap.size + 2) s0 (by omega), set2_at (g := w.heap.size + 2) s1 (by omega)⟩ (fun hHeld3 => ?_)
      clear hK K
      try simp only [Act.put, List.setIfInBounds_toArray, List.set_cons_zero, List.set_cons_succ]
      refine wpAnyH_take (i := 14) (oi := ⟨some 1, _, _, _, _, _⟩) (v := ?_) rfl (by kernel_rfl) (by kernel_rfl) (by kernel_rfl) (fun _ _ _ h => h) (Or.inl ⟨by kernel_rfl, ?_⟩) (by assumption) ?_
      rotate_left
      · (intro w hSw; (try dsimp only at hSw); go_simp; (try with_reducible rfl))
      try simp only [Act.put, List.setIfInBounds_toArray, List.set_cons_zero, List.set_cons_succ]
      refine wpAnyH_done (by kernel_rfl) ?_ _
      clear hHeld1 hHeld2 hHeld3 g0 g1 f0 f1 s0 s1 r0 r1
      go_wp2_with fail
      go_roundw
      case rel => exact ⟨i + 1, _, A6, c6, by omega, by go_num, rfl, HSt.out⟩
      case measure => simp [intOf]; omega
    · obtain rfl : L = i := by omega
      have q2 : wr.cell? ⟨w.heap.size + 1, 0, none⟩ = some (.slice none 0 0) := HAT.out.res.cell 0
      have f2 := HAT.out.res.frozen 0
      go_wp2_with fail
      refine bodyPost_ret (v := .tuple #[.agg #[.slice (some ⟨w.heap.size + 2, 0, none⟩) L L], .int .i64 0]) (by simp [results, Try.results18, go_sem, q2]) rfl ?_
      have htab := HAT.out.tab
      rw [Nat.sub_self, List.replicate_zero, List.append_nil] at htab
      have htab2 := htab.far (p := ⟨w.heap.size + 1, 0, none⟩) (by simp) (.slice (some ⟨w.heap.size + 2, 0, none⟩) L L)
      have hdn := HAT.out.dn
      rw [List.take_of_length_le (by rw [levs_length]; exact Nat.le_refl _)] at hdn
      refine ⟨some ⟨w.heap.size + 2, 0, none⟩, done, L, rfl, by rw [HN.out]; exact hdn, Nat.le_refl _, ⟨htab2.lies, fun v hv => ?_⟩, (fun ad e => by obtain rfl := Option.some.inj e; show w.heap.size ≤ w.heap.size + 2; omega), fun v hv => (HAT.out.rows v hv).2.mono (by omega), HAT.out.bel.setCell (by simp) _⟩
      obtain ⟨h1, h2⟩ := HAT.out.rows v hv
      have h3 := h1.setCell (B' := w.heap.size + 4) h2 (p := ⟨w.heap.size + 1, 0, none⟩) (by simp) (.slice (some ⟨w.heap.size + 2, 0, none⟩) L L)
      exact ⟨h3.1.wide (by simp), h3.2⟩
end Go.Proofs.Ytpkclmfadlkbeaa
