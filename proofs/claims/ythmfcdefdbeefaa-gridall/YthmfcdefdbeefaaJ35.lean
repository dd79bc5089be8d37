/-
  What grid.heaviest and grid.Top return: contracts, walked over the translated text. No condition but what each theorem names.
-/
import Derived.Test.YthmfcdefdbeefaaJ34
import Derived.Test.YthmfcdefdbeefaaJ33
namespace Go.Proofs.Ythmfcdefdbeefaa
open Go.RowKit Go.Sort

/-- heap.Push of a point. -/
theorem hpush_any (w0 : World) (h g0 : Nat) (A : Option Addr) (c : Nat) (ps : List Pt3) (q : Nat) (X : Option Obj) (hC : HpC w0 h g0 A c ps) (d : Array Nat) (x : Nat) (w : World) (hx : x < ps.length) (hsz : d.size < 1000000) (hM : HpM w0 h g0 ps q X d w) (hH : HeapF (bfW ps) (rowA d) d.size 0) :
    Calls Try.prog 52 #[.iface 81 (.pointer (some ⟨h, 0, none⟩)), .iface 3 (.int .i64 (x : Int))] w fun e w' => e = .returned (.tuple #[]) ∧ ∃ d' : Array Nat, d'.size = d.size + 1 ∧ d'.toList.Perm (x :: d.toList) ∧ HeapF (bfW ps) (rowA d') d'.size 0 ∧ HpM w0 h g0 ps q X d' w' :=
  push_any10 (hp_heap w0 h g0 A c ps q X hC) (bfW_swo ps) d x w hx hsz hM hH
/-- heap.Pop. -/
theorem hpop_any (w0 : World) (h g0 : Nat) (A : Option Addr) (c : Nat) (ps : List Pt3) (q : Nat) (X : Option Obj) (hC : HpC w0 h g0 A c ps) (d : Array Nat) (n : Nat) (w : World) (hd : d.size = n + 1) (hsz : d.size ≤ 1000000) (hM : HpM w0 h g0 ps q X d w) (hH : HeapF (bfW ps) (rowA d) d.size 0) :
    Calls Try.prog 54 #[.iface 81 (.pointer (some ⟨h, 0, none⟩))] w fun e w' => e = .returned (.iface 3 (.int .i64 (rowA d 0 : Nat))) ∧ ∃ d' : Array Nat, d'.size = n ∧ (rowA d 0 :: d'.toList).Perm d.toList ∧ HeapF (bfW ps) (rowA d') d'.size 0 ∧ HpM w0 h g0 ps q X d' w' :=
  pop_any10 (hp_heap w0 h g0 A c ps q X hC) (bfW_swo ps) d n w hd hsz hM hH

theorem HpM.bel {w0 : World} {h g0 : Nat} {ps : List Pt3} {q : Nat} {X : Option Obj} {d : Array Nat} {W : World} (hM : HpM w0 h g0 ps q X d W) : Below h w0 W := by
  obtain ⟨_, _, _, _, hbl, _⟩ := hM
  exact hbl
/-- A new block beside the heap. -/
theorem HpM.beside {w0 : World} {h g0 : Nat} {ps : List Pt3} {q : Nat} {X : Option Obj} {d : Array Nat} {W : World} (hM : HpM w0 h g0 ps q X d W) (o : Obj) : HpM w0 h g0 ps W.heap.size ((W.alloc o).heap[W.heap.size]?) d (W.alloc o) := by
  obtain ⟨A1, c1, hb, ho, hbl, hx, ha⟩ := hM
  have hlt := hb.lt
  exact ⟨A1, c1, hb.alloc o, ho.alloc o, hbl.alloc (Nat.le_of_lt hlt) o, hx, by omega, fun e => by have := own_lt ho e; omega, by simp, rfl⟩
/-- A store into the block beside the heap. -/
theorem HpM.stored {w0 : World} {h g0 : Nat} {ps : List Pt3} {q i : Nat} {X : Option Obj} {d : Array Nat} {W : World} (hM : HpM w0 h g0 ps q X d W) (hq : h ≤ q) (u : Value) : HpM w0 h g0 ps q ((W.setCell ⟨q, i, none⟩ u).heap[q]?) d (W.setCell ⟨q, i, none⟩ u) := by
  obtain ⟨A1, c1, hb, ho, hbl, hx, ha⟩ := hM
  exact ⟨A1, c1, hb.far (p := ⟨q, i, none⟩) (fun e => ha.ne e.symm) u, own_keep ho fun b hb => Below.heap_setCell W ⟨q, i, none⟩ u b (fun e => ha.off (by rw [hb]; exact congrArg some e)), hbl.setCell hq u, hx, ha.ne, ha.off, by simpa using ha.lt, rfl⟩
theorem HpM.eq {w0 : World} {h g0 : Nat} {ps : List Pt3} {q : Nat} {X Y : Option Obj} {d : Array Nat} {W : World} (hM : HpM w0 h g0 ps q X d W) (hy : W.heap[q]? = Y) : HpM w0 h g0 ps q Y d W := by
  obtain ⟨A1, c1, hb, ho, hbl, hx, ha⟩ := hM
  exact ⟨A1, c1, hb, ho, hbl, hx, ha.ne, ha.off, ha.lt, hy⟩
theorem HpM.blk {w0 : World} {h g0 : Nat} {ps : List Pt3} {q : Nat} {xs : List Value} {t : TypeId} {d : Array Nat} {W : World} (hM : HpM w0 h g0 ps q (some (.cells xs.toArray t (0, 0))) d W) : Blk W q t xs := by
  obtain ⟨_, _, _, _, _, _, ha⟩ := hM
  exact ha.is
theorem HpM.start {w w1 : World} {A : Option Addr} {n c : Nat} {ps : List Pt3} (hw : w1 = (w.alloc (.cells #[.slice A n c] 22)).alloc (.cells #[.slice none 0 0, .func (.func 51) #[] #[.pointer (some ⟨w.heap.size, 0, none⟩)]] 83)) (hn : ps.length = n) (hL : Lies w w.heap.size A (ptC ps)) :
    HpC w1 (w.heap.size + 1) w.heap.size A c ps ∧ HpM w1 (w.heap.size + 1) w.heap.size ps w.heap.size (w1.heap[w.heap.size]?) #[] w1 ∧ Below w.heap.size w w1 ∧ w1.heap.size = w.heap.size + 1 + 1 := by
  subst hn
  have hb : Below w.heap.size w w1 := by rw [hw]; exact chain (bnew _ _) (bnew _ _)
  have h1 : Blk w1 w.heap.size 22 [.slice A ps.length c] := by rw [hw]; exact (Blk.new w _ [_]).alloc _
  have h2 : Blk w1 (w.heap.size + 1) 83 [.slice none 0 0, .func (.func 51) #[] #[.pointer (some ⟨w.heap.size, 0, none⟩)]] := by
    have := Blk.new (w.alloc (.cells #[.slice A ps.length c] 22)) 83 [.slice none 0 0, .func (.func 51) #[] #[.pointer (some ⟨w.heap.size, 0, none⟩)]]
    rw [World.size_alloc] at this
    rw [hw]
    exact this
  refine ⟨⟨h1.cell 0, by omega, (hL.below hb).wide (by omega)⟩, ⟨none, 0, h2, World.ownsRow_nil _ _ _ _, Below.refl _ _, (fun _ h => (by simp at h)), by omega, (fun e => (by cases e)), h1.lt, rfl⟩, hb, by rw [hw]; simp⟩

/-- What lies in the result while it is filled from the back. -/
theorem back_step (p : Nat) (a : Nat) (out : List Nat) : (natC (List.replicate (p + 1) 0 ++ out)).set p (.int .i64 (a : Int)) = natC (List.replicate p 0 ++ a :: out) := by
  rw [natC_set]
  congr 1
  rw [List.replicate_succ', List.append_assoc, List.set_append, if_neg (by simp)]
  simp

/-- The heaviest in a row of new memory. -/
def GivesHv (w : World) (T : List Nat) (e : Ending) (w' : World) : Prop := ∃ q, e = .returned (.slice (some ⟨q, 0, none⟩) T.length T.length) ∧ Blk w' q 3 (natC T) ∧ w.heap.size ≤ q ∧ Below w.heap.size w w'

set_option maxRecDepth 100000 in
set_option maxHeartbeats 4000000 in
/-- grid.heaviest. -/
theorem heavy_any (A : Option Addr) (ps : List Pt3) (c : Nat) (r : Rc4) (A2 : Option Addr) (L : List Nat) (c2 k : Nat) (w : World) (hn : ps.length ≤ 150) (hp : L.Perm (insR ps r)) (hL : Lies w w.heap.size A (ptC ps)) (hl : Lies w w.heap.size A2 (natC L)) :
    Calls Try.prog 38 #[.slice A ps.length c, .slice A2 L.length c2, .int .i64 k] w (GivesHv w ((ssort (ltP ps ltW) (insR ps r)).take k)) := by
  have HL := Lib.hid hl
  have HTop := Lib.hid (fun (D rest out : List Nat) (h1 : TopI ps k L D rest) (h2 : PopI ps D [] out) => top_is hp h1 h2)
  have hnd : L.Nodup := hp.nodup_iff.2 ((insR_sorted ps r).imp fun h => by omega)
  have HNd := Lib.hid (fun i x (h : L[i]? = some x) => show (L.take i ++ [x]).Nodup by
    have := List.Nodup.sublist (List.take_sublist (i + 1) L) hnd
    rwa [List.take_add_one, h, Option.toList_some] at this)
  have HTk := Lib.hid (fun i x (h : L[i]? = some x) => show L.take (i + 1) = L.take i ++ [x] by rw [List.take_add_one, h, Option.toList_some])
  have HMem := Lib.hid (fun x (h : x ∈ L) => show x < ps.length from (insR_mem.1 (hp.mem_iff.1 h)).1)
  have hll : L.length ≤ 150 := by
    rw [hp.length_eq]
    exact Nat.le_trans (insTo_length ps r ps.length) hn
  have HAll := Lib.hid (show L.take L.length = L from List.take_length)
  have HNd0 := Lib.hid (show (L.take L.length).Nodup by rw [HAll.out]; exact hnd)
  generalize (ssort (ltP ps ltW) (insR ps r)).take k = T at *
  obtain ⟨w1, hw1⟩ : ∃ w1, w1 = (w.alloc (.cells #[.slice A ps.length c] 22)).alloc (.cells #[.slice none 0 0, .func (.func 51) #[] #[.pointer (some ⟨w.heap.size, 0, none⟩)]] 83) := ⟨_, rfl⟩
  obtain ⟨hC, hM0, hb1, hs1⟩ := HpM.start hw1 rfl hL
  have HC := Lib.hid hC
  have HM0 := Lib.hid hM0
  have HB1 := Lib.hid hb1
  have HL1 := Lib.hid (hl.below hb1)
  have hH0 : HeapF (bfW ps) (rowA (#[] : Array Nat)) (#[] : Array Nat).size 0 := fun k _ hk => by simp at hk
  have HT0 := Lib.hid (TopI.start ps k)
  have HPu := Lib.hid (fun (d : Array Nat) (x : Nat) W hx hsz hM hH => hpush_any w1 (w.heap.size + 1) w.heap.size A c ps w.heap.size (w1.heap[w.heap.size]?) hC d x W hx hsz hM hH)
  have HPo := Lib.hid (fun (d : Array Nat) (n : Nat) W hd hsz hM hH => hpop_any w1 (w.heap.size + 1) w.heap.size A c ps w.heap.size (w1.heap[w.heap.size]?) hC d n W hd hsz hM hH)
  have HLn := Lib.hid (fun (d : Array Nat) W hM => hp_len w1 (w.heap.size + 1) w.heap.size ps w.heap.size (w1.heap[w.heap.size]?) d W hM)
  have HPq := Lib.hid (fun q X (d : Array Nat) (n : Nat) W hd hsz hM hH => hpop_any w1 (w.heap.size + 1) w.heap.size A c ps q X hC d n W hd hsz hM hH)
  clear hC hM0 hb1 hl hp hnd
  obtain ⟨n, hnn⟩ : ∃ n, ps.length = n := ⟨_, rfl⟩
  have HN := Lib.hid hnn
  rw [hnn] at hw1 hn ⊢
  obtain ⟨m, hmm⟩ : ∃ m, L.length = m := ⟨_, rfl⟩
  have HMm := Lib.hid hmm
  rw [hmm] at hll HAll HNd0 ⊢
  rw [HAll.out] at HNd0
  clear hnn hmm hL
  unfold GivesHv
  go_enter Try.func38, Try.ntmps38
  go_upto_region 2 with fail
  rw [← hw1]
  clear hw1
  generalize hX : w1.heap[w.heap.size]? = X0 at *
  clear hX
  go_wp2_with fail
  go_loopw [17] (fun u w' => ∃ (i : Nat) (d : Array Nat) (rest : List Nat), i ≤ m ∧ u = .int .i64 i ∧ TopI ps k (L.take i) d.toList rest ∧ HeapF (bfW ps) (rowA d) d.size 0 ∧ HpM w1 (w.heap.size + 1) w.heap.size ps w.heap.size X0 d w') (fun u _ => m - (intOf u).toNat)
  case atStart => exact ⟨0, #[], [], Nat.zero_le _, rfl, by rw [List.take_zero]; exact HT0.out, hH0, HM0.out⟩
  case round =>
    obtain ⟨i, d, rest, hi, rfl, hti, hhf, hmm⟩ := hrel
    have HTi := Lib.hid hti
    have HHf := Lib.hid hhf
    have HMk := Lib.hid hmm
    have hfew := hti.few
    have hdl : d.toList.length ≤ 150 := by
      have h1 := hti.perm.length_eq
      rw [List.length_append, List.length_take] at h1
      omega
    rw [Array.length_toList] at hfew hdl
    clear hti hhf hmm
    by_cases hlt : i < m
    · obtain ⟨b, o, x, rfl, hb, hx, hc⟩ := Lies.at_ (f := fun x : Nat => Value.int .i64 (x : Int)) (l := L) (HL1.out.keep fun q hq => HMk.out.bel.cell (p := q) (by omega)) (k := i) (by rw [HMm.out]; exact hlt)
      have hxn := HMem.out x (List.mem_of_getElem? hx)
      have HNx := Lib.hid (HNd.out i x hx)
      have HTx := Lib.hid (HTk.out i x hx)
      have HPx := Lib.hid (HPu.out d x _ hxn (by omega) HMk.out HHf.out)
      have hil : (i : Int) < (m : Int) := by omega
      clear hx hxn
      go_wp2_with fail
      refine HPx.out.mono ?_
      rintro e w2 ⟨rfl, d2, hs2, hp2, hh2, hm2⟩
      have HP2 := Lib.hid hp2
      have HH2 := Lib.hid hh2
      have HM2 := Lib.hid hm2
      have HLx := Lib.hid (HLn.out d2 w2 hm2)
      have hd2 : d2.size ≤ 151 := by omega
      have HS2 := Lib.hid hs2
      clear hs2 hp2 hh2 hm2 HPx
      generalize hd2s : d2.size = s2 at *
      go_wp2_with fail
      refine HLx.out.mono ?_
      rintro e w3 ⟨rfl, hm3⟩
      have HM3 := Lib.hid hm3
      clear hm3
      by_cases hgt : k < s2
      · have hs1 : s2 = (s2 - 1) + 1 := by omega
        have HPy := Lib.hid (HPo.out d2 (s2 - 1) w3 (by omega) (by omega) HM3.out (by rw [hd2s]; exact HH2.out))
        have hki : (k : Int) < (s2 : Int) := by omega
        have HLs := Lib.hid (first_least (ps := ps) (d := d2) (by rw [hd2s]; exact HH2.out))
        have HDs := Lib.hid hd2s
        clear hd2s hs1
        go_wp2_with fail
        refine HPy.out.mono ?_
        rintro e w4 ⟨rfl, d4, hs4, hp4, hh4, hm4⟩
        have HTn := Lib.hid (HTi.out.drop HNx.out HP2.out (by rw [Array.length_toList, HDs.out]; exact hgt) hp4 HLs.out)
        have HH4 := Lib.hid hh4
        have HM4 := Lib.hid hm4
        clear hs4 hp4 hh4 hm4
        go_wp2_with fail
        go_roundw
        case rel => exact ⟨i + 1, d4, _, by omega, by go_num, by rw [HTx.out]; exact HTn.out, HH4.out, HM4.out⟩
        case measure => simp [intOf]; omega
      · have hki : ¬ (k : Int) < (s2 : Int) := by omega
        have HTn := Lib.hid (HTi.out.put HP2.out (by rw [Array.length_toList, hd2s]; omega))
        have HDs := Lib.hid hd2s
        clear hd2s
        go_wp2_with fail
        go_roundw
        case rel => exact ⟨i + 1, d2, [], by omega, by go_num, by rw [HTx.out]; exact HTn.out, by rw [HDs.out]; exact HH2.out, HM3.out⟩
        case measure => simp [intOf]; omega
    · obtain rfl : m = i := by omega
      rw [HAll.out] at HTi
      have HLx := Lib.hid (HLn.out d wr HMk.out)
      have hmk := make_row (P := Try.prog) 31 3 (.int .i64 0) 8 Try.underlying31 hint_info rfl d.size (by omega) (by omega)
      have HPop0 := Lib.hid (PopI.start ps d.toList)
      have HDn := Lib.hid (show d.toList.Nodup from by
        have h1 := HNd0.out
        exact (List.nodup_append.1 (HTi.out.perm.nodup_iff.2 h1)).1)
      have HFin := Lib.hid (fun out (h : PopI ps d.toList [] out) => HTop.out d.toList rest out HTi.out h)
      obtain ⟨n0, hn0⟩ : ∃ n0, d.size = n0 := ⟨_, rfl⟩
      have HN0 := Lib.hid hn0
      rw [hn0] at HLx hmk hdl
      clear hn0
      go_wp2_with fail
      refine HLx.out.mono ?_
      rintro e w2 ⟨rfl, hm2⟩
      have hbk := zeros_blk w2 (.int .i64 0) n0 3
      rw [← natC_replicate] at hbk
      have HM3 := Lib.hid ((hm2.beside (.cells (zeros (.int .i64 0) n0) 3)).eq (Y := some (.cells (natC (List.replicate n0 0)).toArray 3 (0, 0))) hbk)
      have hq2 : w.heap.size + 1 ≤ w2.heap.size := by
        have h1 := hm2.bel.size
        omega
      clear hm2 hbk
      go_wp2_with fail
      generalize w2.alloc (.cells (zeros (.int .i64 0) n0) 3) = w3 at *
      generalize w2.heap.size = q at *
      have hz0 : (n0 : Int) - 1 = (n0 : Int) - 1 := rfl
      go_loopw [11] (fun u w' => ∃ (z : Int) (p : Nat) (d' : Array Nat) (out : List Nat), u = .int .i64 z ∧ z = (p : Int) - 1 ∧ d'.size = p ∧ p + out.length = n0 ∧ PopI ps d.toList d'.toList out ∧ HeapF (bfW ps) (rowA d') d'.size 0 ∧ HpM w1 (w.heap.size + 1) w.heap.size ps q (some (.cells (natC (List.replicate p 0 ++ out)).toArray 3 (0, 0))) d' w') (fun u _ => (intOf u + 1).toNat)
      case atStart => exact ⟨_, n0, d, [], rfl, rfl, HN0.out, rfl, HPop0.out, HHf.out, by rw [List.append_nil]; exact HM3.out⟩
      case round =>
        obtain ⟨z, p, d1, out, rfl, hz, hs1, hpl, hpi, hh1, hm1⟩ := hrel
        have HPi := Lib.hid hpi
        have HH1 := Lib.hid hh1
        have HM1 := Lib.hid hm1
        clear hpi hh1 hm1
        cases p with
        | zero =>
          have hz1 : z < 0 := by omega
          have HS1 := Lib.hid hs1
          clear hz hs1
          go_wp2_with fail
          go_ret
          have hd0 : d1.toList = [] := List.eq_nil_of_length_eq_zero (by rw [Array.length_toList]; exact HS1.out)
          have hpf := HPi.out
          rw [hd0] at hpf
          have hoT := HFin.out out hpf
          have hol : out.length = n0 := by omega
          rw [← hoT, hol]
          refine ⟨q, rfl, ?_, by omega, HB1.out.trans (HM1.out.bel.mono (by omega))⟩
          have := HM1.out.blk
          rwa [List.replicate_zero, List.nil_append] at this
        | succ p =>
          obtain rfl : z = (p : Int) := by omega
          have HPx := Lib.hid (HPq.out q _ d1 p _ hs1 (by omega) HM1.out HH1.out)
          have hta := fun xT W => run_assert_int (.int .i64 (rowA d1 0 : Nat)) xT W
          have HLs := Lib.hid (first_least (ps := ps) (d := d1) HH1.out)
          have HStep := Lib.hid (fun (d'' : List Nat) ha => HPi.out.step (a := rowA d1 0) (d'' := d'') HDn.out ha HLs.out)
          generalize rowA d1 0 = a at *
          have hpn : (p : Int) < (n0 : Int) := by omega
          have hln : p < (natC (List.replicate (p + 1) 0 ++ out)).length := by rw [natC_length, List.length_append, List.length_replicate]; omega
          have HBs := Lib.hid (back_step p a out)
          obtain ⟨v, hv⟩ : ∃ v, (natC (List.replicate (p + 1) 0 ++ out))[p]? = some v := ⟨_, List.getElem?_eq_getElem hln⟩
          have HV := Lib.hid hv
          have HPl := Lib.hid hpl
          clear hz hs1 hln hv hpl
          go_wp2_with fail
          refine HPx.out.mono ?_
          rintro e w4 ⟨rfl, d4, hs4, hp4, hh4, hm4⟩
          have hb4 := hm4.blk
          have c4 := hb4.cell p
          rw [HV.out] at c4
          have f4 := hb4.frozen p
          have hb5 := hb4.put p (.int .i64 (a : Int))
          rw [HBs.out] at hb5
          have HM5 := Lib.hid ((hm4.stored (i := p) hq2 (.int .i64 (a : Int))).eq (Y := some (.cells (natC (List.replicate p 0 ++ a :: out)).toArray 3 (0, 0))) hb5)
          have HP4 := Lib.hid (HStep.out d4.toList hp4)
          have HH4 := Lib.hid hh4
          have HS4 := Lib.hid hs4
          clear hs4 hp4 hh4 hm4 hb4 hb5
          go_wp2_with fail
          go_roundw
          case rel => exact ⟨(p : Int) - 1, p, d4, a :: out, rfl, rfl, HS4.out, by rw [List.length_cons]; have := HPl.out; omega, HP4.out, HH4.out, HM5.out⟩
          case measure => simp [intOf]

set_option maxRecDepth 100000 in
set_option maxHeartbeats 4000000 in
/-- grid.Top of points that may be. -/
theorem gtop_ok (A : Option Addr) (ps : List Pt3) (c : Nat) (r : Rc4) (k : Nat) (w : World) (he : ptsF ps = 0) (hr : r.Fits) (hL : Lies w w.heap.size A (ptC ps)) :
    Calls Try.prog 20 #[.slice A ps.length c, r.val, .int .i64 k] w (GivesGL w (topN (ssort (ltP ps ltW) (insR ps r)) k)) := by
  have hV := v2_of he
  have hb : ps.length ≤ 17592186044416 := by have := hV.x.few; omega
  have hp := fun W (h : Below w.heap.size w W) => gck_any A ps c W hb (hL.on h)
  rw [he] at hp
  have HP := Lib.hid hp
  have HT := Lib.hid (fun W (h : Below w.heap.size w W) => mktable_any A ps c W hV (hL.on h))
  have HFd := Lib.hid (fun t W hM => find_tab ps t r W hV (fits_low hr) hM)
  have HCn := Lib.hid (fun t W hC hM => points_tab ps t r W hV hC hM)
  have HHv := Lib.hid (fun A2 c2 W hW hl => heavy_any A ps c r A2 (ssort (ltP ps ltX) (insR ps r)) c2 k W hV.x.few (ssort_perm _ _) hW hl)
  have HL := Lib.hid hL
  have HB := Lib.hid (bnew w (.cells #[.int .i64 r.x0, .int .i64 r.y0, .int .i64 r.x1, .int .i64 r.y1] 27))
  have HK := Lib.hid (Blk.new w 27 [.int .i64 r.x0, .int .i64 r.y0, .int .i64 r.x1, .int .i64 r.y1])
  unfold GivesTb at HT
  unfold areaV GivesPl at HCn
  unfold GivesHv at HHv
  simp only [Tab.val] at HT HFd HCn
  unfold Rc4.val at HFd ⊢
  unfold GivesGL topN
  rw [Int.toNat_natCast]
  generalize (ssort (ltP ps ltW) (insR ps r)).take k = T at *
  generalize ssort (ltP ps ltX) (insR ps r) = L at *
  generalize cLo ps r = a1 at *
  generalize cHi ps r = a2 at *
  generalize rLo ps r = a3 at *
  generalize rHi ps r = a4 at *
  obtain ⟨n, hn⟩ : ∃ n, ps.length = n := ⟨_, rfl⟩
  have HN := Lib.hid hn
  rw [hn] at HP HT HFd HCn HHv ⊢
  clear hL hp he hr hV hb hn
  go_enter Try.func20, Try.ntmps20
  go_wp2_with fail
  refine (HP.out _ HB.out).mono ?_
  rintro e w1 ⟨rfl, hb1⟩
  have HB1 := Lib.hid (chain HB.out hb1)
  have HK1 := Lib.hid (HK.out.below hb1 HK.out.lt)
  clear hb1
  go_wp2_with fail
  refine (HT.out _ HB1.out).mono ?_
  rintro e w2 ⟨t, rfl, hM, hTo, hcap, hb2⟩
  have HX0 := Lib.hid (GoAt.start (HK1.out.below hb2 HK1.out.lt) hM (chain HB1.out hb2))
  unfold Tab.cells at HX0
  rw [HN.out] at HX0
  have HTo := Lib.hid hTo
  have HCap := Lib.hid hcap
  clear hM hTo hcap hb2
  go_wp2_with fail
  generalize hg : w2.heap.size = g at *
  have HX1 : Hid (GoAt w g ps t r (w2.alloc (.cells #[.slice t.x1 n t.cx1, .slice t.x2 n t.cx2, .slice t.x3 n t.cx3, .slice t.y1 n t.cy1, .slice t.y2 n t.cy2, .slice t.y3 n t.cy3, .slice t.m t.vs.length t.cm] 55))) := HX0
  clear HX0
  generalize (w2.alloc (.cells #[.slice t.x1 n t.cx1, .slice t.x2 n t.cx2, .slice t.x3 n t.cx3, .slice t.y1 n t.cy1, .slice t.y2 n t.cy2, .slice t.y3 n t.cy3, .slice t.m t.vs.length t.cm] 55)) = W0 at *
  clear hg
  have hsz := HX1.out.bel.size
  obtain ⟨d0, d1, d2, d3, d4, d5, d6, d7, d8, d9, d10⟩ := HX1.out.c HN.out
  go_region_held3 (fun W => W.cell? ⟨w.heap.size, 0, none⟩ = some (.int .i64 r.x0) ∧ W.cell? ⟨w.heap.size, 1, none⟩ = some (.int .i64 r.y0) ∧ W.cell? ⟨w.heap.size, 2, none⟩ = some (.int .i64 r.x1) ∧ W.cell? ⟨w.heap.size, 3, none⟩ = some (.int .i64 r.y1) ∧ W.cell? ⟨g, 0, none⟩ = some (.slice t.x1 n t.cx1) ∧ W.cell? ⟨g, 1, none⟩ = some (.slice t.x2 n t.cx2) ∧ W.cell? ⟨g, 2, none⟩ = some (.slice t.x3 n t.cx3) ∧ W.cell? ⟨g, 3, none⟩ = some (.slice t.y1 n t.cy1) ∧ W.cell? ⟨g, 4, none⟩ = some (.slice t.y2 n t.cy2) ∧ W.cell? ⟨g, 5, none⟩ = some (.slice t.y3 n t.cy3) ∧ W.cell? ⟨g, 6, none⟩ = some (.slice t.m t.vs.length t.cm))
    (first | exact HX1.out.c HN.out | exact HF1.out.c HN.out | exact HE.out.c HN.out | exact HE5.out.c HN.out)
    (first
      | (go_at_call 31; refine (HFd.out t _ ?_).mono ?_; exact HX1.out.drew.mem; rintro e w3 ⟨rfl, hb3⟩; have HF1 := Lib.hid (HX1.out.drew.on hb3))
      | (go_at_call 34; refine (HCn.out t _ HCap.out ?_).mono ?_; exact HF1.out.mem; rintro e w4 ⟨v, rfl, hown, hb4⟩; obtain ⟨A2, c2, rfl, hle, _, hl2, hn2, hnew⟩ := own_slice hown; have HE := Lib.hid (HF1.out.on hb4); have HW := Lib.hid hl2; clear hown hle hl2 hn2 hnew)
      | (go_at_call 38; refine (HHv.out A2 c2 _ ?_ ?_).mono ?_; exact HL.out.on HE.out.bel; exact HW.out; rintro e w5 ⟨q, rfl, hbk, hqq, hb5⟩; have HE5 := Lib.hid (HE.out.on hb5); have HQ := Lib.hid hbk; have HQq := Lib.hid hqq; clear hbk hqq))
  all_goals
    clear d0 d1 d2 d3 d4 d5 d6 d7 d8 d9 d10
    go_wp2_with fail
    go_ret2
    exact ⟨some ⟨q, 0, none⟩, T.length, rfl, Nat.le_refl _, HQ.out.lies, (fun e => by cases e), (fun ad e => by obtain rfl := Option.some.inj e; exact Nat.le_trans HE.out.bel.size HQq.out), HE5.out.bel⟩
end Go.Proofs.Ythmfcdefdbeefaa
