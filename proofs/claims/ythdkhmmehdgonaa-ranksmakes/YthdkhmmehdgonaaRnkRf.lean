/-
  What the document's placeOf, and its RanksMake with its closure, return: contracts, walked over the translated text. No condition but what each theorem names.
-/
import Derived.Test.YthdkhmmehdgonaaRnkMk
namespace Go.Proofs.Ythdkhmmehdgonaa
open Go.RowKit Words

/-- What a look-up of a number leaves: a place, or -1. -/
def PlacedI (l : List Int) (x : Int) (w : World) (e : Ending) (w' : World) : Prop := ∃ r : Int, e = .returned (.int .i64 r) ∧ (x ∈ l → 0 ≤ r ∧ r ≤ 17592186044416) ∧ (x ∉ l → r = -1) ∧ w = w'

set_option maxHeartbeats 1000000 in
/-- The document's placeOf. -/
theorem place_int (A : Option Addr) (l : List Int) (c : Nat) (x : Int) (w : World) (hn : l.length ≤ 17592186044416) (hL : Lies w w.heap.size A (l.map (.int .i64))) :
    Calls Try.prog 17 #[.slice A l.length c, .int .i64 x] w (PlacedI l x w) := by
  have HL := Lib.hid hL
  obtain ⟨n, hk⟩ : ∃ n, l.length = n := ⟨_, rfl⟩
  rw [hk] at hn ⊢
  have HN := Lib.hid hk
  clear hk hL
  go_enter Try.func17, Try.ntmps17
  go_wp2_with fail
  go_loop [9] (fun u => ∃ i : Nat, i ≤ n ∧ u = .int .i64 i ∧ x ∉ l.take i) (fun u => n - (intOf u).toNat)
  case atStart => exact ⟨0, Nat.zero_le _, rfl, by simp⟩
  case round =>
    obtain ⟨i, hi, rfl, hso⟩ := hrel
    have HSo := Lib.hid hso
    clear hso
    by_cases hlt : i < n
    · obtain ⟨b, o, z, rfl, hb, hz, hc⟩ := HL.out.at_ (k := i) (by rw [HN.out]; exact hlt)
      have HZ := Lib.hid hz
      clear hz
      by_cases he : z = x
      · subst he
        have hne : (z == z) = true := by simp
        go_wp2_with fail
        go_ret
        exact ⟨i, rfl, fun _ => by omega, fun h => absurd (List.mem_of_getElem? HZ.out) h, rfl⟩
      · have hne : (z == x) = false := by simpa using he
        have HE := Lib.hid he
        clear he
        go_wp2_with fail
        go_round
        case rel => exact ⟨i + 1, by omega, by go_num, by
          rw [List.take_add_one, HZ.out, List.mem_append]
          rintro (h | h)
          · exact HSo.out h
          · exact HE.out (by simp at h; omega)⟩
        case measure => simp [intOf]; omega
    · obtain rfl : n = i := by omega
      have HF := Lib.hid (show x ∉ l by have := HSo.out; rwa [List.take_of_length_le (by rw [HN.out]; exact Nat.le_refl _)] at this)
      go_wp2_with fail
      go_ret
      exact ⟨-1, rfl, fun h => absurd h HF.out, fun _ => rfl, rfl⟩

set_option maxHeartbeats 1000000 in
/-- The document's closure: how many of the kinds are less. -/
theorem rank_closure (K : Nat) (A : Option Addr) (k : List Int) (c : Nat) (x : Int) (w : World) (hn : k.length ≤ 300) (hb : w.cell? ⟨K, 0, none⟩ = some (.slice A k.length c)) (hL : Lies w w.heap.size A (k.map (.int .i64))) :
    Calls Try.prog 18 #[.int .i64 x, .pointer (some ⟨K, 0, none⟩)] w fun e w' => e = .returned (.int .i64 (cntL k x : Nat)) ∧ w = w' := by
  have HL := Lib.hid hL
  have HT := Lib.hid (fun i v (h : k[i]? = some v) => cntL_take h x)
  have H0 := Lib.hid (show cntL (k.take 0) x = 0 from rfl)
  have HLen := Lib.hid (show cntL k x = cntL (k.take k.length) x by rw [List.take_length])
  obtain ⟨r, hr⟩ : ∃ r, cntL k x = r := ⟨_, rfl⟩
  rw [hr] at HLen ⊢
  obtain ⟨n, hk⟩ : ∃ n, k.length = n := ⟨_, rfl⟩
  rw [hk] at hn hb HLen
  have HN := Lib.hid hk
  clear hk hL hr
  go_enter Try.func18, Try.ntmps18
  go_wp2_with fail
  go_loop [4, 9] (fun a u => ∃ i m : Nat, i ≤ n ∧ m ≤ i ∧ a = .int .i64 m ∧ u = .int .i64 i ∧ m = cntL (k.take i) x) (fun _ u => n - (intOf u).toNat)
  case atStart => exact ⟨0, 0, Nat.zero_le _, Nat.le_refl _, rfl, rfl, H0.out.symm⟩
  case round =>
    obtain ⟨i, m, hi, hm, rfl, rfl, hcm⟩ := hrel
    have HM := Lib.hid hcm
    clear hcm
    by_cases hlt : i < n
    · obtain ⟨b, o, y, rfl, hb1, hy, hc⟩ := HL.out.at_ (k := i) (by rw [HN.out]; exact hlt)
      have HY := Lib.hid (HT.out i y hy)
      clear hy
      by_cases hyx : y < x
      · have HE := Lib.hid (show m + 1 = cntL (k.take (i + 1)) x by rw [HY.out, if_pos hyx, ← HM.out])
        go_wp2_with fail
        go_round
        case rel => exact ⟨i + 1, m + 1, by omega, by omega, by go_num, by go_num, HE.out⟩
        case measure => simp [intOf]; omega
      · have HE := Lib.hid (show m = cntL (k.take (i + 1)) x by rw [HY.out, if_neg hyx, ← HM.out]; rfl)
        go_wp2_with fail
        go_round
        case rel => exact ⟨i + 1, m, by omega, by omega, rfl, by go_num, HE.out⟩
        case measure => simp [intOf]; omega
    · obtain rfl : n = i := by omega
      obtain rfl : r = m := HLen.out.trans HM.out.symm
      go_wp2_with fail
      go_ret
      exact ⟨rfl, rfl⟩

set_option maxHeartbeats 1000000 in
theorem rmake_size12 (A : Option Addr) (n c : Nat) (w : World) (hn : 300 < n) (hb : n ≤ 17592186044416) :
    Calls Try.prog 7 #[.slice A n c] w (NoRk w 1) := by
  go_enter Try.func7, Try.ntmps7
  go_wp2_with fail
  go_ret3
  exact ⟨rfl, Below.refl _ _⟩

/-- The kinds while they are gathered: a box that holds a row of the call's own. -/
def KinAt (w : World) (k : List Int) (w' : World) : Prop := ∃ A c, Blk w' w.heap.size 22 [.slice A k.length c] ∧ w'.ownsRow (w.heap.size + 1) 3 1 (.slice A k.length c) k.length (k.map (.int .i64)) ∧ Below w.heap.size w w'

set_option maxHeartbeats 2000000 in
/-- The document's RanksMake. -/
theorem rmake_ranks (A : Option Addr) (l : List Int) (c : Nat) (w : World) (hn : l.length ≤ 300) (hL : Lies w w.heap.size A (l.map (.int .i64))) :
    Calls Try.prog 7 #[.slice A l.length c] w (GivesRk w (dst l) (rks l)) := by
  have HL := Lib.hid hL
  have HPl := Lib.hid (fun A k c x W (hk : k.length ≤ 300) hW => place_int A k c x W (by omega) hW)
  have HKs := Lib.hid (fun i x (h : l[i]? = some x) => kin_step h)
  have HK3 := Lib.hid (fun i => (kin_spec l i).2.2)
  have HKe := Lib.hid (show kin (l.take l.length) = kin l by rw [List.take_length])
  have HKl := Lib.hid (kin_len l)
  have HLA := Lib.hid (laidK_kin l)
  have hdl := dst_length_le l
  have hkl := kin_len l
  have HRC := Lib.hid (fun K A c x W hb hW => rank_closure K A (kin l) c x W (by rw [kin_len]; omega) hb hW)
  have HCn := Lib.hid (fun x => kin_cnt l x)
  have HLS := Lib.hid (fun k x (hx : x ∈ kin l) => laidK_step (dst_lt l) k ((kin_perm l).mem_iff.1 hx))
  have HCl := Lib.hid (fun x (hx : x ∈ kin l) => cnt_lt (dst_lt l) ((kin_perm l).mem_iff.1 hx))
  have HRk := Lib.hid (fun i x (h : l[i]? = some x) => rks_get h)
  have HRl := Lib.hid (rks_length l)
  have HL0 := Lib.hid (laidK_nil (dst l))
  have HLl := Lib.hid (fun k => laidK_length (dst l) k)
  unfold GivesRk
  rw [rks_length]
  obtain ⟨n, hnn⟩ : ∃ n, l.length = n := ⟨_, rfl⟩
  have HN := Lib.hid hnn
  rw [hnn] at hn hdl HKe ⊢
  obtain ⟨m, hm⟩ : ∃ m, (dst l).length = m := ⟨_, rfl⟩
  have HML := Lib.hid hm
  have HM := Lib.hid (hkl.trans hm)
  rw [hm] at hdl HL0 HLl HCl ⊢
  rw [hkl, hm] at HRC
  clear hnn hL hm
  have hd : decide ((300 : Int) < (n : Int)) = false := by simp; omega
  go_enter Try.func7, Try.ntmps7
  go_wp2_with fail
  have HKb := Lib.hid (Blk.new w 22 [.slice none 0 0])
  have HBw := Lib.hid (bnew w (.cells #[.slice none 0 0] 22))
  generalize w.alloc (.cells #[.slice none 0 0] 22) = w0 at *
  go_loopw [20] (fun u w' => ∃ i : Nat, i ≤ n ∧ u = .int .i64 i ∧ KinAt w (kin (l.take i)) w') (fun u _ => n - (intOf u).toNat)
  case atStart => exact ⟨0, Nat.zero_le _, rfl, none, 0, HKb.out, World.ownsRow_nil _ _ _ _, HBw.out⟩
  case round =>
    obtain ⟨i, hi, rfl, A1, c1, hbk, hown, hbl⟩ := hrel
    have HBk := Lib.hid hbk
    have HO := Lib.hid hown
    have HB := Lib.hid hbl
    have hcb := hbk.cell 0
    have hfb := hbk.frozen 0
    obtain ⟨_, _, _, _, _, hl1, _, _⟩ := own_slice hown
    have HE := Lib.hid (show ∀ (Ax : Option Addr) (cx : Nat), Value.slice A1 (kin (l.take i)).length c1 = .slice Ax (kin (l.take i)).length cx → Ax = A1 ∧ cx = c1 from fun Ax cx e => by injection e with e1 _ e2; exact ⟨e1.symm, e2.symm⟩)
    clear hl1
    have hl1 : Lies wr wr.heap.size A1 ((kin (l.take i)).map (.int .i64)) := by
      obtain ⟨Ax, cx, e, _, _, hl, _, _⟩ := own_slice hown
      obtain ⟨rfl, rfl⟩ := HE.out Ax cx e
      exact hl
    clear HE
    by_cases hlt : i < n
    · obtain ⟨b, o, x, rfl, hb, hx, hc⟩ := (HL.out.below hbl).at_ (k := i) (by rw [HN.out]; exact hlt)
      have HX := Lib.hid hx
      have hkk := HK3.out i
      have HP := Lib.hid (HPl.out A1 (kin (l.take i)) c1 x wr (by omega) hl1)
      have HSt := Lib.hid (HKs.out i x HX.out)
      unfold PlacedI at HP
      generalize kin (l.take i) = k at *
      obtain ⟨kn, hkn⟩ : ∃ kn, k.length = kn := ⟨_, rfl⟩
      have HKn := Lib.hid hkn
      rw [hkn] at hkk hcb HP HBk HO
      clear hkn hx hbk hown hbl hl1
      by_cases hm : x ∈ k
      · rw [if_pos hm] at HSt
        go_wp2_with fail
        refine HP.out.mono ?_
        rintro e w' ⟨r, rfl, h1, h2, rfl⟩
        obtain ⟨hr0, hr1⟩ := h1 hm
        clear h1 h2 HP
        go_wp2_with fail
        go_roundw
        case rel => exact ⟨i + 1, by omega, by go_num, by rw [HSt.out]; exact ⟨A1, c1, by rw [HKn.out]; exact HBk.out, by rw [HKn.out]; exact HO.out, HB.out⟩⟩
        case measure => simp [intOf]; omega
      · rw [if_neg hm] at HSt
        go_wp2_with fail
        refine HP.out.mono ?_
        rintro e w' ⟨r, rfl, h1, h2, rfl⟩
        obtain rfl := h2 hm
        clear h1 h2 HP
        have hsw := HB.out.size
        have hklt := HBk.out.lt
        go_wp2_with (at_builtin; go_loud (refine append_one _ rfl (.tmp 28) (.tmp 30) 22 rfl (w.heap.size + 1) 3 (.int .i64 0) 8 Try.underlying22 rint_info rfl (.slice A1 kn c1) kn _ rfl (HO.out.alloc _) wr.heap.size 1 (.int .i64 x) rfl (by simp) rfl (by simp only [maxLen]; omega) (by omega) (by simp; omega) ?_))
        intro v1 w3 hown1 hg1
        have hlen : (k ++ [x]).length = kn + 1 := by rw [List.length_append, HKn.out]; rfl
        have hb3 : Blk w3 w.heap.size 22 [.slice A1 kn c1] := (hg1.block w.heap.size (by simp; omega) (fun e => by have := (HO.out.lt _ e.symm).1; omega)).trans (HBk.out.alloc _)
        have HB3 := Lib.hid ((HB.out.alloc hsw _).grown hg1 (by simp; omega) (fun q hq => by have := (HO.out.lt q hq).1; omega))
        obtain ⟨A3, c3, rfl, _, _, _, _, _⟩ := own_slice hown1
        have hc3 := hb3.cell 0
        have hf3 := hb3.frozen 0
        have HBx := Lib.hid (hb3.put 0 (.slice A3 (kn + 1) c3))
        have HOx := Lib.hid (own_keep hown1 (w' := w3.setCell ⟨w.heap.size, 0, none⟩ (.slice A3 (kn + 1) c3)) (fun q hq => Below.heap_setCell w3 _ _ q (fun e => by have := (hown1.lt q hq).1; simp at e; omega)))
        clear hb3 hown1 hg1
        go_wp2_with fail
        go_roundw
        case rel => exact ⟨i + 1, by omega, by go_num, by
          rw [HSt.out]
          refine ⟨A3, c3, ?_, ?_, HB3.out.setCell (Nat.le_refl _) _⟩
          · rw [hlen]; exact HBx.out
          · rw [hlen, List.map_append]; exact HOx.out⟩
        case measure => simp [intOf]; omega
    · obtain rfl : n = i := by omega
      rw [HKe.out] at hcb hl1 HBk HO
      rw [HM.out] at hcb HBk HO
      have hmk := make_row (P := Try.prog) 22 3 (.int .i64 0) 8 Try.underlying22 rint_info rfl m (by omega) (by omega)
      have HL1 := Lib.hid hl1
      clear hkl hbk hown hl1 hbl
      have hcb1 : (wr.alloc (.cells (zeros (.int .i64 0) m) 3)).cell? ⟨w.heap.size, 0, none⟩ = some (.slice A1 m c1) := (HBk.out.alloc _).cell 0
      go_wp2_with fail
      have hbz := zeros_blk wr (.int .i64 0) m 3
      have HBl := Lib.hid (bnew wr (.cells (zeros (.int .i64 0) m) 3))
      generalize wr.alloc (.cells (zeros (.int .i64 0) m) 3) = w2 at *
      have HBz := Lib.hid hbz
      clear hbz hmk
      go_loopw [39] (fun u w' => ∃ i : Nat, i ≤ m ∧ u = .int .i64 i ∧ Blk w' wr.heap.size 3 ((laidK (dst l) ((kin l).take i)).map (.int .i64)) ∧ Below wr.heap.size wr w') (fun u _ => m - (intOf u).toNat)
      case atStart => exact ⟨0, Nat.zero_le _, rfl, by rw [List.take_zero, HL0.out, List.map_replicate]; exact HBz.out, HBl.out⟩
      case round =>
        rename World => wz
        obtain ⟨i, hi, rfl, hbk, hbl⟩ := hrel
        have HBk2 := Lib.hid hbk
        have HB2 := Lib.hid hbl
        have hcb2 := (HBk.out.below hbl HBk.out.lt).cell 0
        by_cases hlt : i < m
        · obtain ⟨b, o, x, rfl, hb, hx, hc⟩ := (HL1.out.on hbl).at_ (k := i) (by rw [HM.out]; exact hlt)
          have HX := Lib.hid hx
          have HMe := Lib.hid (List.mem_of_getElem? hx)
          have HCx := Lib.hid (HRC.out w.heap.size (some ⟨b, o, none⟩) c1 x wz hcb2 (HL1.out.on hbl))
          rw [HCn.out] at HCx
          have hcl := HCl.out x HMe.out
          have HSt := Lib.hid (HBk2.out.put (cntL (dst l) x) (.int .i64 x))
          rw [show ((laidK (dst l) ((kin l).take i)).map (Value.int .i64)).set (cntL (dst l) x) (.int .i64 x) = (laidK (dst l) ((kin l).take (i + 1))).map (.int .i64) by
            rw [List.take_add_one, HX.out, Option.toList_some, ← HLS.out _ x HMe.out, List.map_set]] at HSt
          obtain ⟨y, hy⟩ : ∃ y, (laidK (dst l) ((kin l).take i))[cntL (dst l) x]? = some y := ⟨_, List.getElem?_eq_getElem (by rw [HLl.out]; exact hcl)⟩
          have hcy := hbk.cell (cntL (dst l) x)
          rw [List.getElem?_map, hy] at hcy
          have hcy2 : wz.cell? ⟨wr.heap.size, cntL (dst l) x, none⟩ = some (.int .i64 y) := hcy
          have hfy := hbk.frozen (cntL (dst l) x)
          generalize cntL (dst l) x = r at *
          have hri : (r : Int) < (m : Int) := by omega
          clear hx hbk hbl hy hcy
          go_wp2_with fail
          refine HCx.out.mono ?_
          rintro e w' ⟨rfl, rfl⟩
          go_wp2_with fail
          go_roundw
          case rel => exact ⟨i + 1, by omega, by go_num, HSt.out, HB2.out.setCell (Nat.le_refl _) _⟩
          case measure => simp [intOf]; omega
        · obtain rfl : m = i := by omega
          have hful : laidK (dst l) ((kin l).take m) = dst l := by rw [List.take_of_length_le (by rw [HM.out]; exact Nat.le_refl _)]; exact HLA.out
          rw [hful] at HBk2
          clear hful hbk hbl
          go_wp2_with fail
          go_loopw [12, 52] (fun v u w' => ∃ i : Nat, i ≤ n ∧ u = .int .i64 i ∧ w'.ownsRow wz.heap.size 3 1 v i (((rks l).take i).map (.int .i64)) ∧ Below wz.heap.size wz w') (fun _ u _ => n - (intOf u).toNat)
          case atStart => exact ⟨0, Nat.zero_le _, rfl, World.ownsRow_nil _ _ _ _, Below.refl _ _⟩
          case round =>
            rename World => wy
            obtain ⟨i, hi, rfl, hown, hbl⟩ := hrel
            have HO3 := Lib.hid hown
            have HB3 := Lib.hid hbl
            have hcb3 := ((HBk.out.below HB2.out HBk.out.lt).below hbl (HBk.out.below HB2.out HBk.out.lt).lt).cell 0
            by_cases hlt : i < n
            · obtain ⟨b, o, x, rfl, hb, hx, hc⟩ := (((HL.out.on HB.out).on HB2.out).on hbl).at_ (k := i) (by rw [HN.out]; exact hlt)
              have HX := Lib.hid hx
              have HCx := Lib.hid (HRC.out w.heap.size A1 c1 x wy hcb3 ((HL1.out.on HB2.out).on hbl))
              rw [HCn.out] at HCx
              have HSt := Lib.hid (show ((rks l).take (i + 1)).map (Value.int .i64) = ((rks l).take i).map (.int .i64) ++ [.int .i64 (cntL (dst l) x : Nat)] by
                rw [List.take_add_one, HRk.out i x HX.out, List.map_append]; rfl)
              generalize cntL (dst l) x = r at *
              have hsz := hbl.size
              clear hx hown hbl
              go_wp2_with fail
              refine HCx.out.mono ?_
              rintro e w' ⟨rfl, rfl⟩
              go_wp2_with (at_builtin; go_loud (refine append_one _ rfl (.tmp 56) (.tmp 60) 22 rfl wz.heap.size 3 (.int .i64 0) 8 Try.underlying22 rint_info rfl u12 i _ rfl (HO3.out.alloc _) wy.heap.size 1 (.int .i64 r) rfl (by simp) rfl (by simp only [maxLen]; omega) (by omega) (by simp; omega) ?_))
              intro v1 w3 hown1 hg1
              go_wp2_with fail
              go_roundw
              case rel => exact ⟨i + 1, by omega, by go_num, by rw [HSt.out, List.map_take]; exact hown1, (HB3.out.alloc hsz _).grown hg1 (by simp; omega) (fun q hq => (HO3.out.lt q hq).1)⟩
              case measure => simp [intOf]; omega
            · obtain rfl : n = i := by omega
              rw [List.take_of_length_le (by rw [HRl.out, HN.out]; exact Nat.le_refl _)] at hown
              obtain ⟨A3, c3, rfl, _, _, hl3, hn3, hnew3⟩ := own_slice hown
              have HR1 := Lib.hid hl3
              have HR2 := Lib.hid hn3
              have HR3 := Lib.hid hnew3
              have HV := Lib.hid (HBk2.out.below hbl HBk2.out.lt)
              have hs1 := Lib.hid (HB.out.size)
              have hs2 := Lib.hid (HB2.out.size)
              clear hown hbl hl3 hn3 hnew3
              go_wp2_with fail
              go_ret3
              exact ⟨some ⟨wr.heap.size, 0, none⟩, m, A3, c3, rfl, HV.out.lies, (fun e => by cases e), (fun ad e => by obtain rfl := Option.some.inj e; exact hs1.out), HR1.out, HR2.out, HR3.out.mono (by have := hs1.out; have := hs2.out; omega), chain (chain HB.out HB2.out) HB3.out⟩
end Go.Proofs.Ythdkhmmehdgonaa
