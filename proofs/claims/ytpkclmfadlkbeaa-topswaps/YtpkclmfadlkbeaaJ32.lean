/-
  TopSwaps: four ways to count swaps: walked over the translated text. No condition but what each theorem names.
-/
import Derived.Test.YtpkclmfadlkbeaaJ30
import Derived.Test.YtpkclmfadlkbeaaJ31
import Derived.Test.YtpkclmfadlkbeaaJ28
import Derived.Test.YtpkclmfadlkbeaaJ12
import Derived.Test.YtpkclmfadlkbeaaJ10
import Derived.Test.YtpkclmfadlkbeaaJ29
import Derived.Test.YtpkclmfadlkbeaaJ26
namespace Go.Proofs.Ytpkclmfadlkbeaa
open Go.RowKit Go.Sort Words

theorem own_stays {w w' : World} {base B sz : Nat} {e : TypeId} {v : Value} {n : Nat} {xs : List Value} (h : w.ownsRow base e sz v n xs) (hb : Below B w w') (hB : w.heap.size ≤ B) : w'.ownsRow base e sz v n xs := by
  refine ⟨h.1, ?_⟩
  rcases h.2 with ⟨rfl, hn⟩ | ⟨g, cap, cur, rfl, hb2, hh, hr⟩
  · exact .inl ⟨rfl, hn⟩
  · refine .inr ⟨g, cap, cur, rfl, hb2, (hb.block g ?_).trans hh, hr⟩
    rcases Nat.lt_or_ge g w.heap.size with h1 | h1
    · omega
    · rw [Array.getElem?_eq_none h1] at hh; cases hh
theorem zeros_tal (n : Nat) : List.replicate n (Value.int .i64 0) = cellsOf (fun _ => 0) n := by
  refine List.ext_getElem? fun k => ?_
  by_cases h : k < n
  · rw [cellsOf_get _ _ _ h, List.getElem?_replicate, if_pos h]
  · rw [List.getElem?_eq_none (by simp; omega), List.getElem?_eq_none (by rw [cellsOf_length]; omega)]

theorem swp_60 {l : List Nat} (h : l.length ≤ 60) : swp l ≤ 3600 := Nat.le_trans (swp_le l) (Nat.mul_le_mul h h)
/-- The numbers of a round. -/
theorem sw_sums {i n a m1 s1 r0 r1 y0 y1 t : Nat} (ha : a + r0 = t) (h1 : m1 + r1 = r0) (h2 : y1 + s1 = y0 + i ∧ s1 ≤ i) (h3 : y0 ≤ 3600) (h4 : t ≤ 3600) (hi : i < n) (hn : n ≤ 60) (hc : m1 ≤ n - (i + 1)) :
    ∃ a2 d : Nat, m1 ≤ 60 ∧ IntKind.i64.wrap ((i : Int) + 1) = ((i + 1 : Nat) : Int) ∧ wrap64 ((i : Int) + 1) = ((i + 1 : Nat) : Int) ∧ (a : Int) + (m1 : Int) = (a2 : Int) ∧ (i : Int) - (s1 : Int) = (d : Int) ∧ (y0 : Int) + (d : Int) = (y1 : Int) ∧ y1 ≤ 3700 ∧ a2 ≤ 3700 ∧ a2 + r1 = t :=
  ⟨a + m1, i - s1, by omega, by rw [IntKind.wrap_i64]; omega, by unfold wrap64; omega, by omega, by omega, by omega, by omega, by omega, by omega⟩

theorem sw_more {b r0 m1 r1 t : Nat} (hb : b + r0 = t) (h1 : m1 + r1 = r0) (ht : t ≤ 3600) : ∃ b2 : Nat, (b : Int) + (m1 : Int) = (b2 : Int) ∧ b2 ≤ 3600 ∧ m1 ≤ 3600 ∧ b2 + r1 = t := ⟨b + m1, by omega, by omega, by omega, by omega⟩

/-- What lies in newer memory stays where an elder row grows. -/
theorem lies_beside {w w2 : World} {B : Nat} {A : Option Addr} {xs : List Value} {o : Obj} {row : Option Nat} (h : Lies w w.heap.size A xs) (hn : New B A) (hg : (w.alloc o).grownBy w2 row) (hr : ∀ q, row = some q → q < B) : Lies w2 w2.heap.size A xs := fun hne => by
  obtain ⟨b, o', e, hb, hc⟩ := (h.alloc o) hne
  have h1 := hn _ e
  refine ⟨b, o', e, Nat.lt_of_lt_of_le hb hg.size, fun j v hv => ?_⟩
  rw [hg.cell_far ⟨b, o' + j, none⟩ hb fun e2 => by have := hr b e2.symm; simp only at h1; omega]
  exact hc j v hv
/-- Between two rounds of the first loop. -/
structure SwAt (P : List Nat) (n i : Nat) (wv sm t ps : Value) (wB w' : World) : Prop where
  wv : ∃ a : Nat, wv = .int .i64 a ∧ a + swp (P.drop i) = swp P
  sm : sm = .int .i64 (swp (P.take i) : Nat)
  t : ∃ A c, t = .slice A n c ∧ Lies w' w'.heap.size A (cellsOf (tr (tal P i)) n) ∧ (A = none → c = 0)
  ps : w'.ownsRow wB.heap.size 30 3 ps i (ptC (ptSw P i))
  bel : Below wB.heap.size wB w'

set_option maxRecDepth 100000 in
set_option maxHeartbeats 4000000 in
theorem tswaps_any (A : Option Addr) (l : List Int) (c : Nat) (a1 : Int) (w : World) (hl : l.length ≤ 17592186044416) (hw : ∀ z ∈ l, (Lit.int .i64 z).wf = true) (h1 : (Lit.int .i64 a1).wf = true) (hL : Lies w w.heap.size A (l.map (.int .i64))) :
    Calls Try.prog 7 #[.slice A l.length c, .int .i64 a1] w fun e w' => e = .returned (.bool true) ∧ Below w.heap.size w w' := by
  have hq := pick_lt (n := 60) (by decide) a1
  have HPk := Lib.hid (fun W => pick_any a1 60 W (by decide) (by decide) h1)
  generalize pick 60 a1 = q at *
  obtain ⟨n, hn⟩ : ∃ n, 1 + q = n := ⟨_, rfl⟩
  have hn1 : (1 : Int) + (q : Int) = (n : Int) := by omega
  have hn60 : n ≤ 60 := by omega
  have hn0 : 1 ≤ n := by omega
  have HSh := Lib.hid (fun W (h : Below w.heap.size w W) => shuffle_any A l c n W hn0 (by omega) hl hw (hL.on h))
  have hPp := shuf_perm l n
  have hPl := shuf_length l n
  unfold GivesL at HSh
  generalize shuf l n = P at *
  generalize l.length = m at *
  have HCp := Lib.hid (fun A c W hA hB => tcopied_any A P n c W hPl (by omega) hA hB)
  have HSw := Lib.hid (fun A c W hc hA hB => swaps_ok A P c W hPp (by omega) hc hA hB)
  have hx64 : ∀ x ∈ P, x < 2 ^ 6 := fun x hx => by have := hPp.lt x hx; omega
  have HWm := Lib.hid (fun A c W hA => wmk_any 6 A P c W (by omega) (by decide) hx64 hA)
  have HWb := Lib.hid (fun vs (hm : MadeOf P.length (levs 6 P) vs) => made_wv hm (by decide) (by decide) (by omega))
  have HBe := Lib.hid (fun vs (hm : MadeOf P.length (levs 6 P) vs) i (hi : i < P.length) x => wave_behind hm hx64 hi x)
  have HLv := Lib.hid (fun vs (hm : MadeOf P.length (levs 6 P) vs) => show vs.length = 6 by rw [hm.length, levs_length])
  have HFm := Lib.hid (fun A c W hA hB => fmk_fun A (fun _ => 0) n c W (by omega) (fun j _ => show (-1048576 : Int) ≤ 0 ∧ (0 : Int) ≤ 1048576 by decide) hA hB)
  have hmk := make_row (P := Try.prog) 31 3 (.int .i64 0) 8 Try.underlying31 int_info rfl n (by omega) (by omega)
  have HSp := Lib.hid (swp_le P)
  have HPp := Lib.hid hPp
  have HPs := Lib.hid (ptSw_ok hPp (by omega))
  unfold GivesT at HFm
  unfold GivesWave at HWm
  unfold TellsN at HSw
  rw [hPl] at HSw HWm HWb HBe HLv HSp HPs
  have HPl := Lib.hid hPl
  clear hL hw hl h1 hPp hPl hn hx64 hq
  go_enter Try.func7, Try.ntmps7
  go_wp2_with fail
  refine (HPk.out _).mono ?_
  rintro e w0 ⟨rfl, rfl⟩
  go_wp2_with fail
  refine (HSh.out _ (Below.refl _ _)).mono ?_
  rintro e w1 ⟨A1, c1, rfl, _, hl1, hn1', _, hb1⟩
  have HL1 := Lib.hid hl1
  have HN1 := Lib.hid hn1'
  have HB1 := Lib.hid hb1
  clear hl1 hn1' hb1
  go_wp2_with fail
  refine (HCp.out A1 c1 _ HN1.out HL1.out).mono ?_
  rintro e w2 ⟨A2, c2, rfl, hle2, hl2, hn2, hb2⟩
  have HS2 := Lib.hid (HSw.out A2 c2 _ hle2 hn2 hl2)
  have HB2 := Lib.hid hb2
  clear hle2 hl2 hn2 hb2 HSw
  go_wp2_with fail
  refine HS2.out.mono ?_
  rintro e w3 ⟨rfl, hb3⟩
  have HB3 := Lib.hid (chain HB2.out hb3)
  clear hb3 HS2 HB2
  go_wp2_with fail
  refine (HCp.out A1 c1 _ HN1.out (HL1.out.on HB3.out)).mono ?_
  rintro e w4 ⟨A4, c4, rfl, _, hl4, _, hb4⟩
  have HM4 := Lib.hid (HWm.out A4 c4 _ hl4)
  have HB4 := Lib.hid (chain HB3.out hb4)
  clear hl4 hb4 HWm HB3
  go_wp2_with fail
  refine HM4.out.mono ?_
  rintro e w5 ⟨Aw, vs, cw, rfl, hm, _, hmat, _, _, hb5⟩
  have HMd := Lib.hid hm
  have hs5 : (w5.alloc (.cells #[.slice Aw 6 cw] 45)).heap.size = w5.heap.size + 1 := World.size_alloc _ _
  have HX5 := Lib.hid (Blk.new w5 45 [.slice Aw 6 cw])
  have HMt := Lib.hid (hmat.alloc (.cells #[.slice Aw 6 cw] 45))
  have HB5 := Lib.hid (chain (chain HB4.out hb5) (bnew w5 (.cells #[.slice Aw 6 cw] 45)))
  clear hm hmat hb5 HM4 HB4
  have HZ := Lib.hid (zeros_blk (w5.alloc (.cells #[.slice Aw 6 cw] 45)) (.int .i64 0) n 3).lies
  rw [zeros_tal n, hs5] at HZ
  have HF5 := Lib.hid (HFm.out (some ⟨w5.heap.size + 1, 0, none⟩) n ((w5.alloc (.cells #[.slice Aw 6 cw] 45)).alloc (.cells (zeros (.int .i64 0) n) 3)) (fun e => by cases e) HZ.out)
  have HBa := Lib.hid (bnew (w5.alloc (.cells #[.slice Aw 6 cw] 45)) (.cells (zeros (.int .i64 0) n) 3))
  clear HFm HZ
  go_wp2_with fail
  refine HF5.out.mono ?_
  rintro e w6 ⟨At, ct, rfl, hlt, hnt, _, hb6⟩
  have HT6 := Lib.hid hlt
  have HNt := Lib.hid hnt
  have hb56 := chain HBa.out hb6
  have HB6 := Lib.hid (chain HB5.out hb56)
  have HM6 := Lib.hid (HMt.out.on hb56)
  have HX6 := Lib.hid (HX5.out.below hb56 HX5.out.lt)
  have HL6 := Lib.hid (HL1.out.on (chain HB5.out hb56))
  have HW0 := Lib.hid (chain HB1.out HB6.out)
  clear hlt hnt hb6 HF5 HBa hb56 HMt HX5 HL1 HB5 hs5
  obtain ⟨gw, hgw⟩ : ∃ gw, w5.heap.size = gw := ⟨_, rfl⟩
  rw [hgw] at HX6
  have hnn : ((n : Int) != (n : Int)) = false := by simp
  rw [hgw]
  clear hgw
  go_wp2_with fail
  obtain ⟨pb, po, rfl, hpb, hpall⟩ := HL6.out (fun e => by have := congrArg List.length e; rw [natC_length, HPl.out] at this; simp at this; omega)
  have HCx := Lib.hid (fun W (h : Below w6.heap.size w6 W) i x (hx : P[i]? = some x) => (h.cell (p := ⟨pb, po + i, none⟩) hpb).trans (hpall i (.int .i64 (x : Nat)) (by simp [natC, hx])))
  have hgx := HX6.out.lt
  have HCw := Lib.hid (fun W (h : Below w6.heap.size w6 W) => show W.cell? ⟨gw, 0, none⟩ = some (.slice Aw 6 cw) from (HX6.out.below h hgx).cell 0)
  have hv6 := HLv.out vs HMd.out
  have HBl := Lib.hid (fun i x (hi : i < n) W (h : Below w6.heap.size w6 W) => wbel_in n Aw vs cw (i + 1) n x W (HWb.out vs HMd.out) (HM6.out.on h) (by omega) (Nat.le_refl _))
  rw [hv6] at HBl
  have HBe2 := Lib.hid (fun i hi x => HBe.out vs HMd.out i hi x)
  have hsp : swp P ≤ 3600 := Nat.le_trans HSp.out (Nat.mul_le_mul hn60 hn60)
  have HL6' := HL6
  clear hpb hpall hgx hv6 HX6 HM6 HLv HWb HBe HSp
  go_loopw [11, 13, 14, 16, 17] (fun tv wv sm ps u w' => ∃ i : Nat, i ≤ n ∧ u = .int .i64 i ∧ SwAt P n i wv sm tv ps w6 w') (fun _ _ _ _ u _ => n - (intOf u).toNat)
  case atStart => exact ⟨0, Nat.zero_le _, rfl, ⟨0, rfl, by simp⟩, rfl, ⟨At, ct, rfl, by rw [show tal P 0 = fun _ => 0 from funext fun k => tal_zero P k]; exact HT6.out, HNt.out⟩, World.ownsRow_nil _ _ _ _, Below.refl _ _⟩
  case round =>
    obtain ⟨i, hi, rfl, ⟨a, rfl, ha⟩, rfl, ⟨At2, ct2, rfl, hlt, hnt⟩, hps, hbl⟩ := hrel
    by_cases hin : i < n
    · obtain ⟨x, hx⟩ : ∃ x, P[i]? = some x := ⟨_, List.getElem?_eq_getElem (by rw [HPl.out]; exact hin)⟩
      have hxn : x < n := by have := HPp.out.lt x (List.mem_of_getElem? hx); rw [HPl.out] at this; exact this
      have hb1 := swp_behind hx
      have hb2 := swp_take HPp.out hx
      have hb3 : swp (P.take i) ≤ 3600 := swp_60 (by rw [List.length_take]; omega)
      have hlm : Lim 60 (tal P i) n := fun k _ => tal_lim P i k (by omega)
      have HBl2 := Lib.hid (HBl.out i x hin)
      rw [HBe2.out i hin x] at HBl2
      have HSm := Lib.hid (fun W hA => fsum_tr At2 (tal P i) n ct2 x 60 W (by omega) hlm (by decide) (by decide) (by omega) hA)
      rw [tal_sum] at HSm
      have HAd := Lib.hid (fun W hA => fadd_fun At2 (tr (tal P i)) n ct2 x 1 36000 W (by omega) (hlm.tree (by omega) (by decide)) (by decide) hxn (by decide) hnt hA)
      rw [show added (tr (tal P i)) x 1 = tr (tal P (i + 1)) from by rw [← tal_step hx]; exact (funext fun j => (tr_upd (tal P i) x 1 j).symm)] at HAd
      have HPt := Lib.hid (ptSw_step P i)
      rw [st_of hx] at HPt
      have HX := Lib.hid hx
      have HBr := Lib.hid hbl
      have HTr := Lib.hid hlt
      have HPr := Lib.hid hps
      have c0 := HCw.out _ hbl
      have c1 := HCx.out _ hbl i x hx
      have hcl := cnt_le x (P.drop (i + 1))
      rw [List.length_drop, HPl.out] at hcl
      have hil : (i : Int) < (n : Int) := Int.ofNat_lt.2 hin
      unfold Tells8 at HSm
      unfold GivesT at HAd
      clear hx hbl hlt hnt hps hlm
      generalize cnt x (P.drop (i + 1)) = m1 at *
      generalize cnt x (P.take i) = s1 at *
      generalize hr1 : swp (P.drop (i + 1)) = r1 at *
      have HR1 := Lib.hid hr1
      clear hr1
      generalize hy1 : swp (P.take (i + 1)) = y1 at *
      have HY1 := Lib.hid hy1
      generalize swp (P.take i) = y0 at *
      generalize swp (P.drop i) = r0 at *
      clear hy1
      obtain ⟨a2, d, hmb, hwr, hwr2, ha3, hd1, hy2, hyb, hab, hA2⟩ := sw_sums ha hb1 hb2 hb3 hsp hin hn60 hcl
      have HA2 := Lib.hid hA2
      clear ha hb1 hb2 hb3 hA2 hcl
      generalize hi1 : i + 1 = i1 at *
      have HI1 := Lib.hid hi1
      clear hi1 c0 c1
      go_wp2_with fail
      go_region_held3 (fun W => W.cell? ⟨gw, 0, none⟩ = some (.slice Aw 6 cw) ∧ W.cell? ⟨pb, po + i, none⟩ = some (.int .i64 (x : Nat)))
        (first | exact ⟨HCw.out _ HBr.out.drew, HCx.out _ HBr.out.drew i x HX.out⟩ | exact ⟨HCw.out _ HB7.out, HCx.out _ HB7.out i x HX.out⟩)
        ((go_at_call 20; refine (HBl2.out _ HBr.out.drew).mono ?_; rintro e w7 ⟨rfl, hb7⟩; have HB7 := Lib.hid (chain HBr.out.drew hb7); have HR7 := Lib.hid (chain (Below.refl wr.heap.size wr).drew hb7)))
      all_goals
        clear hwr hwr2
        have d7 := HCx.out _ HB7.out i x HX.out
        have HS7 := Lib.hid (HSm.out w7 (HTr.out.on HR7.out))
        go_wp2_with fail
        refine HS7.out.mono ?_
        rintro e w8 ⟨rfl, hb8⟩
        have HB8 := Lib.hid (chain HB7.out hb8)
        have HR8 := Lib.hid (chain HR7.out hb8)
        have d8 := HCx.out _ HB8.out i x HX.out
        have HA8 := Lib.hid (HAd.out w8 (HTr.out.on HR8.out))
        clear d7 hb8
        go_wp2_with fail
        refine HA8.out.mono ?_
        rintro e w9 ⟨A9, c9, rfl, hl9, hn9, hnew9, hb9⟩
        have HNew := Lib.hid hnew9
        have HB9 := Lib.hid (chain HB8.out hb9)
        have HR9 := Lib.hid (chain HR8.out hb9)
        have HL9 := Lib.hid hl9
        have HN9 := Lib.hid hn9
        have d9 := HCx.out _ HB9.out i x HX.out
        have HP9 := Lib.hid (own_stays HPr.out HR9.out (Nat.le_refl _))
        have hz9 := HB9.out.size
        have HNl := Lib.hid (Blk.new w9 30 [.int .i64 (-(i : Int)), .int .i64 (x : Nat), .int .i64 0]).lies
        clear d8 hl9 hn9 hb9 hnew9
        go_wp2_with (at_builtin; go_loud (refine append_recs _ rfl (.tmp 121) (.tmp 129) 22 rfl w6.heap.size 30 (.agg #[.int .i64 0, .int .i64 0, .int .i64 0]) 3 24 Try.underlying22 sw_info rfl (by decide) u16 i (ptC (ptSw P i)) rfl (HP9.out.alloc _) (some ⟨w9.heap.size, 0, none⟩) 1 1 [.int .i64 (-(i : Int)), .int .i64 (x : Nat), .int .i64 0] rfl rfl (fun e => by cases e) HNl.out (fun u hu => by simp at hu; rcases hu with rfl | rfl | rfl <;> rfl) (by simp only [maxLen]; omega) (by omega) (by rw [World.size_alloc]; omega) ?_))
        intro v1 w10 hown hg
        rw [← HPt.out, HI1.out] at hown
        have HO10 := Lib.hid hown
        have HB10 := Lib.hid ((HB9.out.alloc hz9 _).grown hg (by rw [World.size_alloc]; omega) (fun q hq => by
          rcases HP9.out.2 with ⟨e, _⟩ | ⟨g, _, _, e, hb, _⟩
          · rw [e] at hq; cases hq
          · rw [e] at hq; cases hq; exact hb))
        have HL10 := Lib.hid (lies_beside HL9.out HNew.out hg fun q hq => Nat.lt_of_lt_of_le (HPr.out.lt q hq).2 HR8.out.size)
        clear hown hg d9 hz9
        go_wp2_with fail
        go_roundw
        case rel => exact ⟨i1, by have := HI1.out; omega, by rw [← HI1.out]; go_num, ⟨a2, rfl, by rw [HR1.out]; exact HA2.out⟩, by rw [HY1.out], ⟨A9, c9, rfl, HL10.out, HN9.out⟩, HO10.out, HB10.out⟩
        case measure => have := HI1.out; simp [intOf]; omega
    · obtain rfl : n = i := by omega
      have hd0 : P.drop n = [] := List.drop_eq_nil_of_le (by rw [HPl.out]; exact Nat.le_refl _)
      have ht0 : P.take n = P := by rw [← HPl.out, List.take_length]
      rw [hd0, show swp [] = 0 from rfl, Nat.add_zero] at ha
      subst ha
      rw [ht0]
      obtain ⟨As, cs, rfl, hls, hns, _⟩ := own_slice_all hps
      have HLs := Lib.hid hls
      have HNs := Lib.hid hns
      have HB7 := Lib.hid (chain HW0.out hbl)
      have HUn := Lib.hid (fun A c i W (hi : i < n) hA => sunder_ok A (ptSw P n) c i W hA HPs.out (by rw [ptSw_length]; exact hi))
      have HTp := Lib.hid (fun A c W hA hB => tpoints_any A (ptSw P n) c W (by rw [ptSw_length]; omega) hA hB)
      rw [ptSw_length] at HUn HTp
      unfold TellsG at HUn
      have HUd := Lib.hid (fun i x (hx : P[i]? = some x) => und_swap HPp.out hx)
      rw [HPl.out] at HUd
      clear hd0 ht0 hlt hnt hls hns hps hbl HCx HCw HBl HBe2 HL6 HL6' HT6 HNt HMd hnn
      go_wp2_with fail
      generalize wr = w7 at *
      go_loopw [15, 24] (fun us u w' => ∃ i b : Nat, i ≤ n ∧ u = .int .i64 i ∧ us = .int .i64 b ∧ b + swp (P.drop i) = swp P ∧ Below w7.heap.size w7 w') (fun _ u _ => n - (intOf u).toNat)
      case atStart => exact ⟨0, 0, Nat.zero_le _, rfl, rfl, by simp, Below.refl _ _⟩
      case round =>
        obtain ⟨i, b, hi, rfl, rfl, hb, hbl⟩ := hrel
        by_cases hin : i < n
        · obtain ⟨x, hx⟩ : ∃ x, P[i]? = some x := ⟨_, List.getElem?_eq_getElem (by rw [HPl.out]; exact hin)⟩
          have hb1 := swp_behind hx
          have HUi := Lib.hid (HUd.out i x hx)
          have HUn2 := Lib.hid (fun A c W hA => HUn.out A c i W hin hA)
          rw [HUi.out] at HUn2
          have HTp2 := Lib.hid (HTp.out As cs _ HNs.out (HLs.out.on hbl))
          have HBr := Lib.hid hbl
          have hil : (i : Int) < (n : Int) := Int.ofNat_lt.2 hin
          clear hx hbl HUi
          generalize cnt x (P.drop (i + 1)) = m1 at *
          generalize hr1 : swp (P.drop (i + 1)) = r1 at *
          have HR1 := Lib.hid hr1
          generalize swp (P.drop i) = r0 at *
          clear hr1
          obtain ⟨b2, hb2, hb3, hb4, hb5⟩ := sw_more hb hb1 hsp
          have HB5 := Lib.hid hb5
          clear hb hb1 hb5
          go_wp2_with fail
          refine HTp2.out.mono ?_
          rintro e w8 ⟨A8, c8, rfl, hl8, _, hb8⟩
          have HU8 := Lib.hid (HUn2.out A8 c8 w8 hl8)
          have HB8 := Lib.hid (chain HBr.out hb8)
          clear hl8 hb8
          go_wp2_with fail
          refine HU8.out.mono ?_
          rintro e w9 ⟨rfl, hb9⟩
          have HB9 := Lib.hid (chain HB8.out hb9)
          clear hb9
          go_wp2_with fail
          go_roundw
          case rel => exact ⟨i + 1, b2, by omega, by go_num, rfl, by rw [HR1.out]; exact HB5.out, HB9.out⟩
          case measure => simp [intOf]; omega
        · obtain rfl : n = i := by omega
          have hd0 : P.drop n = [] := List.drop_eq_nil_of_le (by rw [HPl.out]; exact Nat.le_refl _)
          rw [hd0, show swp [] = 0 from rfl, Nat.add_zero] at hb
          subst hb
          have HB9 := Lib.hid (chain HB7.out hbl)
          clear hd0 hbl
          go_wp2_with fail
          go_ret
          exact ⟨by simp, HB9.out⟩
end Go.Proofs.Ytpkclmfadlkbeaa
