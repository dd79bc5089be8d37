/-
  What the document's reading of a matrix returns: its numbers. Contracts, walked over the translated text. No condition but what each theorem names.
-/
import Derived.Test.YtefgfkicacbmeaaWavRd
namespace Go.Proofs.Ytefgfkicacbmeaa
open Go.RowKit Words

/-- Memory between the levels. -/
structure OuAt (w : World) (n k c : Nat) (A : Option Addr) (L : List Int) (ord : List Nat) (V : Value) (W : World) : Prop where
  box : Blk W w.heap.size 25 [.slice A k c]
  out : Blk W (w.heap.size + 1) 3 (L.map (.int .i64))
  row : W.ownsRow (w.heap.size + 2) 3 1 V n (natC ord)
  bel : Below w.heap.size w W

theorem OuAt.read {w : World} {n k c : Nat} {A : Option Addr} {L : List Int} {ord : List Nat} {V : Value} {W W' : World} (h : OuAt w n k c A L ord V W) (hb : Below W.heap.size W W') {A2 : Option Addr} {bl : List Value} (hl : Lies W' W'.heap.size A2 bl) (hn : New W.heap.size A2) :
    RdAt w W'.heap.size n k c 0 0 A A2 L ord [] [] bl V (.slice none 0 0) (.slice none 0 0) W' := by
  have h1 := h.out.lt
  have h2 := hb.size
  have hr := own_below h.row hb (Nat.le_refl _)
  exact ⟨h.box.below hb h.box.lt, h.out.below hb h1, hr, World.ownsRow_nil _ _ _ _, World.ownsRow_nil _ _ _ _, fun q hq => own_lt hr hq, (fun q hq => by cases hq), hl, hn.mono (by omega), by omega, Nat.le_refl _, chain h.bel hb⟩

theorem RdAt.ends {w : World} {B n k c nz no : Nat} {A A2 : Option Addr} {L : List Int} {ord zs os : List Nat} {bl : List Value} {V Z O : Value} {W : World} (h : RdAt w B n k c nz no A A2 L ord zs os bl V Z O W) {V' : Value} {W' : World}
    (hown : W'.ownsRow B 3 1 V' (nz + no) (natC zs ++ natC os)) (hg : W.grownBy W' Z.ownBlock) (hno : nz + no = n) : OuAt w n k c A L (zs ++ os) V' W' := by
  have hk : ∀ q, q < W.heap.size → some q ≠ Z.ownBlock → W'.heap[q]? = W.heap[q]? := fun q hq hne => hg.block q hq hne
  have hz : ∀ q, q < B → some q ≠ Z.ownBlock := fun q hq e => by have := (h.zer.lt q e.symm).1; omega
  have hBW := h.BW
  have hwB := h.wB
  refine ⟨(hk _ (by omega) (hz _ (by omega))).trans h.box, (hk _ (by omega) (hz _ (by omega))).trans h.out, ?_, ?_⟩
  · rw [natC_append, ← hno]
    exact own_base hown hwB
  · exact h.bel.grown hg (by have := h.bel.size; omega) (fun q hq => by have := (h.zer.lt q hq).1; omega)

theorem rwread_nil (A : Option Addr) (c : Nat) (w : World) :
    Calls Try.prog 48 #[.agg #[.slice A 0 c]] w fun e w' => e = .returned (.slice none 0 0) ∧ Below w.heap.size w w' := by
  go_enter Try.func48, Try.ntmps48
  go_wp2
  go_ret
  exact ⟨rfl, bnew _ _⟩

set_option maxRecDepth 100000 in
set_option maxHeartbeats 8000000 in
/-- The document's reading of a matrix that has levels. -/
theorem rwread_in (n : Nat) (A : Option Addr) (vs : List Lev) (c : Nat) (w : World) (hV : WV n vs) (h0 : 0 < vs.length) (hM : Mat w w.heap.size A vs) :
    Calls Try.prog 48 #[.agg #[.slice A vs.length c]] w (GivesSlice w ((lsI n (fns vs)).map (.int .i64))) := by
  have hk := hV.few
  have hn := hV.hi
  have HE := Lib.hid hV.each
  have HM := Lib.hid hM
  have hfl := fns_length vs
  obtain ⟨b, p, v0, rfl, hb, hv0, hl0, _, _⟩ := hM.at_ (i := 0) h0
  rw [(HE.out v0 (List.mem_of_getElem? hv0)).1, Nat.zero_mul, Nat.add_zero] at hl0
  have HO0 := Lib.hid (OrdAt.start n (fns vs))
  have HL0 := Lib.hid (OutL.start n (fns vs))
  rw [hfl] at HO0 HL0
  have hbs : (fns vs).length ≤ 21 := by omega
  have HT := Lib.hid (fun j o => top_lt n (fns vs) vs.length j o hbs)
  have HDn := Lib.hid (fun L => @OutL.done n (fns vs) vs.length L)
  have HDr := Lib.hid (fun i v h => fns_drop vs i v h)
  clear hM hV hv0
  generalize fns vs = bs at *
  generalize hkk : vs.length = k at *
  have HK := Lib.hid hkk
  have HFL := Lib.hid hfl
  clear hkk hfl hbs
  have hmk := make_row (P := Try.prog) 22 3 (.int .i64 0) 8 Try.underlying22 wint_info rfl n (by omega) (by omega)
  have hz0 : ((k : Int) == 0) = false := by simp; omega
  go_enter Try.func48, Try.ntmps48
  go_wp2_with fail
  have hB1 := (Blk.new w 25 [.slice (some ⟨b, p, none⟩) k c]).alloc (.cells (zeros (.int .i64 0) n) 3)
  have hB2 := zeros_blk (w.alloc (.cells #[.slice (some ⟨b, p, none⟩) k c] 25)) (.int .i64 0) n 3
  have hbel := chain (bnew w (.cells #[.slice (some ⟨b, p, none⟩) k c] 25)) (bnew _ (.cells (zeros (.int .i64 0) n) 3))
  have hs1 : ((w.alloc (.cells #[.slice (some ⟨b, p, none⟩) k c] 25)).alloc (.cells (zeros (.int .i64 0) n) 3)).heap.size = w.heap.size + 2 := by simp
  rw [World.size_alloc, show List.replicate n (Value.int .i64 0) = (List.replicate n (0 : Int)).map (.int .i64) by simp] at hB2
  generalize (w.alloc (.cells #[.slice (some ⟨b, p, none⟩) k c] 25)).alloc (.cells (zeros (.int .i64 0) n) 3) = w1 at *
  have HB1 := Lib.hid hB1
  have HB2 := Lib.hid hB2
  have HB := Lib.hid hbel
  have HS1 := Lib.hid hs1
  clear hB1 hB2 hbel hs1 hl0 hmk
  go_loopw [5, 6] (fun s5 s6 w' => ∃ i : Nat, i ≤ n ∧ s6 = .int .i64 i ∧ w'.ownsRow (w.heap.size + 2) 3 1 s5 i (natC (List.range i)) ∧ Below (w.heap.size + 2) w1 w') (fun _ s6 _ => n - (intOf s6).toNat)
  case atStart => exact ⟨0, Nat.zero_le _, rfl, World.ownsRow_nil _ _ _ _, Below.refl _ _⟩
  case round =>
    obtain ⟨i, hi, rfl, hown, hbl⟩ := hrel
    have hsz : w.heap.size + 2 ≤ wr.heap.size := by have := hbl.size; have := HS1.out; omega
    by_cases hlt : i < n
    · go_wp2_with (at_builtin; go_loud (refine append_one _ rfl (.tmp 29) (.tmp 31) 22 rfl (w.heap.size + 2) 3 (.int .i64 0) 8 Try.underlying22 wint_info rfl u5 i _ rfl (hown.alloc _) wr.heap.size 1 (.int .i64 i) rfl (by simp) rfl (by simp only [maxLen]; omega) (by omega) (by simp; omega) ?_))
      intro v1 w2 hown1 hg1
      go_wp2
      go_roundw
      case rel => exact ⟨i + 1, by omega, by go_num, by rw [range_natC]; exact hown1, (hbl.alloc hsz _).grown hg1 (by simp; omega) (fun q hq => (hown.lt q hq).1)⟩
      case measure => simp [intOf]; omega
    · obtain rfl : n = i := by omega
      have hsl : w.heap.size + 1 < w1.heap.size := by have := HS1.out; omega
      have hb1 := HB1.out.below hbl (by omega)
      have HOu := Lib.hid (show OuAt w n k c (some ⟨b, p, none⟩) (List.replicate n 0) (List.range n) u5 wr from ⟨hb1, HB2.out.below hbl (by omega), hown, HB.out.trans (hbl.mono (by omega))⟩)
      have q0 : wr.cell? ⟨w.heap.size, 0, none⟩ = some (.slice (some ⟨b, p, none⟩) k c) := hb1.cell 0
      have hlt0 := hb1.lt
      clear hb1 hown hbl hlt HB1 HB2 HB
      go_wp2_with fail
      clear q0
      go_loopw [5, 36] (fun s5 s36 w' => ∃ (j : Nat) (ord : List Nat) (L : List Int), j ≤ k ∧ s36 = .int .i64 j ∧ OrdAt n bs k j ord ∧ OutL n bs k j L ∧ OuAt w n k c (some ⟨b, p, none⟩) L ord s5 w') (fun _ s36 _ => k - (intOf s36).toNat)
      case atStart => exact ⟨0, _, _, Nat.zero_le _, rfl, HO0.out, HL0.out, HOu.out⟩
      case round =>
        rename World => wq
        obtain ⟨j, ord, L, hj, rfl, hord, hL, hou⟩ := hrel
        have HORD := Lib.hid hord
        have HL := Lib.hid hL
        have HOU := Lib.hid hou
        have hbm := hou.box.lt
        have hbm1 := hou.out.lt
        clear hord hL hou
        by_cases hlt : j < k
        · obtain ⟨b', p', v, he, hb', hv, hc0, hc1, hWv⟩ := (HM.out.on HOU.out.bel).at_ (i := j) (by rw [HK.out]; exact hlt)
          simp only [Option.some.injEq, Addr.mk.injEq, and_true] at he
          obtain ⟨rfl, rfl⟩ := he
          obtain ⟨hvn, hVv⟩ := HE.out v (List.mem_of_getElem? hv)
          rw [hvn] at hc0
          have hdr := HDr.out j v hv
          have HDR := Lib.hid hdr
          have HBo := Lib.hid (fun W hW => bools_any n v.adr v.ws v.cap W hVv hW)
          have HWv := Lib.hid (hWv.alloc (.cells #[.int .i64 n, .slice v.adr v.ws.length v.cap] 32))
          have hnew := Lib.hid (bnew wq (.cells #[.int .i64 n, .slice v.adr v.ws.length v.cap] 32))
          clear hdr hv hvn hVv hWv
          go_wp2_with fail
          refine (HBo.out _ (by exact HWv.out)).mono ?_
          rintro e w3 ⟨A2, c2, rfl, hle2, hl2, _, hnew2, hb3⟩
          simp only [List.length_map, List.length_range] at hle2 ⊢
          have HR := Lib.hid (HOU.out.read (chain hnew.out hb3) hl2 (hnew2.mono (by simp)))
          have HB3 := Lib.hid (chain hnew.out hb3)
          have HMi := Lib.hid (HL.out.mid HORD.out)
          have hs3 : w.heap.size + 1 < w3.heap.size := Nat.lt_of_lt_of_le hbm1 HB3.out.size
          clear hl2 hnew2 hb3 hc0 hc1 HBo HWv hnew
          go_wp2_with fail
          go_loopw [9, 10, 43] (fun s9 s10 s43 w' => ∃ (i : Nat) (L' : List Int), i ≤ n ∧ s43 = .int .i64 i ∧ MidL n bs k j ord i L' ∧ RdAt w w3.heap.size n k c (zsO (bit v.ws) ord i).length (osO (bit v.ws) ord i).length (some ⟨b, p, none⟩) A2 L' ord (zsO (bit v.ws) ord i) (osO (bit v.ws) ord i) ((List.range n).map fun i => .bool (bit v.ws i)) u5 s9 s10 w') (fun _ _ s43 _ => n - (intOf s43).toNat)
          case atStart => exact ⟨0, L, Nat.zero_le _, rfl, HMi.out, HR.out⟩
          case round =>
            obtain ⟨i, L', hi, rfl, hmid, hat⟩ := hrel
            have HMr := Lib.hid hmid
            have HRr := Lib.hid hat
            have hnz : (zsO (bit v.ws) ord i).length ≤ 300 := by rw [zsO_length]; omega
            have hno : (osO (bit v.ws) ord i).length ≤ 300 := by rw [osO_length]; have := tally_le (bit v.ws) i; omega
            have hbw := hat.BW
            clear hmid hat
            by_cases hli : i < n
            · obtain ⟨o, ho⟩ : ∃ o, ord[i]? = some o := ⟨_, List.getElem?_eq_getElem (by rw [HORD.out.length]; exact hli)⟩
              obtain ⟨g, cap, hVf, hgb, hglt⟩ := HRr.out.row.form (by omega)
              subst hVf
              have qo : wr.cell? ⟨g, i, none⟩ = some (.int .i64 (o : Nat)) := (HRr.out.row.cellAt i (by omega)).trans (natC_at _ _ _ ho)
              have hon := HORD.out.lt ho
              have hvo := HMr.out.at_ i o ho
              rw [if_neg (Nat.lt_irrefl _)] at hvo
              have ht21 := HT.out j o
              obtain ⟨tv, htv⟩ : ∃ tv, top n bs k j o = tv := ⟨_, rfl⟩
              rw [htv] at hvo ht21
              have qt : wr.cell? ⟨w.heap.size + 1, o, none⟩ = some (.int .i64 (tv : Nat)) := (HRr.out.out.cell o).trans (by rw [List.getElem?_map, hvo]; rfl)
              have fo := HRr.out.out.frozen o
              obtain ⟨t2, ht2⟩ : ∃ t2, tv * 2 = t2 := ⟨_, rfl⟩
              have hmul : (tv : Int) * 2 = (t2 : Int) := by omega
              have ht2b : t2 < 4194304 := by omega
              have HT2 := Lib.hid ht2
              have HTV := Lib.hid htv
              have HO := Lib.hid ho
              obtain ⟨bb, bo, xx, he2, hbb, hxx, hcb⟩ := HRr.out.bits.at_ (l := List.range n) (f := fun i => Value.bool (bit v.ws i)) (k := i) (by simpa using hli)
              rw [List.getElem?_range hli] at hxx
              obtain rfl := Option.some.inj hxx
              subst he2
              have hdg := (HORD.out.digit HFL.out hlt HDR.out ho).1
              rw [htv] at hdg
              have HDG := Lib.hid hdg
              clear hvo ht2 htv ho hxx hdg
              cases hbit : bit v.ws i
              · rw [hbit] at hcb HDG
                have HBT := Lib.hid hbit
                clear hbit
                go_upto_region 21 with fail
                have hZ0 := Lib.hid (zsO_zero (bit v.ws) ord i o HO.out HBT.out)
                have HR4 := Lib.hid (HRr.out.put o (t2 : Nat))
                have HMs := Lib.hid (HMr.out.step HORD.out HO.out)
                generalize wr.setCell ⟨w.heap.size + 1, o, none⟩ (.int .i64 (t2 : Nat)) = w4 at *
                clear qo qt fo hcb
                have qo : w4.cell? ⟨g, i, none⟩ = some (.int .i64 (o : Nat)) := (HR4.out.row.cellAt i (by omega)).trans (natC_at _ _ _ HO.out)
                have hbw4 := HR4.out.BW
                go_wp2_with (at_builtin; go_loud (refine append_one_at _ rfl (.tmp 74) (.tmp 79) 22 rfl w3.heap.size 3 (.int .i64 0) 8 Try.underlying22 wint_info rfl u9 (zsO (bit v.ws) ord i).length _ rfl (HR4.out.zer.alloc _) w4.heap.size 1 (.int .i64 o) rfl (by simp) rfl (by simp only [maxLen]; omega) (by omega) (by simp; omega) ?_))
                intro v1 w5 hown1 hg1 hat1
                have HR5 := Lib.hid (HR4.out.zapp hown1 hg1 (by simpa using hat1))
                clear hown1 hg1 hat1 qo
                go_wp2_with fail
                go_roundw
                case rel => exact ⟨i + 1, _, by omega, by go_num, HMs.out, by
                  have h1 := HDG.out
                  simp only [Bool.toNat_false, Nat.add_zero] at h1
                  rw [hZ0.out.1, hZ0.out.2, List.length_append, h1, show 2 * tv = t2 by have := HT2.out; omega]
                  exact HR5.out⟩
                case measure => simp [intOf]; omega
              · rw [hbit] at hcb HDG
                have HBT := Lib.hid hbit
                clear hbit
                go_upto_region 19 with fail
                have hZ1 := Lib.hid (zsO_one (bit v.ws) ord i o HO.out HBT.out)
                have HR4 := Lib.hid (HRr.out.put o (t2 : Nat))
                have HMs := Lib.hid (HMr.out.step HORD.out HO.out)
                have hL' := HMr.out.len
                generalize wr.setCell ⟨w.heap.size + 1, o, none⟩ (.int .i64 (t2 : Nat)) = w4 at *
                clear qo qt fo hcb
                have qo : w4.cell? ⟨g, i, none⟩ = some (.int .i64 (o : Nat)) := (HR4.out.row.cellAt i (by omega)).trans (natC_at _ _ _ HO.out)
                have qt : w4.cell? ⟨w.heap.size + 1, o, none⟩ = some (.int .i64 (t2 : Nat)) := (HR4.out.out.cell o).trans (by rw [List.getElem?_map, List.getElem?_set_self (by omega)]; rfl)
                have fo := HR4.out.out.frozen o
                go_upto_region 20 with fail
                have HR6 := Lib.hid (HR4.out.put o ((t2 : Nat) + 1))
                generalize w4.setCell ⟨w.heap.size + 1, o, none⟩ (.int .i64 ((t2 : Nat) + 1)) = w6 at *
                clear qo qt fo
                have qo : w6.cell? ⟨g, i, none⟩ = some (.int .i64 (o : Nat)) := (HR6.out.row.cellAt i (by omega)).trans (natC_at _ _ _ HO.out)
                have hbw6 := HR6.out.BW
                go_wp2_with (at_builtin; go_loud (refine append_one_at _ rfl (.tmp 67) (.tmp 72) 22 rfl w3.heap.size 3 (.int .i64 0) 8 Try.underlying22 wint_info rfl u10 (osO (bit v.ws) ord i).length _ rfl (HR6.out.one.alloc _) w6.heap.size 1 (.int .i64 o) rfl (by simp) rfl (by simp only [maxLen]; omega) (by omega) (by simp; omega) ?_))
                intro v1 w5 hown1 hg1 hat1
                have HR5 := Lib.hid (HR6.out.oapp hown1 hg1 (by simpa using hat1))
                clear hown1 hg1 hat1 qo
                go_wp2_with fail
                go_roundw
                case rel => exact ⟨i + 1, _, by omega, by go_num, HMs.out, by
                  have h1 := HDG.out
                  simp only [Bool.toNat_true] at h1
                  have h5 := HR5.out
                  rw [List.set_set] at h5
                  rw [hZ1.out.1, hZ1.out.2, List.length_append, h1, show ((2 * tv + 1 : Nat) : Int) = (t2 : Nat) + 1 by have := HT2.out; omega]
                  exact h5⟩
                case measure => simp [intOf]; omega
            · obtain rfl : n = i := by omega
              have hln := HORD.out.length
              obtain ⟨A3, c3, rfl, hle3, hlen3, hl3, hn3, _⟩ := own_slice HRr.out.one
              have hsum : (zsO (bit v.ws) ord n).length + (osO (bit v.ws) ord n).length = n := by rw [zsO_length, osO_length]; have := tally_le (bit v.ws) n; omega
              have HSum := Lib.hid hsum
              have hall := zsO_all (bit v.ws) ord
              rw [hln] at hall
              have HAll := Lib.hid hall
              have q0 : wr.cell? ⟨w.heap.size, 0, none⟩ = some (.slice (some ⟨b, p, none⟩) k c) := HRr.out.box.cell 0
              have HL3 := Lib.hid hl3
              have HN3 := Lib.hid hn3
              clear hl3 hn3 hall hln hsum
              go_wp2_with (at_builtin; go_loud (refine append_from _ rfl (.tmp 82) (.tmp 83) 22 rfl w3.heap.size 3 (.int .i64 0) 8 Try.underlying22 wint_info rfl u9 (zsO (bit v.ws) ord n).length _ rfl HRr.out.zer A3 (osO (bit v.ws) ord n).length c3 (natC (osO (bit v.ws) ord n)) rfl (natC_length _) HN3.out HL3.out (natC_one _) (by simp only [maxLen]; omega) (by omega) hbw ?_))
              intro v1 w5 hown1 hg1
              have HOu2 := Lib.hid (HRr.out.ends hown1 hg1 HSum.out)
              rw [HAll.out] at HOu2
              clear hown1 hg1 q0
              go_wp2_with fail
              go_roundw
              case rel => exact ⟨j + 1, _, _, by omega, by go_num, HORD.out.step HFL.out hlt HDR.out, HMr.out.out HORD.out, HOu2.out⟩
              case measure => simp [intOf]; omega
        · obtain rfl : k = j := by omega
          have HD := Lib.hid (HDn.out _ HL.out)
          go_wp2_with fail
          go_ret
          exact ⟨some ⟨w.heap.size + 1, 0, none⟩, n, (by rw [List.length_map, lsI_length]; rfl), by rw [List.length_map, lsI_length]; exact Nat.le_refl _, by rw [← HD.out]; exact HOU.out.out.lies, (fun e => by cases e), (fun ad e => by obtain rfl := Option.some.inj e; exact Nat.le_succ _), HOU.out.bel⟩

/-- The document's reading of a matrix. -/
theorem rwread_any (n : Nat) (A : Option Addr) (vs : List Lev) (c : Nat) (w : World) (hV : WV n vs) (hM : Mat w w.heap.size A vs) :
    Calls Try.prog 48 #[.agg #[.slice A vs.length c]] w (GivesSlice w ((lsI n (fns vs)).map (.int .i64))) := by
  cases vs with
  | nil =>
    have h0 : n = 0 := by have := hV.len; exact Int.natCast_inj.1 this.symm
    subst h0
    exact (rwread_nil A c w).mono fun _ _ ⟨he, hb⟩ => ⟨none, 0, he, Nat.le_refl _, Lies.nil, fun _ => rfl, (fun _ e => by cases e), hb⟩
  | cons v r => exact rwread_in n A (v :: r) c w hV (by simp) hM
end Go.Proofs.Ytefgfkicacbmeaa
