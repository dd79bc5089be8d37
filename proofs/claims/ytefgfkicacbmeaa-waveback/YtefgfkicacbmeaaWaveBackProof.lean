/-
  For every list l and every number levels: of the matrix that Go's wave.Make makes of the at most 60 numbers that they stand for, every number is returned by wave.At, and wave.Rank counts it once at its place.
  No condition.
-/
import Derived.Test.YtefgfkicacbmeaaRows
import Derived.Test.YtefgfkicacbmeaaFrame
import Derived.Test.YtefgfkicacbmeaaWavKp
import Derived.WalkKit
import Derived.ProofKit
import Derived.OpenShut
import Derived.ChangeOld
import Derived.Below
import Derived.Carry
import Derived.SizedLaws
import Derived.Deep.RegionWith
import Derived.Deep.RegionHeld3
namespace Go.Proofs.Ytefgfkicacbmeaa.waveBack
open Go.ChangeShapes Go.WideShapes Go.ChangeAt Go.RowKit Words
set_option linter.unusedVariables false

theorem own : ownKnob Try.prog.godebug = none := by kernel_rfl
theorem laidOut : laidOutB Try.prog = true := by kernel_rfl
theorem rank_step (n : Nat) (bs : List (Nat → Bool)) (i y : Nat) (h : val n bs i = y) : sameI n bs (y : Int) 0 (i + 1) = sameI n bs (y : Int) 0 i + 1 := by
  unfold sameI num
  rw [tally_succ]
  simp [h]
  omega
theorem rank_nat (n : Nat) (bs : List (Nat → Bool)) (y : Int) (i : Nat) : ∃ u : Nat, sameI n bs y 0 i = u ∧ u ≤ i := by
  refine ⟨tally (fun j => decide ((val n bs j : Int) = y)) i, ?_, tally_le _ _⟩
  unfold sameI num
  simp [tally]
theorem picks_nat (k n : Nat) (l : List Int) : picks k n l = ((l.take k).map (pick n)).map fun x : Nat => (x : Int) := by unfold picks; rw [List.map_map]; rfl


set_option maxRecDepth 100000 in
set_option maxHeartbeats 4000000 in
/-- The walk: the Go text returns true, and writes nothing that was there. -/
theorem walk (A0 : Option Addr) (l0 : List Int) (c0 : Nat) (a1 : Int) (w : World) (hle0 : l0.length ≤ c0) (hcap0 : c0 * 8 ≤ 140737488351232) (hnil0 : A0 = none → c0 = 0) (w0 : Lies w w.heap.size A0 (l0.map (.int .i64)) ∧ ∀ z ∈ l0, (Lit.int .i64 z).wf = true) (w1 : (Lit.int .i64 a1).wf = true) :
    Calls Try.prog 10 #[.slice A0 l0.length c0, .int .i64 a1] w fun e w' => e = .returned (.bool true) ∧ Below w.heap.size w w' := by
  have hp1 := pick_lt (n := 12) (by decide) a1
  have HP1 := Lib.hid (pick_any a1 12 · (by decide) (by decide) w1)
  generalize pick 12 a1 = p at *
  obtain ⟨kk, hkk⟩ : ∃ kk, kk = 1 + p := ⟨_, rfl⟩
  have hk1 : (1 : Int) + (p : Int) = (kk : Int) := by omega
  have hk0 : 0 < kk := by omega
  have hk12 : kk ≤ 12 := by omega
  clear hkk
  obtain ⟨N, hN⟩ : ∃ N, 2 ^ kk = N := ⟨_, rfl⟩
  have hN0 : 0 < N := by rw [← hN]; exact Nat.two_pow_pos kk
  have hN1 : N ≤ 4096 := by rw [← hN]; exact Nat.le_trans (Nat.pow_le_pow_right (n := 2) (j := 12) (by decide) hk12) (by decide)
  have hshl : wrap64 ((2 : Int) ^ kk) = (N : Int) := by
    have e : ((2 : Int) ^ kk) = ((2 ^ kk : Nat) : Int) := by simp
    rw [e, hN]
    unfold wrap64
    omega
  have HNu := Lib.hid (numbers_any A0 l0 c0 60 N w (by decide) hN0 (by omega) w0.2 w0.1)
  rw [picks_nat, ← natC_ints] at HNu
  have hnx : ∀ x ∈ (l0.take 60).map (pick N), x < 2 ^ kk := fun x hx => by
    obtain ⟨a, _, rfl⟩ := List.mem_map.1 hx
    rw [hN]
    exact pick_lt hN0 a
  have hnl : ((l0.take 60).map (pick N)).length ≤ 60 := by rw [List.length_map, List.length_take]; omega
  clear w0 hnil0 hle0 hcap0 hN hN0
  generalize (l0.take 60).map (pick N) = ns at *
  have HWd := Lib.hid (fun A c W hnone hW => waved_any A ns c kk W (by omega) hk0 (by omega) hnx hnone hW)
  have HMW := Lib.hid (fun (vs : List Lev) (h : MadeOf ns.length (levs kk ns) vs) => made_wv h hk0 (by omega) (by omega))
  have HMV := Lib.hid (fun (vs : List Lev) (h : MadeOf ns.length (levs kk ns) vs) i x hi => made_val h hnx i x hi)
  have HML := Lib.hid (fun (vs : List Lev) (h : MadeOf ns.length (levs kk ns) vs) => show vs.length = kk by rw [h.length, levs_length])
  have HNL := Lib.hid (natC_length ns)
  clear hnx
  unfold GivesWaved at HWd
  unfold GivesSlice at HNu
  rw [HNL.out] at HNu
  generalize hnn : ns.length = n at *
  have HN := Lib.hid hnn
  clear hnn
  go_enter Try.func10, Try.ntmps10
  go_wp2_with fail
  refine (HP1.out _).mono ?_
  rintro e w' ⟨rfl, rfl⟩
  go_wp2_with fail
  refine HNu.out.mono ?_
  rintro e w1 ⟨A1, c1, rfl, hle1, hl1, hn1, _, hb1⟩
  have HL1 := Lib.hid hl1
  have HN1 := Lib.hid hn1
  clear hl1 hn1
  go_wp2_with fail
  refine (HWd.out A1 c1 _ HN1.out HL1.out).mono ?_
  rintro e w2 ⟨A2, vs, c2, rfl, hmade, hmat, _, _, hb2⟩
  have hV := HMW.out vs hmade
  have hvl := HML.out vs hmade
  have HAt := Lib.hid (fun (i : Nat) W hW => wat_any n A2 vs c2 i W hV hW)
  have HRk := Lib.hid (fun (y : Int) (i : Nat) W hi hW => wrank_in n A2 vs c2 y i W hV hW hi)
  simp only [hvl] at HAt HRk
  have HVal := Lib.hid (fun i x hi => HMV.out vs hmade i x hi)
  have hV300 := hV.hi
  clear hvl hV hmade
  go_wp2_with fail
  have hX := Blk.new w2 25 [.slice A2 kk c2]
  have HMat := Lib.hid (hmat.alloc (.cells #[.slice A2 kk c2] 25))
  have HL2 := Lib.hid ((HL1.out.on hb2).alloc (.cells #[.slice A2 kk c2] 25))
  have HB := Lib.hid (chain (chain hb1 hb2) (bnew w2 (.cells #[.slice A2 kk c2] 25)))
  generalize w2.alloc (.cells #[.slice A2 kk c2] 25) = w3 at *
  have HX := Lib.hid hX
  have hXl := hX.lt
  clear hmat hb1 hb2 hX
  go_loopw [9] (fun s9 w' => ∃ i : Nat, i ≤ n ∧ s9 = .int .i64 i ∧ Below w3.heap.size w3 w') (fun s9 _ => n - (intOf s9).toNat)
  case atStart => exact ⟨0, Nat.zero_le _, rfl, Below.refl _ _⟩
  case round =>
    obtain ⟨i, hi, rfl, hbl⟩ := hrel
    have HBl := Lib.hid hbl
    have q0 : wr.cell? ⟨w2.heap.size, 0, none⟩ = some (.slice A2 kk c2) := (HX.out.below hbl hXl).cell 0
    have hlr : w2.heap.size < wr.heap.size := Nat.lt_of_lt_of_le hXl hbl.size
    clear hbl
    by_cases hlt : i < n
    · obtain ⟨b, o, y, rfl, hb, hy, hc⟩ := (HL2.out.on HBl.out).at_ (l := ns) (f := fun x : Nat => Value.int .i64 (x : Int)) (k := i) (by rw [HN.out]; exact hlt)
      have hval := HVal.out i y hy
      have hA1 := HAt.out i
      rw [show atV10 n (fns vs) i = (y : Int) from (if_pos ⟨by omega, by omega⟩).trans (by rw [Int.toNat_natCast, hval]), show atE10 n (i : Int) = 0 from if_pos ⟨by omega, by omega⟩] at hA1
      have HA1 := Lib.hid hA1
      obtain ⟨u, hu, hui⟩ := rank_nat n (fns vs) y i
      have hu2 := rank_step n (fns vs) i y hval
      have hR1 := fun W hW => HRk.out y i W (by omega) hW
      have hR2 := fun W hW => HRk.out y (i + 1) W (by omega) hW
      rw [hu] at hu2 hR1
      rw [hu2] at hR2
      have hi1 : ((i + 1 : Nat) : Int) = (i : Int) + 1 := by omega
      rw [hi1] at hR2
      have HR1 := Lib.hid hR1
      have HR2 := Lib.hid hR2
      clear hy hval hA1 hu hu2 hR1 hR2 hi1
      have hM0 := Lib.hid (HMat.out.on HBl.out)
      have hw1 : IntKind.i64.wrap ((i : Int) + 1) = (i : Int) + 1 := by rw [IntKind.wrap_i64]; omega
      have hi0 : (0 : Int) ≤ (i : Int) := by omega
      have hin : (i : Int) < (n : Int) := by omega
      have e1 : ((y : Int) != (y : Int)) = false := by simp
      have e2 : ((u : Int) + 1 != (u : Int) + 1) = false := by simp
      go_wp2_with fail
      refine (HA1.out _ (by exact hM0.out)).mono ?_
      rintro e w4 ⟨rfl, hb4⟩
      have r0 : w4.cell? ⟨w2.heap.size, 0, none⟩ = some (.slice A2 kk c2) := (bcell hb4 _ _ hlr).trans q0
      have r1 : w4.cell? ⟨b, o + i, none⟩ = some (.int .i64 (y : Nat)) := (bcell hb4 _ _ hb).trans hc
      have hM4 := Lib.hid (hM0.out.on hb4)
      have hl4 := Nat.lt_of_lt_of_le hlr hb4.size
      have hb4l := Nat.lt_of_lt_of_le hb hb4.size
      have HB4 := Lib.hid (chain HBl.out hb4)
      clear q0 hc hb4
      go_wp2_with fail
      go_region_held3 (fun W => W.cell? ⟨w2.heap.size, 0, none⟩ = some (.slice A2 kk c2) ∧ W.cell? ⟨b, o + i, none⟩ = some (.int .i64 (y : Nat)))
        (first | exact ⟨r0, r1⟩ | exact ⟨s0, s1⟩)
        (first
          | (go_at_call 21; refine (HR1.out _ ?_).mono ?_; exact hM4.out.drew; rintro e w5 ⟨rfl, hb5⟩; have s0 : w5.cell? ⟨w2.heap.size, 0, none⟩ = some (.slice A2 kk c2) := (bcell hb5 _ _ hl4).trans r0; have s1 : w5.cell? ⟨b, o + i, none⟩ = some (.int .i64 (y : Nat)) := (bcell hb5 _ _ hb4l).trans r1))
      have hM5 := Lib.hid (hM4.out.drew.on hb5)
      have hl5 := Nat.lt_of_lt_of_le hl4 hb5.size
      have hb5l := Nat.lt_of_lt_of_le hb4l hb5.size
      have HB5 := Lib.hid (chain HB4.out.drew hb5)
      clear r0 r1 hb5
      go_wp2_with fail
      go_region_held3 (fun W => W.cell? ⟨w2.heap.size, 0, none⟩ = some (.slice A2 kk c2) ∧ W.cell? ⟨b, o + i, none⟩ = some (.int .i64 (y : Nat)))
        (first | exact ⟨s0, s1⟩ | exact ⟨t0, t1⟩)
        (first
          | (go_at_call 21; refine (HR2.out _ ?_).mono ?_; exact hM5.out.drew; rintro e w6 ⟨rfl, hb6⟩; have t0 : w6.cell? ⟨w2.heap.size, 0, none⟩ = some (.slice A2 kk c2) := (bcell hb6 _ _ hl5).trans s0; have t1 : w6.cell? ⟨b, o + i, none⟩ = some (.int .i64 (y : Nat)) := (bcell hb6 _ _ hb5l).trans s1))
      have HB6 := Lib.hid (chain HB5.out.drew hb6)
      clear s0 s1 t0 hb6
      go_wp2_with fail
      go_roundw
      case rel => exact ⟨i + 1, by omega, by go_num, HB6.out⟩
      case measure => simp [intOf]; omega
    · obtain rfl : n = i := by omega
      go_wp2_with fail
      go_ret
      exact ⟨rfl, chain HB.out HBl.out⟩

set_option maxRecDepth 100000 in
theorem lifted (os : Os) (started : os.Started) (H : Type) (enc : TypeId × Value → H) :
    ReturnsInHanded {} Try.checked os 10 .any (Rows.waveBackSpec.pre6 enc Try.prog Try.f10 Rows.waveBackRow.domain false) (Rows.waveBackSpec.post enc Try.prog Try.f10 false true false false) := by
  refine returnsInHanded_of_change_sized (C := Try.checked) own started (by kernel_rfl) Try.func10
    (ChangeSpec.witness6 (enc := enc) (C := Try.checked) false ⟨#[], #[.slice none 0 0, .int .i64 0], []⟩ 8 (by kernel_rfl) (by kernel_rfl) (by kernel_rfl) (by kernel_rfl)) ?_
  intro W base args ds gs before hval0 hW hcnd hsz0 _
  have hval : ∀ (j : Nat) t v, Try.f10.params[j]? = some t → args[j]? = some v → Value.okWide Try.prog W .any base t v := hval0
  have hW' := hW
  obtain ⟨p, q, hA0, hV, rfl, hfz, hnd⟩ := hW
  have hA : DataW.TrodAll enc Try.prog W 0 (fun _ => true) true Try.f10.params.toList args.toList ds p := hA0
  have hsz : (DataW.weightsEach Try.prog (Try.f10.params.toList ++ Rows.waveBackSpec.plain.varTypes Try.prog) (ds ++ gs)).all (· ≤ reachBytes) = true := hsz0
  rw [Try.params10] at hA hval hsz
  obtain ⟨v0, vs0, d0, ds0, p0, q0, hargs, rfl, rfl, h0, r0⟩ := trodAll_cons hA
  obtain ⟨v1, vs1, d1, ds1, p1, q1, rfl, rfl, rfl, h1, r1⟩ := trodAll_cons r0
  obtain ⟨rfl, rfl, rfl⟩ := trodAll_nil r1
  obtain rfl : args = #[v0, v1] := by cases args; simp_all
  obtain ⟨rfl, rfl⟩ := trodVars_none hV
  obtain ⟨A0, n0, c0, rfl⟩ := okWide_slice Try.underlying22 (hval 0 22 v0 rfl rfl)
  have k0 := h0
  have lt0 : ∀ x ∈ p0, x.block < W.heap.size := by obtain ⟨m, hm⟩ := k0; exact DataW.trod_lt m _ _ _ hm
  obtain ⟨fuel0, hf0⟩ := h0
  obtain ⟨A0_, l0, c0_, hcs0, hle0, hcap0, hnil0, w0⟩ := rd_ints Try.underlying22 Try.underlying3 (by kernel_rfl) (by kernel_rfl) hf0 (weight_arg hsz (j := 0) (t := 22) rfl rfl)
  have hcs0_ : [Value.slice A0 n0 c0] = [.slice A0_ l0.length c0_] := hcs0
  simp only [List.cons.injEq, Value.slice.injEq, and_true] at hcs0_
  obtain ⟨rfl, rfl, rfl⟩ := hcs0_
  clear hcs0
  obtain ⟨a1, rfl, rfl, rfl, w1⟩ := open_int Try.underlying3 (hval 1 3 v1 rfl rfl) h1
  clear hA0 hval0
  refine (walk A0 l0 c0 a1 W hle0 hcap0 hnil0 w0 w1).mono fun e W' ⟨he, bel⟩ => ?_
  subst he
  exact ⟨_, rfl, _, _, _, [], _, [], hW', trodAll_mk1 (shut_bool Try.underlying4 _), (trodAll_cons_mk (Below.trod laidOut (by kernel_rfl) (of_decide_eq_true (by kernel_rfl)) k0 bel lt0) (trodAll_cons_mk (shut_int Try.underlying3 w1) trodAll_mk0)), rfl, bel.frame _, fun h => by cases h⟩

theorem over : Rows.waveBackRow.holds Try.pinned (OpenSpec.ofChange Rows.waveBackSpec) :=
  OpenClaim.holds_of_wide 10 Try.f10 rfl rfl rfl rfl rfl rfl rfl ⟨rfl, rfl, rfl, rfl, rfl⟩ rfl rfl rfl rfl rfl (by kernel_rfl) Try.func10 (by kernel_rfl)
    (of_decide_eq_true (by kernel_rfl)) (by unfold Func.isWrapper; first | (rw [if_pos (by decide +kernel)]; kernel_rfl) | (rw [if_neg (by decide +kernel)]; exact ⟨rfl, rfl⟩))
    (fun os started H enc _ => lifted os started H enc)

/-- THE STATEMENT. -/
theorem proved : Rows.WaveBackSaid := over
#print axioms proved
end Go.Proofs.Ytefgfkicacbmeaa.waveBack
