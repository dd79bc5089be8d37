/-
  For every list l and every number width: of the array that Go's pack.Make makes of the first 100 numbers, each brought below 2^w for a w below 63, every number is returned by pack.At, pack.May holds, and the words are as few as can be.
  No condition.
-/
import Derived.Test.YtpehbagcbkpnnaaRows
import Derived.Test.YtpehbagcbkpnnaaFrame
import Derived.Test.YtpehbagcbkpnnaaPackAt
import Derived.Test.YtpehbagcbkpnnaaPackMk
import Derived.Test.YtpehbagcbkpnnaaKeep3
import Derived.WalkKit
import Derived.ProofKit
import Derived.OpenShut
import Derived.ChangeOld
import Derived.Below
import Derived.Carry
import Derived.SizedLaws
import Derived.Deep.RegionWith
import Derived.Deep.RegionHeld3
namespace Go.Proofs.Ytpehbagcbkpnnaa.packBack
open Go.ChangeShapes Go.WideShapes Go.ChangeAt Go.RowKit Words
set_option linter.unusedVariables false

theorem own : ownKnob Try.prog.godebug = none := by kernel_rfl
theorem laidOut : laidOutB Try.prog = true := by kernel_rfl
theorem five : packWords 3 (natsOf [5]) = [5] := by decide


set_option maxHeartbeats 1000000 in
/-- The walk: the Go text returns true, and writes nothing that was there. -/
theorem walk (A0 : Option Addr) (l0 : List Int) (c0 : Nat) (a1 : Int) (w : World) (hle0 : l0.length ≤ c0) (hcap0 : c0 * 8 ≤ 140737488351232) (hnil0 : A0 = none → c0 = 0) (w0 : Lies w w.heap.size A0 (l0.map (.int .i64)) ∧ ∀ z ∈ l0, (Lit.int .i64 z).wf = true) (w1 : (Lit.int .i64 a1).wf = true) :
    Calls Try.prog 7 #[.slice A0 l0.length c0, .int .i64 a1] w fun e w' => e = .returned (.bool true) ∧ Below w.heap.size w w' := by
  have hP0 := pick_lt (n := 63) (by decide) a1
  have HP := Lib.hid (pick_any a1 63 · (by decide) (by decide) w1)
  generalize pick 63 a1 = d at *
  have hd : d ≤ 62 := by omega
  have hpw0 : 0 < 2 ^ d := Nat.two_pow_pos d
  have hpw1 := pow62 hd
  have hpi := pow_int2 d (by omega)
  have HNum := Lib.hid (numbers_any A0 l0 c0 100 (2 ^ d) w (by decide) hpw0 hpw1 w0.2 w0.1)
  have hplen := picks_length 100 (2 ^ d) l0
  have hpin := picks_lt hpw0 100 l0
  generalize picks 100 (2 ^ d) l0 = ns at *
  have hfit : ∀ z ∈ ns, Fit d z := fun z hz => ⟨(hpin z hz).1, (hpin z hz).2⟩
  have hwf : ∀ z ∈ ns, (Lit.int .i64 z).wf = true := fun z hz => wf_small z (hpin z hz).1 (by have := (hpin z hz).2; omega)
  have HCo := Lib.hid (fun A c W h1 h2 => copied_any A ns c W (by omega) h1 h2)
  have HMk := Lib.hid (fun A c W h => pmake_any d A ns c W (by omega) hd hwf h hfit)
  have hM2 : ∀ A c W, Lies W W.heap.size A [.int .i64 5] → Calls Try.prog 9 #[.int .i64 3, .slice A 1 c] W (GivesPacked W 1 3 [5]) := fun A c W h => by
    have := pmake_any 3 A [5] c W (by decide) (by decide) (by decide) h (by decide)
    rw [five] at this
    exact this
  have HM2 := Lib.hid hM2
  have hV := packWords_valid d (natsOf ns) (by rw [natsOf_length]; omega) hd
  rw [natsOf_length] at hV
  have hbd := mul_bound (n := ns.length) (d := d) (by omega) hd
  have hwl := packWords_length d (natsOf ns)
  rw [natsOf_length] at hwl
  have hnum : ∀ i z, i < ns.length → ns[i]? = some z → (numAt (packWords d (natsOf ns)) d i : Int) = z := fun i z hi hz => by
    have hm := hpin z (List.mem_of_getElem? hz)
    obtain ⟨x, rfl⟩ := Int.eq_ofNat_of_zero_le hm.1
    have hg := natsOf_get ns i x hz
    rw [packWords_num d (natsOf ns) i (by rw [natsOf_length]; exact hi) (by rw [hg]; omega), hg]
  generalize packWords d (natsOf ns) = ws at *
  have HMay := Lib.hid (fun A c W (h : Words64 W W.heap.size A ws) => pmay_yes ns.length d A ws c W hV h)
  have HAt := Lib.hid (fun i A c W (h : Words64 W W.heap.size A ws) (hi : i < ns.length) => pat_in ns.length d i A ws c W hV h hi)
  have HNN := Lib.hid hnum
  have hlm : (ns.map (Value.int .i64)).length = ns.length := by simp
  have hmul : (ns.length : Int) * (d : Int) = ((ns.length * d : Nat) : Int) := by simp
  have hwi : ((ns.length * d + 63) / 64 : Nat) = ws.length := hwl.symm
  clear hnum hV hM2 hfit hwf hpin w0 hnil0 w1 hP0 hwl
  generalize 2 ^ d = pw at *
  generalize ns.length * d = u at *
  have hwi2 : ((u : Int) + 63) / 64 = (ws.length : Int) := by omega
  clear hwi
  have hw300 : ws.length ≤ 300 := by omega
  generalize hkk : ws.length = kk at *
  have hkk2 : ((kk : Int) != (kk : Int)) = false := by simp
  go_enter Try.func7, Try.ntmps7
  go_wp2_with fail
  refine (HP.out _).mono ?_
  rintro e w' ⟨rfl, rfl⟩
  go_wp2_with fail
  refine HNum.out.mono ?_
  rintro e w1 ⟨A1, c1, rfl, hle1, hl1, hn1, _, hb1⟩
  rw [hlm]
  rw [hlm] at hle1
  have HL1 := Lib.hid hl1
  have HN1 := Lib.hid hn1
  clear hl1 hn1
  go_wp2_with fail
  refine (HCo.out A1 c1 _ HN1.out HL1.out).mono ?_
  rintro e w2 ⟨A2, c2, rfl, hle2, hl2, hn2, _, hb2⟩
  rw [hlm]
  have HL2 := Lib.hid hl2
  clear hl2 hn2 hle2 hlm
  go_wp2_with fail
  refine (HMk.out A2 c2 _ HL2.out).mono ?_
  rintro e w3 ⟨A3, c3, rfl, hW3, _, hb3⟩
  have HW3 := Lib.hid hW3
  clear hW3
  go_wp2_with fail
  refine (HM2.out (some ⟨_, 0, none⟩) 1 _ ?_).mono ?_
  · simpa using (Blk.new (w3.alloc (.cells #[.int .i64 ns.length, .int .i64 d, .slice A3 kk c3] 25)) 3 [.int .i64 5]).lies
  rintro e w4 ⟨A4, c4, rfl, hW4, _, hb4⟩
  have hs4 := hb4.size
  simp only [World.alloc, Array.size_push] at hs4
  have hbox : Blk w4 w3.heap.size 25 [.int .i64 ns.length, .int .i64 d, .slice A3 kk c3] := ((Blk.new w3 25 [.int .i64 ns.length, .int .i64 d, .slice A3 kk c3]).alloc _).below hb4 (by simp; omega)
  have hr0 : w4.cell? ⟨w3.heap.size, 0, none⟩ = some (.int .i64 ns.length) := hbox.cell 0
  have hr1 : w4.cell? ⟨w3.heap.size, 1, none⟩ = some (.int .i64 d) := hbox.cell 1
  have hr2 : w4.cell? ⟨w3.heap.size, 2, none⟩ = some (.slice A3 kk c3) := hbox.cell 2
  obtain ⟨b4, o4, x4, rfl, hlt4, hx4, _, hc4⟩ := hW4.at_ (k := 0) (by simp)
  obtain rfl : x4 = 5 := by simpa using hx4.symm
  have hz4 : w3.heap.size < w4.heap.size := by omega
  have hq4 : w4.cell? ⟨b4, o4, none⟩ = some (.int .u64 5) := hc4
  clear hc4
  have HW4 := Lib.hid (((HW3.out.alloc (.cells #[.int .i64 ns.length, .int .i64 d, .slice A3 kk c3] 25)).alloc (.cells #[.int .i64 5] 3)).on hb4)
  have HB4 := Lib.hid (chain (chain (chain (chain (chain hb1 hb2) hb3) (bnew w3 (.cells #[.int .i64 ns.length, .int .i64 d, .slice A3 kk c3] 25))) (bnew _ (.cells #[.int .i64 5] 3))) hb4)
  have HL4 := Lib.hid (((((HL1.out.on hb2).on hb3).alloc (.cells #[.int .i64 ns.length, .int .i64 d, .slice A3 kk c3] 25)).alloc (.cells #[.int .i64 5] 3)).on hb4)
  clear hb1 hb2 hb3 hb4 HL1 HL2 HW3 hx4 hW4 hs4
  generalize w3.heap.size = g at *
  go_wp2_with fail
  refine (HMay.out A3 c3 _ (by exact HW4.out.alloc _)).mono ?_
  rintro e w5 ⟨rfl, hb5⟩
  have hbox5 := (hbox.alloc _).below hb5 (by simp; omega)
  have HW5 := Lib.hid ((HW4.out.alloc _).on hb5)
  have HL5 := Lib.hid ((HL4.out.alloc _).on hb5)
  have HB5 := Lib.hid (chain (chain HB4.out (bnew _ _)) hb5)
  clear hr0 hr1 hr2 hq4 hb5 HW4 HL4 HB4 hbox HMay HM2 HMk HCo HNum HP
  have hr0 : w5.cell? ⟨g, 0, none⟩ = some (.int .i64 ns.length) := hbox5.cell 0
  have hr1 : w5.cell? ⟨g, 1, none⟩ = some (.int .i64 d) := hbox5.cell 1
  have hr2 : w5.cell? ⟨g, 2, none⟩ = some (.slice A3 kk c3) := hbox5.cell 2
  generalize hm : ns.length = m at *
  have HMM := Lib.hid hm
  clear hm
  go_wp2_with fail
  clear hwi2
  go_loopw [11] (fun i w' => ∃ j : Nat, j ≤ m ∧ i = .int .i64 j ∧ Below w5.heap.size w5 w') (fun i _ => m - (intOf i).toNat)
  case atStart => exact ⟨0, Nat.zero_le _, rfl, Below.refl _ _⟩
  case round =>
    obtain ⟨j, hj, rfl, hbl⟩ := hrel
    clear hr0 hr1 hr2
    have hbox6 := hbox5.below hbl hbox5.lt
    have hq0 : wr.cell? ⟨g, 0, none⟩ = some (.int .i64 m) := hbox6.cell 0
    have hq1 : wr.cell? ⟨g, 1, none⟩ = some (.int .i64 d) := hbox6.cell 1
    have hq2 : wr.cell? ⟨g, 2, none⟩ = some (.slice A3 kk c3) := hbox6.cell 2
    by_cases hlt : j < m
    · obtain ⟨b, o, z, rfl, hb, hx, hc⟩ := (HL5.out.on hbl).at_ (k := j) (by rw [HMM.out]; exact hlt)
      have hnz := HNN.out j z (by first | exact hlt | (rw [HMM.out]; exact hlt)) hx
      have HA1 := Lib.hid (fun W h => HAt.out j A3 c3 W h (by first | exact hlt | (rw [HMM.out]; exact hlt)))
      rw [hnz] at HA1
      clear hx hnz
      have hzz : (z != z) = false := by simp
      go_wp2_with fail
      refine (HA1.out _ (by exact HW5.out.on hbl)).mono ?_
      rintro e w6 ⟨rfl, hb6⟩
      have hc6 : w6.cell? ⟨b, o + j, none⟩ = some (.int .i64 z) := (bcell hb6 b (o + j) hb).trans hc
      have HB6 := Lib.hid (chain hbl hb6)
      clear hb6 hbl hbox6 hq0 hq1 hq2 hc
      go_wp2
      go_roundw
      case rel => exact ⟨j + 1, by omega, by go_num, HB6.out⟩
      case measure => simp [intOf]; omega
    · obtain rfl : j = m := by omega
      go_wp2
      go_ret
      exact ⟨rfl, chain HB5.out hbl⟩

set_option maxRecDepth 100000 in
theorem lifted (os : Os) (started : os.Started) (H : Type) (enc : TypeId × Value → H) :
    ReturnsInHanded {} Try.checked os 7 .any (Rows.packBackSpec.pre6 enc Try.prog Try.f7 Rows.packBackRow.domain false) (Rows.packBackSpec.post enc Try.prog Try.f7 false true false false) := by
  refine returnsInHanded_of_change_sized (C := Try.checked) own started (by kernel_rfl) Try.func7
    (ChangeSpec.witness6 (enc := enc) (C := Try.checked) false ⟨#[], #[.slice none 0 0, .int .i64 0], []⟩ 8 (by kernel_rfl) (by kernel_rfl) (by kernel_rfl) (by kernel_rfl)) ?_
  intro W base args ds gs before hval0 hW hcnd hsz0 _
  have hval : ∀ (j : Nat) t v, Try.f7.params[j]? = some t → args[j]? = some v → Value.okWide Try.prog W .any base t v := hval0
  have hW' := hW
  obtain ⟨p, q, hA0, hV, rfl, hfz, hnd⟩ := hW
  have hA : DataW.TrodAll enc Try.prog W 0 (fun _ => true) true Try.f7.params.toList args.toList ds p := hA0
  have hsz : (DataW.weightsEach Try.prog (Try.f7.params.toList ++ Rows.packBackSpec.plain.varTypes Try.prog) (ds ++ gs)).all (· ≤ reachBytes) = true := hsz0
  rw [Try.params7] at hA hval hsz
  obtain ⟨v0, vs0, d0, ds0, p0, q0, hargs, rfl, rfl, h0, r0⟩ := trodAll_cons hA
  obtain ⟨v1, vs1, d1, ds1, p1, q1, rfl, rfl, rfl, h1, r1⟩ := trodAll_cons r0
  obtain ⟨rfl, rfl, rfl⟩ := trodAll_nil r1
  obtain rfl : args = #[v0, v1] := by cases args; simp_all
  obtain ⟨rfl, rfl⟩ := trodVars_none hV
  obtain ⟨A0, n0, c0, rfl⟩ := okWide_slice Try.underlying22 (hval 0 22 v0 rfl rfl)
  have k0 := h0
  have lt0 : ∀ x ∈ p0, x.block < W.heap.size := by obtain ⟨m, hm⟩ := k0; exact DataW.trod_lt m _ _ _ hm
  obtain ⟨fuel0, hf0⟩ := h0
  obtain ⟨A0_, l0, c0_, hcs0, hle0, hcap0, hnil0, w0⟩ := rd_ints Try.underlying22 Try.underlying3 (by kernel_rfl) (by kernel_rfl) hf0 (weight_arg hsz (j := 0) (t := 22) rfl rfl)
  have hcs0_ : [Value.slice A0 n0 c0] = [.slice A0_ l0.length c0_] := hcs0
  simp only [List.cons.injEq, Value.slice.injEq, and_true] at hcs0_
  obtain ⟨rfl, rfl, rfl⟩ := hcs0_
  clear hcs0
  obtain ⟨a1, rfl, rfl, rfl, w1⟩ := open_int Try.underlying3 (hval 1 3 v1 rfl rfl) h1
  clear hA0 hval0
  refine (walk A0 l0 c0 a1 W hle0 hcap0 hnil0 w0 w1).mono fun e W' ⟨he, bel⟩ => ?_
  subst he
  exact ⟨_, rfl, _, _, _, [], _, [], hW', trodAll_mk1 (shut_bool Try.underlying4 _), (trodAll_cons_mk (Below.trod laidOut (by kernel_rfl) (of_decide_eq_true (by kernel_rfl)) k0 bel lt0) (trodAll_cons_mk (shut_int Try.underlying3 w1) trodAll_mk0)), rfl, bel.frame _, fun h => by cases h⟩

theorem over : Rows.packBackRow.holds Try.pinned (OpenSpec.ofChange Rows.packBackSpec) :=
  OpenClaim.holds_of_wide 7 Try.f7 rfl rfl rfl rfl rfl rfl rfl ⟨rfl, rfl, rfl, rfl, rfl⟩ rfl rfl rfl rfl rfl (by kernel_rfl) Try.func7 (by kernel_rfl)
    (of_decide_eq_true (by kernel_rfl)) (by unfold Func.isWrapper; first | (rw [if_pos (by decide +kernel)]; kernel_rfl) | (rw [if_neg (by decide +kernel)]; exact ⟨rfl, rfl⟩))
    (fun os started H enc _ => lifted os started H enc)

/-- THE STATEMENT. -/
theorem proved : Rows.PackBackSaid := over
#print axioms proved
end Go.Proofs.Ytpehbagcbkpnnaa.packBack
