/-
  For every number of levels and every list l, Go's wave.Make(levels, l) returns the levels or the error that the document's answer returns (P10.1).
  No condition.
-/
import Derived.Test.YtjgibbccjijpaaaRows
import Derived.Test.YtjgibbccjijpaaaFrame
import Derived.Test.YtjgibbccjijpaaaStbRn
import Derived.Test.YtjgibbccjijpaaaSame
import Derived.WalkKit
import Derived.ProofKit
import Derived.OpenShut
import Derived.ChangeOld
import Derived.Below
import Derived.Carry
import Derived.SizedLaws
import Derived.Deep.RegionWith
import Derived.Deep.RegionHeld3
namespace Go.Proofs.Ytjgibbccjijpaaa.waveMakes
open Go.ChangeShapes Go.WideShapes Go.ChangeAt Go.RowKit Words
set_option linter.unusedVariables false

theorem own : ownKnob Try.prog.godebug = none := by kernel_rfl
theorem laidOut : laidOutB Try.prog = true := by kernel_rfl
set_option maxHeartbeats 1000000 in
/-- Both tell the same error. -/
theorem same_no (L : Int) (A : Option Addr) (n c : Nat) (r : Int) (w : World)
    (h1 : ∀ W, Below w.heap.size w W → Calls Try.prog 14 #[.int .i64 L, .slice A n c] W (NoWave W r))
    (h2 : ∀ W, Below w.heap.size w W → Calls Try.prog 15 #[.int .i64 L, .slice A n c] W (NoWave W r)) :
    Calls Try.prog 3 #[.int .i64 L, .slice A n c] w fun e w' => e = .returned (.bool true) ∧ Below w.heap.size w w' := by
  have H1 := Lib.hid h1
  have H2 := Lib.hid h2
  have hrr : (r != r) = false := by simp
  clear h1 h2
  go_enter Try.func3, Try.ntmps3
  go_wp2_with fail
  refine (H1.out _ (Below.refl _ _)).mono ?_
  rintro e w1 ⟨rfl, hb1⟩
  have HB1 := Lib.hid (chain hb1 (bnew w1 (.cells #[.slice none 0 0] 25)))
  have hX := Blk.new w1 25 [.slice none 0 0]
  clear hb1
  go_wp2_with fail
  generalize w1.alloc (.cells #[.slice none 0 0] 25) = w2 at *
  have hxl := hX.lt
  refine (H2.out _ HB1.out).mono ?_
  rintro e w3 ⟨rfl, hb3⟩
  have q0 : w3.cell? ⟨w1.heap.size, 0, none⟩ = some (.slice none 0 0) := (hX.below hb3 hxl).cell 0
  have hs3 := hb3.size
  have hx3 : w1.heap.size < w3.heap.size := by omega
  have HB3 := Lib.hid (chain (chain HB1.out hb3) (bnew w3 (.cells #[.slice none 0 0] 25)))
  clear hb3 hX
  go_wp2_with fail
  go_loop [9] (fun u => u = .int .i64 0) (fun _ => 0)
  case atStart => rfl
  case round =>
    obtain rfl := hrel
    go_wp2_with fail
    go_ret
    exact ⟨rfl, HB3.out⟩

set_option maxRecDepth 100000 in
set_option maxHeartbeats 4000000 in
/-- Both tell the same levels. -/
theorem same_yes (L : Nat) (A : Option Addr) (ns : List Nat) (n c : Nat) (w : World) (hn : ns.length = n) (hn3 : n ≤ 300) (hL : L ≤ 21)
    (h1 : ∀ W, Below w.heap.size w W → Calls Try.prog 14 #[.int .i64 L, .slice A n c] W (GivesWave W L ns))
    (h2 : ∀ W, Below w.heap.size w W → Calls Try.prog 15 #[.int .i64 L, .slice A n c] W (GivesRef W L ns)) :
    Calls Try.prog 3 #[.int .i64 L, .slice A n c] w fun e w' => e = .returned (.bool true) ∧ Below w.heap.size w w' := by
  have H1 := Lib.hid h1
  have H2 := Lib.hid h2
  have hLL : ((L : Int) != (L : Int)) = false := by simp
  have HLen := Lib.hid (fun (vs : List Lev) (h : MadeOf ns.length (levs L ns) vs) => show vs.length = L by rw [h.length, levs_length])
  have HEach := Lib.hid (fun r (hr : r ∈ levs L ns) => levs_each L ns r hr)
  rw [hn] at HEach
  have HSr := Lib.hid (fun (m : Int) A A2 ws c c2 W hl h1 h2 => sameRow_eq m A A2 ws c c2 W hl h1 h2)
  unfold GivesWave at H1
  unfold GivesRef at H2
  clear h1 h2 hn
  go_enter Try.func3, Try.ntmps3
  go_wp2_with fail
  refine (H1.out _ (Below.refl _ _)).mono ?_
  rintro e w1 ⟨A1, vs, c1, rfl, hm1, hle1, hmat1, _, _, hb1⟩
  have HB1 := Lib.hid (chain hb1 (bnew w1 (.cells #[.slice A1 L c1] 25)))
  have hX := Blk.new w1 25 [.slice A1 L c1]
  have HM1 := Lib.hid hm1
  have HMt1 := Lib.hid (hmat1.alloc (.cells #[.slice A1 L c1] 25))
  clear hb1 hm1 hmat1
  go_wp2_with fail
  generalize w1.alloc (.cells #[.slice A1 L c1] 25) = w2 at *
  have hxl := hX.lt
  refine (H2.out _ HB1.out).mono ?_
  rintro e w3 ⟨A2, us, c2, rfl, hm2, hmat2, hb3⟩
  have hs3 := hb3.size
  have hx3 : w1.heap.size < w3.heap.size := by omega
  have HX := Lib.hid ((hX.below hb3 hxl).alloc (.cells #[.slice A2 L c2] 25))
  have HY := Lib.hid (Blk.new w3 25 [.slice A2 L c2])
  have HM2 := Lib.hid hm2
  have HMt3 := Lib.hid ((HMt1.out.on hb3).alloc (.cells #[.slice A2 L c2] 25))
  have HMt4 := Lib.hid (hmat2.alloc (.cells #[.slice A2 L c2] 25))
  have HB3 := Lib.hid (chain (chain HB1.out hb3) (bnew w3 (.cells #[.slice A2 L c2] 25)))
  have q0 : w3.cell? ⟨w1.heap.size, 0, none⟩ = some (.slice A1 L c1) := (hX.below hb3 hxl).cell 0
  clear hb3 hX hm2 hmat2 HMt1
  go_wp2_with fail
  generalize w3.alloc (.cells #[.slice A2 L c2] 25) = w4 at *
  generalize hgx : w1.heap.size = gx at *
  generalize hgy : w3.heap.size = gy at *
  clear q0 hgx hgy
  go_loopw [9] (fun u w' => ∃ i : Nat, i ≤ L ∧ u = .int .i64 i ∧ Below w4.heap.size w4 w') (fun u _ => L - (intOf u).toNat)
  case atStart => exact ⟨0, Nat.zero_le _, rfl, Below.refl _ _⟩
  case round =>
    obtain ⟨i, hi, rfl, hbl⟩ := hrel
    have HBl := Lib.hid hbl
    have hX2 := HX.out.below hbl HX.out.lt
    have hY2 := HY.out.below hbl HY.out.lt
    have q0 : wr.cell? ⟨gx, 0, none⟩ = some (.slice A1 L c1) := hX2.cell 0
    have q1 : wr.cell? ⟨gy, 0, none⟩ = some (.slice A2 L c2) := hY2.cell 0
    have l0 := hX2.lt
    have l1 := hY2.lt
    have hMa := HMt3.out.on hbl
    have hMb := HMt4.out.on hbl
    clear hX2 hY2 hbl
    by_cases hlt : i < L
    · obtain ⟨b, p, x, rfl, hb, hx, hcx, hcx1, hwx⟩ := hMa.at_ (i := i) (by rw [HLen.out vs HM1.out]; exact hlt)
      obtain ⟨b2, p2, y, rfl, hb2, hy, hcy, hcy1, hwy⟩ := hMb.at_ (i := i) (by rw [HLen.out us HM2.out]; exact hlt)
      obtain ⟨r1, hr1, e1, e2⟩ := HM1.out.at_ hx
      obtain ⟨r2, hr2, e3, e4⟩ := HM2.out.at_ hy
      rw [hr1] at hr2
      obtain rfl := Option.some.inj hr2
      have hlen := HEach.out r1 (List.mem_of_getElem? hr1)
      have hwl : (rowOf r1).length ≤ 17592186044416 := by rw [rowOf_length]; omega
      rw [e1, ← e3] at hcx
      rw [e2] at hcx1 hwx
      rw [e4] at hcy1 hwy
      generalize rowOf r1 = ws at *
      generalize y.n = m at *
      have HC := Lib.hid (fun W h1 h2 => HSr.out m x.adr y.adr ws x.cap y.cap W hwl h1 h2)
      have HWx := Lib.hid hwx
      have HWy := Lib.hid hwy
      generalize x.adr = ax at *
      generalize y.adr = ay at *
      generalize x.cap = cx at *
      generalize y.cap = cy at *
      generalize ws.length = wl at *
      have hiL : (i : Int) < (L : Int) := by omega
      have hi0 : (0 : Int) ≤ (i : Int) := by omega
      clear hx hy hr1 hr2 e1 e2 e3 e4 hlen hwx hwy hMa hMb hwl
      go_wp2_with fail
      go_region_held3 (fun W => W.cell? ⟨gx, 0, none⟩ = some (.slice (some ⟨b, p, none⟩) L c1) ∧ W.cell? ⟨gy, 0, none⟩ = some (.slice (some ⟨b2, p2, none⟩) L c2) ∧ W.cell? ⟨b, p + i * 2, none⟩ = some (.int .i64 m) ∧ W.cell? ⟨b, p + i * 2 + 1, none⟩ = some (.slice ax wl cx) ∧ W.cell? ⟨b2, p2 + i * 2, none⟩ = some (.int .i64 m) ∧ W.cell? ⟨b2, p2 + i * 2 + 1, none⟩ = some (.slice ay wl cy))
        (first | exact ⟨q0, q1, hcx, hcx1, hcy, hcy1⟩ | exact ⟨s0, s1, s2, s3, s4, s5⟩)
        (first
          | (go_at_call 16; refine (HC.out _ ?_ ?_).mono ?_; exact HWx.out.drew; exact HWy.out.drew; rintro e w5 ⟨rfl, hb5⟩; have s0 := (bcell hb5 gx 0 l0).trans q0; have s1 := (bcell hb5 gy 0 l1).trans q1; have s2 := (bcell hb5 b (p + i * 2) hb).trans hcx; have s3 := (bcell hb5 b (p + i * 2 + 1) hb).trans hcx1; have s4 := (bcell hb5 b2 (p2 + i * 2) hb2).trans hcy; have s5 := (bcell hb5 b2 (p2 + i * 2 + 1) hb2).trans hcy1))
      have HB5 := Lib.hid (chain HBl.out.drew hb5)
      clear s0 s1 s2 s3 s4 s5 hb5 q0 q1 hcx hcx1 hcy hcy1
      go_wp2_with fail
      go_roundw
      case rel => exact ⟨i + 1, by omega, by go_num, HB5.out⟩
      case measure => simp [intOf]; omega
    · obtain rfl : L = i := by omega
      clear hMa hMb
      go_wp2_with fail
      go_ret
      exact ⟨rfl, chain HB3.out HBl.out⟩


set_option maxRecDepth 100000 in
set_option maxHeartbeats 4000000 in
/-- The walk: the Go text returns true, and writes nothing that was there. -/
theorem walk (a0 : Int) (A1 : Option Addr) (l1 : List Int) (c1 : Nat) (w : World) (w0 : (Lit.int .i64 a0).wf = true) (hle1 : l1.length ≤ c1) (hcap1 : c1 * 8 ≤ 140737488351232) (hnil1 : A1 = none → c1 = 0) (w1 : Lies w w.heap.size A1 (l1.map (.int .i64)) ∧ ∀ z ∈ l1, (Lit.int .i64 z).wf = true) :
    Calls Try.prog 3 #[.int .i64 a0, .slice A1 l1.length c1] w fun e w' => e = .returned (.bool true) ∧ Below w.heap.size w w' := by
  have hL : ∀ W, Below w.heap.size w W → Lies W W.heap.size A1 (l1.map (.int .i64)) := fun W h => w1.1.on h
  by_cases hn : 300 < l1.length
  · exact same_no a0 A1 l1.length c1 1 w (fun W _ => wmk_size a0 A1 l1.length c1 W hn (by omega)) (fun W _ => rwm_size a0 A1 l1.length c1 W hn (by omega))
  · by_cases hr : a0 < 0 ∨ 21 < a0
    · exact same_no a0 A1 l1.length c1 2 w (fun W _ => wmk_levels a0 A1 l1.length c1 W (by omega) hr) (fun W _ => rwm_levels a0 A1 l1.length c1 W (by omega) hr)
    · obtain ⟨L, rfl⟩ := Int.eq_ofNat_of_zero_le (a := a0) (by omega)
      have hL21 : L ≤ 21 := by omega
      cases hf : l1.any (fun x => !fit L x)
      · have hall : ∀ x ∈ l1, 0 ≤ x ∧ x < ((2 ^ L : Nat) : Int) := fun x hx => by
          have := List.any_eq_false.1 hf x hx
          simpa [fit] using this
        have e : l1 = (l1.map Int.toNat).map fun x : Nat => (x : Int) := by
          rw [List.map_map]
          conv => lhs; rw [← List.map_id l1]
          refine List.map_congr_left fun x hx => ?_
          have := hall x hx
          simp only [id, Function.comp]
          omega
        obtain ⟨ns, hns⟩ : ∃ ns, l1.map Int.toNat = ns := ⟨_, rfl⟩
        rw [hns] at e
        have hxs : ∀ x ∈ ns, x < 2 ^ L := fun x hx => by
          rw [← hns] at hx
          obtain ⟨z, hz, rfl⟩ := List.mem_map.1 hx
          have := hall z hz
          omega
        have hlen : l1.length = ns.length := by rw [e, List.length_map]
        have hN : ∀ W, Below w.heap.size w W → Lies W W.heap.size A1 (natC ns) := fun W h => by
          have := hL W h
          rw [e, ← natC_ints] at this
          exact this
        rw [hlen]
        have hn3 : ns.length ≤ 300 := by omega
        exact same_yes L A1 ns ns.length c1 w rfl hn3 hL21 (fun W h => wmk_any L A1 ns c1 W hn3 hL21 hxs (hN W h)) (fun W h => rwm_any L A1 ns c1 W hn3 hL21 hxs hnil1 (hN W h))
      · exact same_no L A1 l1.length c1 2 w (fun W h => wmk_fit L A1 l1 c1 W (by omega) hL21 (hL W h) hf) (fun W h => rwm_fit L A1 l1 c1 W (by omega) hL21 (hL W h) hf)

set_option maxRecDepth 100000 in
theorem lifted (os : Os) (started : os.Started) (H : Type) (enc : TypeId × Value → H) :
    ReturnsInHanded {} Try.checked os 3 .any (Rows.waveMakesSpec.pre6 enc Try.prog Try.f3 Rows.waveMakesRow.domain false) (Rows.waveMakesSpec.post enc Try.prog Try.f3 false true false false) := by
  refine returnsInHanded_of_change_sized (C := Try.checked) own started (by kernel_rfl) Try.func3
    (ChangeSpec.witness6 (enc := enc) (C := Try.checked) false ⟨#[], #[.int .i64 0, .slice none 0 0], []⟩ 8 (by kernel_rfl) (by kernel_rfl) (by kernel_rfl) (by kernel_rfl)) ?_
  intro W base args ds gs before hval0 hW hcnd hsz0 _
  have hval : ∀ (j : Nat) t v, Try.f3.params[j]? = some t → args[j]? = some v → Value.okWide Try.prog W .any base t v := hval0
  have hW' := hW
  obtain ⟨p, q, hA0, hV, rfl, hfz, hnd⟩ := hW
  have hA : DataW.TrodAll enc Try.prog W 0 (fun _ => true) true Try.f3.params.toList args.toList ds p := hA0
  have hsz : (DataW.weightsEach Try.prog (Try.f3.params.toList ++ Rows.waveMakesSpec.plain.varTypes Try.prog) (ds ++ gs)).all (· ≤ reachBytes) = true := hsz0
  rw [Try.params3] at hA hval hsz
  obtain ⟨v0, vs0, d0, ds0, p0, q0, hargs, rfl, rfl, h0, r0⟩ := trodAll_cons hA
  obtain ⟨v1, vs1, d1, ds1, p1, q1, rfl, rfl, rfl, h1, r1⟩ := trodAll_cons r0
  obtain ⟨rfl, rfl, rfl⟩ := trodAll_nil r1
  obtain rfl : args = #[v0, v1] := by cases args; simp_all
  obtain ⟨rfl, rfl⟩ := trodVars_none hV
  obtain ⟨a0, rfl, rfl, rfl, w0⟩ := open_int Try.underlying3 (hval 0 3 v0 rfl rfl) h0
  obtain ⟨A1, n1, c1, rfl⟩ := okWide_slice Try.underlying22 (hval 1 22 v1 rfl rfl)
  have k1 := h1
  have lt1 : ∀ x ∈ p1, x.block < W.heap.size := by obtain ⟨m, hm⟩ := k1; exact DataW.trod_lt m _ _ _ hm
  obtain ⟨fuel1, hf1⟩ := h1
  obtain ⟨A1_, l1, c1_, hcs1, hle1, hcap1, hnil1, w1⟩ := rd_ints Try.underlying22 Try.underlying3 (by kernel_rfl) (by kernel_rfl) hf1 (weight_arg hsz (j := 1) (t := 22) rfl rfl)
  have hcs1_ : [Value.slice A1 n1 c1] = [.slice A1_ l1.length c1_] := hcs1
  simp only [List.cons.injEq, Value.slice.injEq, and_true] at hcs1_
  obtain ⟨rfl, rfl, rfl⟩ := hcs1_
  clear hcs1
  clear hA0 hval0
  refine (walk a0 A1 l1 c1 W w0 hle1 hcap1 hnil1 w1).mono fun e W' ⟨he, bel⟩ => ?_
  subst he
  exact ⟨_, rfl, _, _, _, [], _, [], hW', trodAll_mk1 (shut_bool Try.underlying4 _), (trodAll_cons_mk (shut_int Try.underlying3 w0) (trodAll_cons_mk (Below.trod laidOut (by kernel_rfl) (of_decide_eq_true (by kernel_rfl)) k1 bel lt1) trodAll_mk0)), rfl, bel.frame _, fun h => by cases h⟩

theorem over : Rows.waveMakesRow.holds Try.pinned (OpenSpec.ofChange Rows.waveMakesSpec) :=
  OpenClaim.holds_of_wide 3 Try.f3 rfl rfl rfl rfl rfl rfl rfl ⟨rfl, rfl, rfl, rfl, rfl⟩ rfl rfl rfl rfl rfl (by kernel_rfl) Try.func3 (by kernel_rfl)
    (of_decide_eq_true (by kernel_rfl)) (by unfold Func.isWrapper; first | (rw [if_pos (by decide +kernel)]; kernel_rfl) | (rw [if_neg (by decide +kernel)]; exact ⟨rfl, rfl⟩))
    (fun os started H enc _ => lifted os started H enc)

/-- THE STATEMENT. -/
theorem proved : Rows.WaveMakesSaid := over
#print axioms proved
end Go.Proofs.Ytjgibbccjijpaaa.waveMakes
