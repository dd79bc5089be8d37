/-
  For every list l: the balanced text of at most 60 pairs that it stands for comes back from its parents, Go's paren.Text(paren.Tree(s)) = s, there are half as many parents as the text has places, and paren.Text of a node that is its own parent returns ErrForm.
  No condition.
-/
import Derived.Test.YtdpcnbehjgpgeaaRows
import Derived.Test.YtdpcnbehjgpgeaaFrame
import Derived.Test.YtdpcnbehjgpgeaaParTxp
import Derived.Test.YtdpcnbehjgpgeaaParPr
import Derived.WalkKit
import Derived.ProofKit
import Derived.OpenShut
import Derived.ChangeOld
import Derived.Below
import Derived.Carry
import Derived.SizedLaws
import Derived.Deep.RegionWith
import Derived.Deep.RegionHeld3
namespace Go.Proofs.Ytdpcnbehjgpgeaa.parenBack
open Go.ChangeShapes Go.WideShapes Go.ChangeAt Go.RowKit Words
set_option linter.unusedVariables false

theorem own : ownKnob Try.prog.godebug = none := by kernel_rfl
theorem laidOut : laidOutB Try.prog = true := by kernel_rfl
theorem wf_par {l : List Bool} (hl : l.length ≤ 400) : ∀ z ∈ treeP l, (Lit.int .i64 z).wf = true := fun z hz => by
  obtain ⟨i, hi⟩ := List.mem_iff_getElem?.1 hz
  have hv := treeP_valid (l := l) i (get_lt hi)
  rw [List.getD, hi] at hv
  have h1 : -1 ≤ z := hv.1
  have h2 : z < (i : Int) := hv.2
  have h3 := get_lt hi
  rw [treeP_length] at h3
  have h4 := cntO_le l l.length
  by_cases h0 : 0 ≤ z
  · exact wf_small z h0 (by omega)
  · obtain rfl : z = -1 := by omega
    decide


set_option maxRecDepth 100000 in
set_option maxHeartbeats 4000000 in
/-- The walk: the Go text returns true, and writes nothing that was there. -/
theorem walk (A0 : Option Addr) (l0 : List Int) (c0 : Nat) (w : World) (hle0 : l0.length ≤ c0) (hcap0 : c0 * 8 ≤ 140737488351232) (hnil0 : A0 = none → c0 = 0) (w0 : Lies w w.heap.size A0 (l0.map (.int .i64)) ∧ ∀ z ∈ l0, (Lit.int .i64 z).wf = true) :
    Calls Try.prog 8 #[.slice A0 l0.length c0] w fun e w' => e = .returned (.bool true) ∧ Below w.heap.size w w' := by
  have HBr := Lib.hid (brackets_any A0 l0 c0 60 w (by decide) (by omega) w0.2 w0.1)
  clear w0 hnil0
  go_enter Try.func8, Try.ntmps8
  go_wp2_with fail
  refine HBr.out.mono ?_
  rintro e v1 ⟨⟨t, hbt, hot, rfl⟩, rfl⟩
  have hl2 := hbt.two
  have htl : (treeP t).length = oc t := treeP_length t
  have HTr := Lib.hid (fun W => ptree_any t W (by omega) hbt)
  unfold GivesList at HTr
  have HCp := Lib.hid (fun A c W h1 h2 => copied_any A (treeP t) c W (by omega) h1 h2)
  unfold GivesSlice at HCp
  have HTx := Lib.hid (fun A c W h => ptext_any A (treeP t) c (txtP t) 0 W (by omega) (wf_par (by omega)) h (fun l hb he => ⟨by rw [treeP_inj hbt hb he.symm], rfl⟩) (fun h => absurd ⟨t, hbt, rfl⟩ h))
  have HT0 := Lib.hid (fun A c W h => ptext_any A [0] c ⟨#[]⟩ 4 W (by decide) (by decide) h (fun l _ he => absurd he (tree_not_self l)) (fun _ => ⟨rfl, rfl⟩))
  have hts : (txtP t).size = 2 * oc t := by rw [txtP_size]; exact hl2
  rw [htl] at HTr HTx HCp
  have hml : ((treeP t).map (Value.int .i64)).length = oc t := by rw [List.length_map, htl]
  rw [hml] at HCp
  have hdiv : ((2 * oc t : Nat) : Int) / 2 = (oc t : Nat) := by omega
  have hee : ((oc t : Int) == (oc t : Int)) = true := by simp
  clear hbt hl2 htl hml
  generalize txtP t = T at *
  generalize hno : oc t = n at *
  clear hno
  generalize hn2 : 2 * n = n2 at *
  have hb2 : n2 ≤ 120 := by omega
  clear hn2
  go_wp2_with fail
  refine (HTr.out _).mono ?_
  rintro e w1 ⟨A1, c1, rfl, hl1, hn1, hb1⟩
  go_wp2_with fail
  refine (HCp.out A1 c1 _ hn1 hl1).mono ?_
  rintro e w2 ⟨A2, c2, rfl, _, hl2, hn2, _, hb2'⟩
  go_wp2_with fail
  refine (HTx.out A2 c2 _ hl2).mono ?_
  rintro e w3 ⟨rfl, hb3⟩
  go_wp2_with fail
  refine (HT0.out (some ⟨w3.heap.size, 0, none⟩) 1 _ (Blk.new w3 3 [.int .i64 0]).lies).mono ?_
  rintro e w4 ⟨rfl, hb4⟩
  go_wp2_with fail
  go_ret
  exact ⟨rfl, chain (chain (chain (chain hb1 hb2') hb3) (bnew w3 _)) hb4⟩

set_option maxRecDepth 100000 in
theorem lifted (os : Os) (started : os.Started) (H : Type) (enc : TypeId × Value → H) :
    ReturnsInHanded {} Try.checked os 8 .any (Rows.parenBackSpec.pre6 enc Try.prog Try.f8 Rows.parenBackRow.domain false) (Rows.parenBackSpec.post enc Try.prog Try.f8 false true false false) := by
  refine returnsInHanded_of_change_sized (C := Try.checked) own started (by kernel_rfl) Try.func8
    (ChangeSpec.witness6 (enc := enc) (C := Try.checked) false ⟨#[], #[.slice none 0 0], []⟩ 8 (by kernel_rfl) (by kernel_rfl) (by kernel_rfl) (by kernel_rfl)) ?_
  intro W base args ds gs before hval0 hW hcnd hsz0 _
  have hval : ∀ (j : Nat) t v, Try.f8.params[j]? = some t → args[j]? = some v → Value.okWide Try.prog W .any base t v := hval0
  have hW' := hW
  obtain ⟨p, q, hA0, hV, rfl, hfz, hnd⟩ := hW
  have hA : DataW.TrodAll enc Try.prog W 0 (fun _ => true) true Try.f8.params.toList args.toList ds p := hA0
  have hsz : (DataW.weightsEach Try.prog (Try.f8.params.toList ++ Rows.parenBackSpec.plain.varTypes Try.prog) (ds ++ gs)).all (· ≤ reachBytes) = true := hsz0
  rw [Try.params8] at hA hval hsz
  obtain ⟨v0, vs0, d0, ds0, p0, q0, hargs, rfl, rfl, h0, r0⟩ := trodAll_cons hA
  obtain ⟨rfl, rfl, rfl⟩ := trodAll_nil r0
  obtain rfl : args = #[v0] := by cases args; simp_all
  obtain ⟨rfl, rfl⟩ := trodVars_none hV
  obtain ⟨A0, n0, c0, rfl⟩ := okWide_slice Try.underlying28 (hval 0 28 v0 rfl rfl)
  have k0 := h0
  have lt0 : ∀ x ∈ p0, x.block < W.heap.size := by obtain ⟨m, hm⟩ := k0; exact DataW.trod_lt m _ _ _ hm
  obtain ⟨fuel0, hf0⟩ := h0
  obtain ⟨A0_, l0, c0_, hcs0, hle0, hcap0, hnil0, w0⟩ := rd_ints Try.underlying28 Try.underlying3 (by kernel_rfl) (by kernel_rfl) hf0 (weight_arg hsz (j := 0) (t := 28) rfl rfl)
  have hcs0_ : [Value.slice A0 n0 c0] = [.slice A0_ l0.length c0_] := hcs0
  simp only [List.cons.injEq, Value.slice.injEq, and_true] at hcs0_
  obtain ⟨rfl, rfl, rfl⟩ := hcs0_
  clear hcs0
  clear hA0 hval0
  refine (walk A0 l0 c0 W hle0 hcap0 hnil0 w0).mono fun e W' ⟨he, bel⟩ => ?_
  subst he
  exact ⟨_, rfl, _, _, _, [], _, [], hW', trodAll_mk1 (shut_bool Try.underlying4 _), (trodAll_cons_mk (Below.trod laidOut (by kernel_rfl) (of_decide_eq_true (by kernel_rfl)) k0 bel lt0) trodAll_mk0), rfl, bel.frame _, fun h => by cases h⟩

theorem over : Rows.parenBackRow.holds Try.pinned (OpenSpec.ofChange Rows.parenBackSpec) :=
  OpenClaim.holds_of_wide 8 Try.f8 rfl rfl rfl rfl rfl rfl rfl ⟨rfl, rfl, rfl, rfl, rfl⟩ rfl rfl rfl rfl rfl (by kernel_rfl) Try.func8 (by kernel_rfl)
    (of_decide_eq_true (by kernel_rfl)) (by unfold Func.isWrapper; first | (rw [if_pos (by decide +kernel)]; kernel_rfl) | (rw [if_neg (by decide +kernel)]; exact ⟨rfl, rfl⟩))
    (fun os started H enc _ => lifted os started H enc)

/-- THE STATEMENT. -/
theorem proved : Rows.ParenBackSaid := over
#print axioms proved
end Go.Proofs.Ytdpcnbehjgpgeaa.parenBack
