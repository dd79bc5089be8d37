/-
  For every kind and every list l of numbers, Go's gam.Encode(kind, l) returns the vector or the error that the document's answer returns (P4.2).
  No condition.
-/
import Derived.Test.YtelcnkmgdohigaaRows
import Derived.Test.YtelcnkmgdohigaaFrame
import Derived.Test.YtelcnkmgdohigaaGamREnc
import Derived.Test.YtelcnkmgdohigaaSame
import Derived.WalkKit
import Derived.ProofKit
import Derived.OpenShut
import Derived.ChangeOld
import Derived.Below
import Derived.Carry
import Derived.SizedLaws
import Derived.Deep.RegionWith
import Derived.Deep.RegionHeld3
namespace Go.Proofs.Ytelcnkmgdohigaa.gamEncodes
open Go.ChangeShapes Go.WideShapes Go.ChangeAt Go.RowKit Words
set_option linter.unusedVariables false

theorem own : ownKnob Try.prog.godebug = none := by kernel_rfl
theorem laidOut : laidOutB Try.prog = true := by kernel_rfl
/-- Both answer with an error, the same. -/
theorem enc_none (x : Nat) (k : Int) (A : Option Addr) (n c : Nat) (w : World) (h1 : ∀ W, Below w.heap.size w W → Calls Try.prog 9 #[.int .i64 k, .slice A n c] W (NoBits W x)) (h2 : ∀ W, Below w.heap.size w W → Calls Try.prog 10 #[.int .i64 k, .slice A n c] W (NoBits W x)) :
    Calls Try.prog 3 #[.int .i64 k, .slice A n c] w fun e w' => e = .returned (.bool true) ∧ Below w.heap.size w w' := by
  have H1 := Lib.hid h1
  have H2 := Lib.hid h2
  have hS0 : ∀ W, Calls Try.prog 11 #[.agg #[.int .i64 0, .slice none 0 0], .agg #[.int .i64 0, .slice none 0 0]] W fun e w' => e = .returned (.bool true) ∧ Below W.heap.size W w' := fun W => sameRow_eq 0 none none [] 0 0 W (by simp) ⟨Lies.nil, by simp⟩ ⟨Lies.nil, by simp⟩
  have HS := Lib.hid hS0
  have hkk : ((x : Int) == (x : Int)) = true := by simp
  clear hS0 h1 h2
  go_enter Try.func3, Try.ntmps3
  go_wp2_with fail
  refine (H1.out _ (Below.refl _ _)).mono ?_
  rintro e w1 ⟨rfl, hb1⟩
  go_wp2_with fail
  refine (H2.out _ (by exact chain hb1 (bnew _ _))).mono ?_
  rintro e w2 ⟨rfl, hb2⟩
  have hc2 := bcell hb2
  have hz2 : w1.heap.size < w2.heap.size := by have := hb2.size; simp at this; omega
  go_wp2_with fail
  refine (HS.out _).mono ?_
  rintro e w3 ⟨rfl, hb3⟩
  go_wp2
  go_ret
  exact ⟨rfl, chain (chain (chain (chain hb1 (bnew _ _)) hb2) (bnew _ _)) hb3⟩

theorem encodes_bad {k : Nat} {l : List Int} {w : World} (h : ∃ z ∈ l, ¬ Codes z) : ∀ e w', Encodes k l w e w' → NoBits w 2 e w' := fun e w' hh => by
  obtain ⟨z, hz, hc⟩ := h
  rcases hh with ⟨_, h⟩ | ⟨h, _⟩ | ⟨h, _⟩
  · exact h
  · exact absurd (h z hz) hc
  · exact absurd (h z hz) hc
theorem encodes_full {k : Nat} {l : List Int} {w : World} (h : ∀ z ∈ l, Codes z) (hf : 4096 < (codes k (natsI l)).length) : ∀ e w', Encodes k l w e w' → NoBits w 9 e w' := fun e w' hh => by
  rcases hh with ⟨⟨z, hz, hc⟩, _⟩ | ⟨_, _, h⟩ | ⟨_, h, _⟩
  · exact absurd (h z hz) hc
  · exact h
  · omega
theorem encodes_good {k : Nat} {l : List Int} {w : World} (h : ∀ z ∈ l, Codes z) (hf : (codes k (natsI l)).length ≤ 4096) : ∀ e w', Encodes k l w e w' → GivesBits w (codes k (natsI l)).length (rowOf (codes k (natsI l))) e w' := fun e w' hh => by
  rcases hh with ⟨⟨z, hz, hc⟩, _⟩ | ⟨_, h, _⟩ | ⟨_, _, h⟩
  · exact absurd (h z hz) hc
  · omega
  · exact h


set_option maxHeartbeats 1000000 in
/-- The walk: the Go text returns true, and writes nothing that was there. -/
theorem walk (a0 : Int) (A1 : Option Addr) (l1 : List Int) (c1 : Nat) (w : World) (w0 : (Lit.int .i64 a0).wf = true) (hle1 : l1.length ≤ c1) (hcap1 : c1 * 8 ≤ 140737488351232) (hnil1 : A1 = none → c1 = 0) (w1 : Lies w w.heap.size A1 (l1.map (.int .i64)) ∧ ∀ z ∈ l1, (Lit.int .i64 z).wf = true) :
    Calls Try.prog 3 #[.int .i64 a0, .slice A1 l1.length c1] w fun e w' => e = .returned (.bool true) ∧ Below w.heap.size w w' := by
  by_cases hk : a0 = 1 ∨ a0 = 2
  · by_cases hn : 300 < l1.length
    · exact enc_none 1 a0 A1 l1.length c1 w (fun W _ => enc_size a0 A1 l1.length c1 W hk hn (by omega)) (fun W _ => renc_size a0 A1 l1.length c1 W hk hn (by omega))
    obtain ⟨k, rfl⟩ := Int.eq_ofNat_of_zero_le (a := a0) (by omega)
    have hk' : k = 1 ∨ k = 2 := by omega
    by_cases hb : ∀ z ∈ l1, Codes z
    · by_cases hf : 4096 < (codes k (natsI l1)).length
      · exact enc_none 9 k A1 l1.length c1 w (fun W h => (enc_any k A1 l1 c1 W hk' (by omega) (w1.1.on h)).mono (encodes_full hb hf)) (fun W h => (renc_any k A1 l1 c1 W hk' (by omega) (w1.1.on h)).mono (encodes_full hb hf))
      have H1 := Lib.hid (fun W (h : Lies W W.heap.size A1 (l1.map (.int .i64))) => (enc_any k A1 l1 c1 W hk' (by omega) h).mono (encodes_good hb (by omega)))
      have H2 := Lib.hid (fun W (h : Lies W W.heap.size A1 (l1.map (.int .i64))) => (renc_any k A1 l1 c1 W hk' (by omega) h).mono (encodes_good hb (by omega)))
      have HS := Lib.hid (fun A A2 c c2 W h1 h2 => sameRow_eq (codes k (natsI l1)).length A A2 (rowOf (codes k (natsI l1))) c c2 W (by rw [rowOf_length]; omega) h1 h2)
      have HL := Lib.hid w1.1
      clear w1 hnil1 hf hb hn w0 hk hk'
      generalize rowOf (codes k (natsI l1)) = ws at *
      generalize (codes k (natsI l1)).length = m at *
      have hmm : ((m : Int) == (m : Int)) = true := by simp
      go_enter Try.func3, Try.ntmps3
      go_wp2_with fail
      refine (H1.out _ HL.out).mono ?_
      rintro e w1 ⟨B1, k1, rfl, hW1, _, hb1⟩
      have HW1 := Lib.hid hW1
      clear hW1
      go_wp2_with fail
      refine (H2.out _ (by exact (HL.out.on hb1).alloc _)).mono ?_
      rintro e w2 ⟨B2, k2, rfl, hW2, _, hb2⟩
      have HW2 := Lib.hid hW2
      have hc2 := bcell hb2
      have hz2 : w1.heap.size < w2.heap.size := by have := hb2.size; simp at this; omega
      clear hW2
      go_wp2_with fail
      refine (HS.out B1 B2 k1 k2 _ ?_ ?_).mono ?_
      · exact ((HW1.out.alloc _).on hb2).alloc _
      · exact HW2.out.alloc _
      rintro e w3 ⟨rfl, hb3⟩
      go_wp2
      go_ret
      exact ⟨rfl, chain (chain (chain (chain hb1 (bnew _ _)) hb2) (bnew _ _)) hb3⟩
    · have hb' : ∃ z ∈ l1, ¬ Codes z := by
        simp only [Classical.not_forall] at hb
        obtain ⟨z, hz, hc⟩ := hb
        exact ⟨z, hz, hc⟩
      exact enc_none 2 k A1 l1.length c1 w (fun W h => (enc_any k A1 l1 c1 W hk' (by omega) (w1.1.on h)).mono (encodes_bad hb')) (fun W h => (renc_any k A1 l1 c1 W hk' (by omega) (w1.1.on h)).mono (encodes_bad hb'))
  · exact enc_none 3 a0 A1 l1.length c1 w (fun W _ => enc_kind a0 A1 l1.length c1 W hk) (fun W _ => renc_kind a0 A1 l1.length c1 W hk)

set_option maxRecDepth 100000 in
theorem lifted (os : Os) (started : os.Started) (H : Type) (enc : TypeId × Value → H) :
    ReturnsInHanded {} Try.checked os 3 .any (Rows.gamEncodesSpec.pre6 enc Try.prog Try.f3 Rows.gamEncodesRow.domain false) (Rows.gamEncodesSpec.post enc Try.prog Try.f3 false true false false) := by
  refine returnsInHanded_of_change_sized (C := Try.checked) own started (by kernel_rfl) Try.func3
    (ChangeSpec.witness6 (enc := enc) (C := Try.checked) false ⟨#[], #[.int .i64 0, .slice none 0 0], []⟩ 8 (by kernel_rfl) (by kernel_rfl) (by kernel_rfl) (by kernel_rfl)) ?_
  intro W base args ds gs before hval0 hW hcnd hsz0 _
  have hval : ∀ (j : Nat) t v, Try.f3.params[j]? = some t → args[j]? = some v → Value.okWide Try.prog W .any base t v := hval0
  have hW' := hW
  obtain ⟨p, q, hA0, hV, rfl, hfz, hnd⟩ := hW
  have hA : DataW.TrodAll enc Try.prog W 0 (fun _ => true) true Try.f3.params.toList args.toList ds p := hA0
  have hsz : (DataW.weightsEach Try.prog (Try.f3.params.toList ++ Rows.gamEncodesSpec.plain.varTypes Try.prog) (ds ++ gs)).all (· ≤ reachBytes) = true := hsz0
  rw [Try.params3] at hA hval hsz
  obtain ⟨v0, vs0, d0, ds0, p0, q0, hargs, rfl, rfl, h0, r0⟩ := trodAll_cons hA
  obtain ⟨v1, vs1, d1, ds1, p1, q1, rfl, rfl, rfl, h1, r1⟩ := trodAll_cons r0
  obtain ⟨rfl, rfl, rfl⟩ := trodAll_nil r1
  obtain rfl : args = #[v0, v1] := by cases args; simp_all
  obtain ⟨rfl, rfl⟩ := trodVars_none hV
  obtain ⟨a0, rfl, rfl, rfl, w0⟩ := open_int Try.underlying3 (hval 0 3 v0 rfl rfl) h0
  obtain ⟨A1, n1, c1, rfl⟩ := okWide_slice Try.underlying22 (hval 1 22 v1 rfl rfl)
  have k1 := h1
  have lt1 : ∀ x ∈ p1, x.block < W.heap.size := by obtain ⟨m, hm⟩ := k1; exact DataW.trod_lt m _ _ _ hm
  obtain ⟨fuel1, hf1⟩ := h1
  obtain ⟨A1_, l1, c1_, hcs1, hle1, hcap1, hnil1, w1⟩ := rd_ints Try.underlying22 Try.underlying3 (by kernel_rfl) (by kernel_rfl) hf1 (weight_arg hsz (j := 1) (t := 22) rfl rfl)
  have hcs1_ : [Value.slice A1 n1 c1] = [.slice A1_ l1.length c1_] := hcs1
  simp only [List.cons.injEq, Value.slice.injEq, and_true] at hcs1_
  obtain ⟨rfl, rfl, rfl⟩ := hcs1_
  clear hcs1
  clear hA0 hval0
  refine (walk a0 A1 l1 c1 W w0 hle1 hcap1 hnil1 w1).mono fun e W' ⟨he, bel⟩ => ?_
  subst he
  exact ⟨_, rfl, _, _, _, [], _, [], hW', trodAll_mk1 (shut_bool Try.underlying4 _), (trodAll_cons_mk (shut_int Try.underlying3 w0) (trodAll_cons_mk (Below.trod laidOut (by kernel_rfl) (of_decide_eq_true (by kernel_rfl)) k1 bel lt1) trodAll_mk0)), rfl, bel.frame _, fun h => by cases h⟩

theorem over : Rows.gamEncodesRow.holds Try.pinned (OpenSpec.ofChange Rows.gamEncodesSpec) :=
  OpenClaim.holds_of_wide 3 Try.f3 rfl rfl rfl rfl rfl rfl rfl ⟨rfl, rfl, rfl, rfl, rfl⟩ rfl rfl rfl rfl rfl (by kernel_rfl) Try.func3 (by kernel_rfl)
    (of_decide_eq_true (by kernel_rfl)) (by unfold Func.isWrapper; first | (rw [if_pos (by decide +kernel)]; kernel_rfl) | (rw [if_neg (by decide +kernel)]; exact ⟨rfl, rfl⟩))
    (fun os started H enc _ => lifted os started H enc)

/-- THE STATEMENT. -/
theorem proved : Rows.GamEncodesSaid := over
#print axioms proved
end Go.Proofs.Ytelcnkmgdohigaa.gamEncodes
