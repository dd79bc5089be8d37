/-
  For every list l and every number x: in the tree of the list of at most 91 numbers that l stands for, Go's fen.Find finds the index at which the sum comes above the number that x stands for: the sum ahead of it is not above, the sum with it is; where no sum is, it returns ErrNone.
  No condition.
-/
import Derived.Test.YtegcpfopdaoebaaRows
import Derived.Test.YtegcpfopdaoebaaFrame
import Derived.Test.YtegcpfopdaoebaaFenFd
import Derived.Test.YtegcpfopdaoebaaKeep8
import Derived.WalkKit
import Derived.ProofKit
import Derived.OpenShut
import Derived.ChangeOld
import Derived.Below
import Derived.Carry
import Derived.SizedLaws
import Derived.Deep.RegionWith
import Derived.Deep.RegionHeld3
namespace Go.Proofs.Ytegcpfopdaoebaa.fenFound
open Go.ChangeShapes Go.WideShapes Go.ChangeAt Go.RowKit Words
set_option linter.unusedVariables false

theorem own : ownKnob Try.prog.godebug = none := by kernel_rfl
theorem laidOut : laidOutB Try.prog = true := by kernel_rfl
theorem S_mono {f : Nat → Int} (n : Nat) (h : ∀ j, j < n → 0 ≤ f j) (k : Nat) (hk : k ≤ n) : S f k ≤ S f n := by
  induction n with
  | zero => obtain rfl : k = 0 := by omega
            exact Int.le_refl _
  | succ n ih =>
    by_cases e : k = n + 1
    · rw [e]; exact Int.le_refl _
    · have h1 := ih (fun j hj => h j (by omega)) (by omega)
      have h2 := h n (by omega)
      rw [S_succ]
      omega
theorem comes_congr {f g : Nat → Int} {n : Nat} (h : ∀ j, j < n → f j = g j) {x v r : Int} (hc : Comes f n x v r) : Comes g n x v r := by
  have hs : ∀ k, k ≤ n → S g k = S f k := fun k hk => S_congr k fun c hc => (h c (by omega)).symm
  rcases hc with ⟨i, h1, h2, h3, h4, h5⟩ | ⟨h1, h2, h3⟩
  · exact .inl ⟨i, h1, h2, h3, by rw [hs _ (by omega)]; exact h4, fun k hk => by rw [hs _ (by omega)]; exact h5 k hk⟩
  · exact .inr ⟨h1, h2, fun k hk => by rw [hs _ (by omega)]; exact h3 k hk⟩
/-- fen.Find of a list's tree. -/
theorem ffind_tr (A : Option Addr) (f : Nat → Int) (n c : Nat) (x v r B : Int) (w : World) (hn : n ≤ 300) (hf : Lim B f n) (h0 : 0 ≤ B) (hB : B ≤ 1000000) (hp : ∀ j, j < n → 0 ≤ f j) (hc : Comes f n x v r) (hnone : A = none → c = 0) (hL : Lies w w.heap.size A (cellsOf (tr f) n)) :
    Calls Try.prog 17 #[.slice A n c, .int .i64 x] w (Tells8 w v r) := by
  have he : ∀ j, j < n → num (at0 (vals (tr f) n)) j = f j := fun j hj => by
    rw [num_congr (g := tr f) j fun c hc => at0_vals _ _ _ (by omega), num_tr]
  have h := ffind_any A (vals (tr f) n) c x v r w ((hf.tree hn h0).valid hn (by omega)) (by rw [vals_length]; intro j hj; rw [he j hj]; exact hp j hj) (by rw [vals_length]; exact comes_congr (fun j hj => (he j hj).symm) hc) hnone hL
  rw [vals_length] at h
  exact h


set_option maxRecDepth 100000 in
set_option maxHeartbeats 4000000 in
/-- The walk: the Go text returns true, and writes nothing that was there. -/
theorem walk (A0 : Option Addr) (l0 : List Int) (c0 : Nat) (a1 : Int) (w : World) (hle0 : l0.length ≤ c0) (hcap0 : c0 * 8 ≤ 140737488351232) (hnil0 : A0 = none → c0 = 0) (w0 : Lies w w.heap.size A0 (l0.map (.int .i64)) ∧ ∀ z ∈ l0, (Lit.int .i64 z).wf = true) (w1 : (Lit.int .i64 a1).wf = true) :
    Calls Try.prog 8 #[.slice A0 l0.length c0, .int .i64 a1] w fun e w' => e = .returned (.bool true) ∧ Below w.heap.size w w' := by
  have HNu := Lib.hid (numbers_own A0 l0 c0 90 50 w (by decide) (by decide) (by decide) w0.2 w0.1)
  unfold GivesOwnI at HNu
  have hpl := picks_length 90 50 l0
  rw [← cellsOf_at0] at HNu
  have hlm : ∀ j, j < (picks 90 50 l0).length → 0 ≤ at0 (picks 90 50 l0) j ∧ at0 (picks 90 50 l0) j < 50 := fun j hj => picks_lt (n := 50) (by decide) 90 l0 _ (List.mem_of_getElem? (at0_some _ j hj))
  clear w0 hnil0 hle0 hcap0
  generalize (picks 90 50 l0).length = m at *
  generalize at0 (picks 90 50 l0) = f0 at *
  have HCe := Lib.hid (cells_snoc f0 m 5)
  have hp : ∀ j, j < m + 1 → 0 ≤ snoc f0 m 5 j := fun j _ => by
    unfold snoc
    by_cases e : j < m
    · rw [if_pos e]; exact (hlm j e).1
    · rw [if_neg e]; decide
  have hLf : Lim 50 (snoc f0 m 5) (m + 1) := Lim.snoc (fun j hj => by have := hlm j hj; omega) 5 (by decide)
  have h5 : snoc f0 m 5 m = 5 := if_neg (Nat.lt_irrefl m)
  clear hlm
  generalize snoc f0 m 5 = f at *
  have hS1 : S f (m + 1) = S f m + 5 := by rw [S_succ, h5]
  have hS0 := S_mono (f := f) m (fun j hj => hp j (by omega)) 0 (Nat.zero_le _)
  have hS2 := S_300 (f := f) (m + 1) 50 (by decide) (by omega) fun c hc => hLf c hc
  obtain ⟨n, hn⟩ : ∃ n, m + 1 = n := ⟨_, rfl⟩
  have hn1 : n ≤ 91 := by omega
  have hn0 : 0 < n := by omega
  rw [hn] at HCe hLf hp hS1 hS2
  obtain ⟨al, hal⟩ : ∃ al : Nat, S f n = (al : Int) := ⟨(S f n).toNat, by have : S f 0 = 0 := rfl; omega⟩
  have hab : al ≤ 15000 := by omega
  clear hS0 hS1 hS2 h5
  have hr := pick_lt (n := al + 5) (by omega) a1
  have HPr := Lib.hid (pick_any a1 (al + 5) · (by omega) (by omega) w1)
  generalize pick (al + 5) a1 = r at *
  have hsum : (al : Int) + 5 = ((al + 5 : Nat) : Int) := by omega
  generalize hz : al + 5 = z at *
  have hzb : z ≤ 15005 := by omega
  clear hz
  have HCo := Lib.hid (fun A c W a b => copied_fun A f n c W (by omega) a b)
  have HMk := Lib.hid (fun A c W a b => fmk_fun A f n c W (by omega) (hLf.wide (by decide)) a b)
  have HSu := Lib.hid (fun i (hi : i ≤ n) A c W b => fsum_tr A f n c i 50 W (by omega) hLf (by decide) (by decide) hi b)
  have HFi := Lib.hid (fun v e (hc : Comes f n (r : Nat) v e) A c W a b => ffind_tr A f n c (r : Nat) v e 50 W (by omega) hLf (by decide) (by decide) hp hc a b)
  have HLf := Lib.hid hLf
  have HMo := Lib.hid (S_mono (f := f) n hp)
  have HAl := Lib.hid hal
  have HSb := Lib.hid (fun i (hi : i ≤ n) => S_300 (f := f) i 50 (by decide) (by omega) fun c hc => hLf c (by omega))
  unfold GivesT at HMk
  clear hLf hp hal
  go_enter Try.func8, Try.ntmps8
  go_wp2_with fail
  refine HNu.out.mono ?_
  rintro e v1 ⟨vv, rfl, hown, hb1⟩
  have hsz := hb1.size
  go_wp2_with (at_builtin; go_loud (refine append_one _ rfl (.tmp 18) (.tmp 19) 22 rfl w.heap.size 3 (.int .i64 0) 8 Try.underlying22 fint_info rfl vv m _ rfl (hown.alloc _) v1.heap.size 1 (.int .i64 5) rfl (by simp) rfl (by simp only [maxLen]; omega) (by omega) (by simp; omega) ?_))
  intro v2 v3 hown2 hg2
  have hb3 : Below w.heap.size w v3 := (hb1.alloc hsz _).grown hg2 (by simp; omega) (fun q hq => (hown.lt q hq).1)
  rw [HCe.out] at hown2
  obtain ⟨A3, c3, rfl, _, _, hl3, hn3, _⟩ := own_slice hown2
  obtain ⟨g, rfl, hgw⟩ := own_at hown2 hn0
  have HO3 := Lib.hid hown2
  have HL3 := Lib.hid hl3
  clear hown2 hg2 hown hb1 hl3 hn3 hsz hn hpl HNu HCe
  go_wp2_with fail
  refine (HCo.out (some ⟨g, 0, none⟩) c3 _ (fun e => by cases e) HL3.out).mono ?_
  rintro e v4 ⟨A4, c4, rfl, hl4, hn4, hb4⟩
  go_wp2_with fail
  refine (HMk.out A4 c4 _ hn4 hl4).mono ?_
  rintro e v5 ⟨A5, c5, rfl, hl5, hn5, _, hb5⟩
  have HO5 := Lib.hid (own_stay (own_stay HO3.out hb4 (Nat.le_refl _)) hb5 (Nat.le_refl _))
  have HL5 := Lib.hid hl5
  have HN5 := Lib.hid hn5
  have hb35 := chain (chain hb3 hb4) hb5
  clear hl5 hn5 hl4 hn4 HO3 HL3
  go_wp2_with fail
  go_loopw [8, 9] (fun s a w' => ∃ k : Nat, k ≤ n ∧ s = .int .i64 (S f k) ∧ a = .int .i64 k ∧ w' = v5) (fun _ a _ => n - (intOf a).toNat)
  case atStart => exact ⟨0, Nat.zero_le _, rfl, rfl, rfl⟩
  case round =>
    obtain ⟨k, hk, rfl, rfl, rfl⟩ := hrel
    by_cases hlt : k < n
    · have hck := own_cell HO5.out (cellsOf_get f n k hlt)
      obtain ⟨f1, f2⟩ := HLf.out k hlt
      obtain ⟨s1, s2⟩ := HSb.out k (by omega)
      have HSt := Lib.hid (S_succ f k)
      generalize S f k = s at *
      generalize f k = y at *
      go_wp2_with fail
      go_roundw
      case rel => exact ⟨k + 1, by omega, by rw [HSt.out], by go_num, trivial⟩
      case measure => simp [intOf]; omega
    · obtain rfl : n = k := by omega
      rw [HAl.out]
      by_cases hge : al ≤ r
      · have HF := Lib.hid (fun A c W a b => HFi.out 0 7 (.inr ⟨rfl, rfl, fun k hk => by have := HMo.out (k + 1) (by omega); rw [HAl.out] at this; omega⟩) A c W a b)
        go_wp2_with fail
        refine (HPr.out _).mono ?_
        rintro e v6 ⟨rfl, rfl⟩
        go_wp2_with fail
        refine (HF.out A5 c5 _ HN5.out HL5.out).mono ?_
        rintro e v6 ⟨rfl, hb6⟩
        go_wp2_with fail
        go_ret
        exact ⟨rfl, chain hb35 hb6⟩
      · obtain ⟨v, e, hc⟩ := comes_any f n (r : Nat)
        have hc2 := hc
        rcases hc with ⟨i, hi, rfl, rfl, h4, h5⟩ | ⟨_, _, h3⟩
        · have HF := Lib.hid (fun A c W a b => HFi.out i 0 hc2 A c W a b)
          have h6 : S f i ≤ (r : Nat) := by
            cases i with
            | zero => show (0 : Int) ≤ _; omega
            | succ i => exact h5 i (by omega)
          have HA := Lib.hid (HSu.out i (by omega))
          have HB := Lib.hid (HSu.out (i + 1) (by omega))
          unfold Tells8 at HF HA HB
          have hii : (i : Int) + 1 = ((i + 1 : Nat) : Int) := by omega
          clear h5 hc2
          generalize S f i = s1 at *
          generalize S f (i + 1) = s2 at *
          generalize hi1 : i + 1 = i1 at *
          have hib : i1 ≤ 91 := by omega
          clear hi1
          have e1 : decide (s1 ≤ (r : Int)) = true := decide_eq_true h6
          have e2 : decide ((r : Int) < s2) = true := decide_eq_true h4
          go_wp2_with fail
          refine (HPr.out _).mono ?_
          rintro e v6 ⟨rfl, rfl⟩
          go_wp2_with fail
          refine (HF.out A5 c5 _ HN5.out HL5.out).mono ?_
          rintro e v6 ⟨rfl, hb6⟩
          have hl6 := HL5.out.on hb6
          go_wp2_with fail
          refine (HA.out A5 c5 _ hl6).mono ?_
          rintro e v7 ⟨rfl, hb7⟩
          have hl7 := hl6.on hb7
          clear hl6
          go_wp2_with fail
          refine (HB.out A5 c5 _ hl7).mono ?_
          rintro e v8 ⟨rfl, hb8⟩
          go_wp2_with fail
          go_ret
          exact ⟨by simp, chain (chain (chain hb35 hb6) hb7) hb8⟩
        · exfalso
          have := h3 (n - 1) (by omega)
          rw [show n - 1 + 1 = n by omega, HAl.out] at this
          omega

set_option maxRecDepth 100000 in
theorem lifted (os : Os) (started : os.Started) (H : Type) (enc : TypeId × Value → H) :
    ReturnsInHanded {} Try.checked os 8 .any (Rows.fenFoundSpec.pre6 enc Try.prog Try.f8 Rows.fenFoundRow.domain false) (Rows.fenFoundSpec.post enc Try.prog Try.f8 false true false false) := by
  refine returnsInHanded_of_change_sized (C := Try.checked) own started (by kernel_rfl) Try.func8
    (ChangeSpec.witness6 (enc := enc) (C := Try.checked) false ⟨#[], #[.slice none 0 0, .int .i64 0], []⟩ 8 (by kernel_rfl) (by kernel_rfl) (by kernel_rfl) (by kernel_rfl)) ?_
  intro W base args ds gs before hval0 hW hcnd hsz0 _
  have hval : ∀ (j : Nat) t v, Try.f8.params[j]? = some t → args[j]? = some v → Value.okWide Try.prog W .any base t v := hval0
  have hW' := hW
  obtain ⟨p, q, hA0, hV, rfl, hfz, hnd⟩ := hW
  have hA : DataW.TrodAll enc Try.prog W 0 (fun _ => true) true Try.f8.params.toList args.toList ds p := hA0
  have hsz : (DataW.weightsEach Try.prog (Try.f8.params.toList ++ Rows.fenFoundSpec.plain.varTypes Try.prog) (ds ++ gs)).all (· ≤ reachBytes) = true := hsz0
  rw [Try.params8] at hA hval hsz
  obtain ⟨v0, vs0, d0, ds0, p0, q0, hargs, rfl, rfl, h0, r0⟩ := trodAll_cons hA
  obtain ⟨v1, vs1, d1, ds1, p1, q1, rfl, rfl, rfl, h1, r1⟩ := trodAll_cons r0
  obtain ⟨rfl, rfl, rfl⟩ := trodAll_nil r1
  obtain rfl : args = #[v0, v1] := by cases args; simp_all
  obtain ⟨rfl, rfl⟩ := trodVars_none hV
  obtain ⟨A0, n0, c0, rfl⟩ := okWide_slice Try.underlying22 (hval 0 22 v0 rfl rfl)
  have k0 := h0
  have lt0 : ∀ x ∈ p0, x.block < W.heap.size := by obtain ⟨m, hm⟩ := k0; exact DataW.trod_lt m _ _ _ hm
  obtain ⟨fuel0, hf0⟩ := h0
  obtain ⟨A0_, l0, c0_, hcs0, hle0, hcap0, hnil0, w0⟩ := rd_ints Try.underlying22 Try.underlying3 (by kernel_rfl) (by kernel_rfl) hf0 (weight_arg hsz (j := 0) (t := 22) rfl rfl)
  have hcs0_ : [Value.slice A0 n0 c0] = [.slice A0_ l0.length c0_] := hcs0
  simp only [List.cons.injEq, Value.slice.injEq, and_true] at hcs0_
  obtain ⟨rfl, rfl, rfl⟩ := hcs0_
  clear hcs0
  obtain ⟨a1, rfl, rfl, rfl, w1⟩ := open_int Try.underlying3 (hval 1 3 v1 rfl rfl) h1
  clear hA0 hval0
  refine (walk A0 l0 c0 a1 W hle0 hcap0 hnil0 w0 w1).mono fun e W' ⟨he, bel⟩ => ?_
  subst he
  exact ⟨_, rfl, _, _, _, [], _, [], hW', trodAll_mk1 (shut_bool Try.underlying4 _), (trodAll_cons_mk (Below.trod laidOut (by kernel_rfl) (of_decide_eq_true (by kernel_rfl)) k0 bel lt0) (trodAll_cons_mk (shut_int Try.underlying3 w1) trodAll_mk0)), rfl, bel.frame _, fun h => by cases h⟩

theorem over : Rows.fenFoundRow.holds Try.pinned (OpenSpec.ofChange Rows.fenFoundSpec) :=
  OpenClaim.holds_of_wide 8 Try.f8 rfl rfl rfl rfl rfl rfl rfl ⟨rfl, rfl, rfl, rfl, rfl⟩ rfl rfl rfl rfl rfl (by kernel_rfl) Try.func8 (by kernel_rfl)
    (of_decide_eq_true (by kernel_rfl)) (by unfold Func.isWrapper; first | (rw [if_pos (by decide +kernel)]; kernel_rfl) | (rw [if_neg (by decide +kernel)]; exact ⟨rfl, rfl⟩))
    (fun os started H enc _ => lifted os started H enc)

/-- THE STATEMENT. -/
theorem proved : Rows.FenFoundSaid := over
#print axioms proved
end Go.Proofs.Ytegcpfopdaoebaa.fenFound
