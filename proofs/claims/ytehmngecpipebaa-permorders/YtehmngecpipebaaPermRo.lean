/-
  What the document's PermOrder returns: contracts, walked over the translated text. No condition but what each theorem names.
-/
import Derived.Test.YtehmngecpipebaaPermOd
import Derived.Test.YtehmngecpipebaaPermSg
namespace Go.Proofs.Ytehmngecpipebaa
open Go.RowKit Words

set_option maxHeartbeats 2000000 in
/-- The document's PermOrder of what is no rank. -/
theorem rorder_err (a b : Int) (w : World) (h : a < 0 ∨ 20 < a ∨ b < 0 ∨ (fact a.toNat : Int) ≤ b) :
    Calls Try.prog 33 #[.int .i64 a, .int .i64 b] w (NoPL w 2) := by
  have hc : a < 0 ∨ (decide (a < 0) = false ∧ 20 < a) ∨ (decide (a < 0) = false ∧ decide (20 < a) = false ∧ b < 0) ∨ (0 ≤ a ∧ a ≤ 20 ∧ decide (a < 0) = false ∧ decide (20 < a) = false ∧ decide (b < 0) = false ∧ (fact a.toNat : Int) ≤ b) := by
    by_cases h1 : a < 0
    · exact .inl h1
    · by_cases h2 : 20 < a
      · exact .inr (.inl ⟨by simpa using h1, h2⟩)
      · by_cases h3 : b < 0
        · exact .inr (.inr (.inl ⟨by simpa using h1, by simpa using h2, h3⟩))
        · exact .inr (.inr (.inr ⟨by omega, by omega, by simpa using h1, by simpa using h2, by simpa using h3, by omega⟩))
  clear h
  rcases hc with h1 | ⟨h1, h2⟩ | ⟨h1, h2, h3⟩ | ⟨h1, h2, h3, h4, h5, h6⟩
  · go_enter Try.func33, Try.ntmps33
    go_wp2_with fail
    go_ret2
    exact ⟨rfl, Below.refl _ _⟩
  · go_enter Try.func33, Try.ntmps33
    go_wp2_with fail
    go_ret2
    exact ⟨rfl, Below.refl _ _⟩
  · go_enter Try.func33, Try.ntmps33
    go_wp2_with fail
    go_ret2
    exact ⟨rfl, Below.refl _ _⟩
  · obtain ⟨n, rfl⟩ := Int.eq_ofNat_of_zero_le h1
    have HO := Lib.hid (fun W => rorders_any n W (by omega))
    rw [Int.toNat_natCast] at h6
    generalize fact n = f at *
    go_enter Try.func33, Try.ntmps33
    go_wp2_with fail
    refine (HO.out _).mono ?_
    rintro e w' ⟨rfl, rfl⟩
    go_wp2_with fail
    go_ret2
    exact ⟨rfl, Below.refl _ _⟩
theorem take_snoc11 {R : List Nat} {i : Nat} (hi : i < R.length) : R.take (i + 1) = R.take i ++ [st R i] := by rw [List.take_add_one, st_get hi]; rfl

set_option maxHeartbeats 4000000 in
/-- The document's PermOrder. -/
theorem rorder_ok (n N : Nat) (w : World) (hn : n ≤ 20) (hN : N < fact n) :
    Calls Try.prog 33 #[.int .i64 n, .int .i64 N] w (GivesPL w (ordL n (List.range n) N) n) := by
  have ht := fact_top hn
  have HO := Lib.hid (fun k (hk : k ≤ 20) W => rorders_any k W hk)
  have HI0 := Lib.hid (OrdIn.zero hN)
  have hRl := ordL_length n (List.range n) N
  have hRp := ordL_perm n (List.range n) N (by simp) hN
  generalize ordL n (List.range n) N = R at *
  have HMem := Lib.hid (fun i M L (h : OrdIn n R i L M) y (hy : y < n) => h.mem hRp hy)
  have HMlt := Lib.hid (fun i M L (h : OrdIn n R i L M) => show cnt n L = L.length from sum_one L n fun y hy => h.mem_lt hRp hy)
  have HTk := Lib.hid (fun i (hi : i < n) => take_snoc11 (R := R) (i := i) (by omega))
  have HTl := Lib.hid (fun i (hi : i ≤ n) => show (R.take i).length = i by rw [List.length_take]; omega)
  have HTa := Lib.hid (show R.take n = R from List.take_of_length_le (by omega))
  have HOn := Lib.hid (fun W => HO.out n hn W)
  generalize hf : fact n = f at *
  have hd0 : decide ((n : Int) < 0) = false := by simp
  have hd1 : decide ((20 : Int) < (n : Int)) = false := by simp; omega
  have hd2 : decide ((N : Int) < 0) = false := by simp
  have hd3 : decide (f ≤ N) = false := by simp; omega
  clear hRl hf hRp
  go_enter Try.func33, Try.ntmps33
  go_wp2_with fail
  refine (HOn.out _).mono ?_
  rintro e w' ⟨rfl, rfl⟩
  go_wp2_with fail
  go_loopw [1, 6, 7] (fun s v u w' => ∃ (i M : Nat) (L : List Nat) (B : Option Addr) (d : Nat), i ≤ n ∧ u = .int .i64 i ∧ s = .int .i64 M ∧ v = .slice B i d ∧ OrdIn n R i L M ∧ w'.ownsRow w.heap.size 3 1 v i (natC (R.take i)) ∧ Below w.heap.size w w') (fun _ _ u _ => n - (intOf u).toNat)
  case atStart => exact ⟨0, N, List.range n, none, 0, Nat.zero_le _, rfl, rfl, rfl, HI0.out, by rw [List.take_zero]; exact World.ownsRow_nil _ _ _ _, Below.refl _ _⟩
  case round =>
    rename World => wo
    obtain ⟨i, M, L, B, d, hi, rfl, rfl, rfl, hin, hown, hbl⟩ := hrel
    have HIn := Lib.hid hin
    have HB3 := Lib.hid hbl
    by_cases hlt : i < n
    · have HSt := Lib.hid (hin.step hlt)
      have hft := fact_top2 (k := n - 1 - i) hn (by omega)
      have hfp := fact_pos (n - 1 - i)
      have hMl := hin.lt
      have hML := fact_top2 (k := n - i) hn (by omega)
      have hff : fact (n - i) = (n - i) * fact (n - 1 - i) := by rw [show n - i = n - 1 - i + 1 by omega]; rfl
      have HOk := Lib.hid (fun W => HO.out (n - 1 - i) (by omega) W)
      have HMe := Lib.hid (fun y (hy : y < n) => HMem.out i M L hin y hy)
      have HCn := Lib.hid (fun y => cnt_next hin.srt y)
      have HSp := Lib.hid (fun x (hx : x ∈ L) => sorted_place hin.srt hx)
      have HCa := Lib.hid (show cnt n L = n - i by rw [HMlt.out i M L hin, hin.len])
      have HC0 := Lib.hid (show cnt 0 L = 0 from List.countP_eq_zero.2 fun y _ => by simp)
      generalize fact (n - 1 - i) = f1 at *
      have HNo := Lib.hid (show f1 * cnt n L ≤ M → False by
        rw [HCa.out, Nat.mul_comm]
        omega)
      have hMM : M ≤ 2432902008176640000 := by omega
      obtain ⟨B2, d2, e2, hle2, _, hl2, hn2, _⟩ := own_slice hown
      injection e2 with e3 _ e4
      subst e3 e4
      have HPl := Lib.hid (fun (y : Nat) W (hW : Lies W W.heap.size B (natC (R.take i))) => place_any B (R.take i) d y W (by rw [HTl.out i hi]; omega) hW)
      rw [HTl.out i hi] at HPl
      have HL2 := Lib.hid hl2
      have HOw := Lib.hid hown
      obtain ⟨k, hk⟩ : ∃ k, n - 1 - i = k := ⟨_, rfl⟩
      rw [hk] at HOk
      have hk1 : (n : Int) - 1 - (i : Int) = (k : Int) := by omega
      clear hin hown hbl hMl hML hff hk hl2 hn2 hle2
      go_wp2_with fail
      refine (HOk.out _).mono ?_
      rintro e w' ⟨rfl, rfl⟩
      go_wp2_with fail
      go_loopw [1, 6, 9] (fun s v u w' => ∃ (y r : Nat), y ≤ n ∧ u = .int .i64 y ∧ s = .int .i64 r ∧ f1 * cnt y L + r = M ∧ v = .slice B i d ∧ w' = wo) (fun _ _ u _ => n - (intOf u).toNat)
      case atStart => exact ⟨0, M, Nat.zero_le _, rfl, rfl, by rw [HC0.out]; omega, rfl, rfl⟩
      case round =>
        obtain ⟨y, r, hy, rfl, rfl, hr, rfl, rfl⟩ := hrel
        by_cases hyn : y < n
        · have hcn := HCn.out y
          by_cases hyL : y ∈ L
          · rw [if_pos hyL] at hcn
            have hpm := plc_none ((HMe.out y hyn).1 hyL)
            have HPy := Lib.hid (fun W hW => HPl.out y W hW)
            rw [hpm] at HPy
            have hsp := HSp.out y hyL
            by_cases hrf : r < f1
            · have hq : M / f1 = cnt y L := by
                rw [← hr, Nat.mul_add_div hfp, Nat.div_eq_of_lt hrf, Nat.add_zero]
              have hm2 : M % f1 = r := by
                rw [← hr, Nat.mul_add_mod, Nat.mod_eq_of_lt hrf]
              obtain ⟨h1, h2⟩ := HSt.out
              rw [hq, hm2] at h2
              rw [hq, hsp] at h1
              have HIn2 := Lib.hid h2
              have HTn := Lib.hid (show R.take (i + 1) = R.take i ++ [y] by rw [HTk.out i hlt, h1])
              have hrr : r ≤ 2432902008176640000 := by omega
              have hown := HOw.out
              have hsz := HB3.out.size
              clear hq hm2 h1 h2 hsp hpm hr hcn
              go_wp2_with fail
              refine (HPy.out _ HL2.out).mono ?_
              rintro e w' ⟨rfl, rfl⟩
              go_wp2_with (at_builtin; go_loud (refine append_one _ rfl (.tmp 48) (.tmp 50) 22 rfl w.heap.size 3 (.int .i64 0) 8 Try.underlying22 pint_info rfl (.slice B i d) i _ rfl (hown.alloc _) wr.heap.size 1 (.int .i64 y) rfl (by simp) rfl (by simp only [maxLen]; omega) (by omega) (by simp; omega) ?_))
              intro v1 w3 hown1 hg1
              have HB4 := Lib.hid ((HB3.out.alloc hsz _).grown hg1 (by simp; omega) (fun q hq => (hown.lt q hq).1))
              obtain ⟨B3, d3, rfl, _, _, _, _, _⟩ := own_slice hown1
              have HO3 := Lib.hid hown1
              clear hown1 hg1 hown
              go_wp2_with fail
              go_roundw
              case rel => exact ⟨i + 1, r, _, B3, d3, by omega, by go_num, rfl, rfl, HIn2.out, by rw [HTn.out, natC_snoc]; exact HO3.out, HB4.out⟩
              case measure => simp [intOf]; omega
            · have hr2 : f1 * cnt (y + 1) L + (r - f1) = M := by
                rw [hcn, Nat.mul_add, Nat.mul_one]
                omega
              obtain ⟨r2, hr3⟩ : ∃ r2, r - f1 = r2 := ⟨_, rfl⟩
              rw [hr3] at hr2
              have hsub : (r : Int) - (f1 : Int) = (r2 : Int) := by omega
              have hrr : r ≤ 2432902008176640000 := by omega
              have HR2 := Lib.hid hr2
              clear hr hr2 hr3 hcn hsp hpm
              go_wp2_with fail
              refine (HPy.out _ HL2.out).mono ?_
              rintro e w' ⟨rfl, rfl⟩
              go_wp2_with fail
              go_roundw
              case rel => exact ⟨y + 1, r2, by omega, by go_num, rfl, HR2.out, rfl, trivial⟩
              case measure => simp [intOf]; omega
          · rw [if_neg hyL] at hcn
            have hm : y ∈ R.take i := Classical.not_not.1 fun h => hyL ((HMe.out y hyn).2 h)
            have hge : 0 ≤ plc (R.take i) y ∧ plc (R.take i) y ≤ 1000000 := by
              have h1 := plc_mem hm
              have h2 := plc_bounds (R.take i) y
              have h3 := HTl.out i hi
              omega
            have HPy := Lib.hid (fun W hW => HPl.out y W hW)
            generalize plc (R.take i) y = z at *
            have hz : 0 ≤ z := hge.1
            have HR2 := Lib.hid (show f1 * cnt (y + 1) L + r = M by rw [hcn]; exact hr)
            have hrr : r ≤ 2432902008176640000 := by omega
            clear hr hcn hm hyL
            go_wp2_with fail
            refine (HPy.out _ HL2.out).mono ?_
            rintro e w' ⟨rfl, rfl⟩
            go_wp2_with fail
            go_roundw
            case rel => exact ⟨y + 1, r, by omega, by go_num, rfl, HR2.out, rfl, trivial⟩
            case measure => simp [intOf]; omega
        · obtain rfl : n = y := by omega
          exact absurd (HNo.out (by omega)) id
    · obtain rfl : n = i := by omega
      rw [HTa.out] at hown
      obtain ⟨B2, d2, e2, hle2, _, hl2, hn2, hnew2⟩ := own_slice hown
      injection e2 with e3 _ e4
      subst e3 e4
      have HL2 := Lib.hid hl2
      clear hin hown hbl hl2
      go_wp2_with fail
      go_ret2
      exact ⟨B, d, rfl, hle2, HL2.out, hn2, hnew2, HB3.out⟩
end Go.Proofs.Ytehmngecpipebaa
