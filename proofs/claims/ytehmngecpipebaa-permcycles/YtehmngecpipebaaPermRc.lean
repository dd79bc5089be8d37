/-
  What the document's PermCycles and the statements' comparison of rows return: contracts, walked over the translated text. No condition but what each theorem names.
-/
import Derived.Test.YtehmngecpipebaaPermCs
import Derived.Test.YtehmngecpipebaaSameI
namespace Go.Proofs.Ytehmngecpipebaa
open Go.RowKit Words

/-- The least of the first numbers of a cycle. -/
def leastTo (p : List Nat) (i : Nat) : Nat → Nat
  | 0 => i
  | k + 1 => min (leastTo p i k) (it p k i)
theorem leastTo_le (p : List Nat) (i : Nat) : ∀ k, leastTo p i k ≤ i
  | 0 => Nat.le_refl _
  | k + 1 => Nat.le_trans (Nat.min_le_left _ _) (leastTo_le p i k)
theorem leastTo_iff (p : List Nat) (i : Nat) : ∀ k, i ≤ leastTo p i k ↔ ∀ j, j < k → i ≤ it p j i
  | 0 => ⟨fun _ j hj => by omega, fun _ => Nat.le_refl _⟩
  | k + 1 => by
    rw [leastTo, Nat.le_min, leastTo_iff p i k]
    constructor
    · rintro ⟨h1, h2⟩ j hj
      by_cases e : j = k
      · rw [e]; exact h2
      · exact h1 j (by omega)
    · intro h
      exact ⟨fun j hj => h j (by omega), h k (by omega)⟩
theorem leastTo_all (p : List Nat) (i : Nat) : leastTo p i (per p i) = i ↔ least p i = true := by
  have h1 := leastTo_le p i (per p i)
  have h2 := leastTo_iff p i (per p i)
  unfold least
  rw [List.all_eq_true]
  constructor
  · intro e x hx
    obtain ⟨j, hj, rfl⟩ := List.mem_map.1 hx
    exact decide_eq_true (h2.1 (by omega) j (List.mem_range.1 hj))
  · intro h
    have := h2.2 fun j hj => of_decide_eq_true (h _ (List.mem_map.2 ⟨j, List.mem_range.2 hj, rfl⟩))
    omega

set_option maxHeartbeats 1000000 in
/-- The document's PermCycles of what is none. -/
theorem rcycles_err (A : Option Addr) (n c : Nat) (r : Int) (w : World) (hr : r ≠ 0) (h : Calls Try.prog 19 #[.slice A n c] w (Says w r)) :
    Calls Try.prog 26 #[.slice A n c] w (NoPL w r) := by
  have H := Lib.hid h
  have hne : (r != 0) = true := by simpa using hr
  clear h hr
  go_enter Try.func26, Try.ntmps26
  go_wp2_with fail
  refine H.out.mono ?_
  rintro e w1 ⟨rfl, hb1⟩
  go_wp2_with fail
  go_ret2
  exact ⟨rfl, hb1⟩

set_option maxHeartbeats 4000000 in
/-- The document's PermCycles. -/
theorem rcycles_ok (A : Option Addr) (p : List Nat) (c : Nat) (w : World) (hp : PermL p) (hn : p.length ≤ 300) (hnone : A = none → c = 0) (hL : Lies w w.heap.size A (natC p)) :
    Calls Try.prog 26 #[.slice A p.length c] w (GivesCy w (cycs p)) := by
  have HL := Lib.hid hL
  have HC := Lib.hid (rfault_ok11 A p c w hp hn hnone hL)
  have HPer := Lib.hid (fun i (hi : i < p.length) => per_le hp hi)
  have HIt := Lib.hid (fun i (hi : i < p.length) k => it_lt hp hi k)
  have HRet := Lib.hid (fun i (hi : i < p.length) => it_per hp hi)
  have HBef := Lib.hid (fun i k (hk : k + 1 < per p i) => it_before (p := p) hk)
  have HCl := Lib.hid (fun i => cycsTo_length_le p i)
  have HFin := Lib.hid (show cycs p = cycsTo p p.length from rfl)
  obtain ⟨n, hk⟩ : ∃ n, p.length = n := ⟨_, rfl⟩
  rw [hk] at hn HC ⊢
  have HN := Lib.hid hk
  rw [HN.out] at HPer HIt HRet HFin
  clear hk hL hp hnone
  go_enter Try.func26, Try.ntmps26
  go_wp2_with fail
  refine HC.out.mono ?_
  rintro e w1 ⟨rfl, hb1⟩
  have HL1 := Lib.hid (HL.out.on hb1)
  have HB1 := Lib.hid hb1
  clear hb1
  have HT0 := Lib.hid (TabC.nil w1)
  go_wp2_with fail
  go_loopw [5, 17] (fun v u w' => ∃ (i : Nat) (rs : List Row), i ≤ n ∧ u = .int .i64 i ∧ TabC w1 w' v (cycsTo p i) rs) (fun _ u _ => n - (intOf u).toNat)
  case atStart => exact ⟨0, [], Nat.zero_le _, rfl, HT0.out⟩
  case round =>
    rename World => wo
    obtain ⟨i, rs, hi, rfl, htab⟩ := hrel
    have HTab := Lib.hid htab
    by_cases hlt : i < n
    · have hpl := HPer.out i hlt
      have HI := Lib.hid (HIt.out i hlt)
      have HR := Lib.hid (HRet.out i hlt)
      have HBf := Lib.hid (fun k hk => HBef.out i k hk)
      have HTk := Lib.hid (fun k hk => cyc_take_succ p i k hk)
      have HTa := Lib.hid (cyc_take_all p i)
      have hcl := HCl.out i
      have hrl : rs.length ≤ 300 := by have := htab.length; omega
      have HIs := Lib.hid (fun k => show it p (k + 1) i = st p (it p k i) from rfl)
      have HI0 := Lib.hid (show it p 0 i = i from rfl)
      have HLs := Lib.hid (fun k => show leastTo p i (k + 1) = min (leastTo p i k) (it p k i) from rfl)
      have HL01 := Lib.hid (show leastTo p i 1 = i by rw [leastTo, leastTo]; exact Nat.min_self _)
      have HLl := Lib.hid (fun k => leastTo_le p i k)
      have HLa := Lib.hid (leastTo_all p i)
      have HYes := Lib.hid (fun (h : least p i = true) => cycsTo_yes h)
      have HNo := Lib.hid (fun (h : least p i = false) => cycsTo_no h)
      have hpp := per_pos p i
      have HTk0 := Lib.hid (show (cyc p i).take 1 = [i] by rw [cyc_take p i 1 hpp]; rfl)
      obtain ⟨b, o, rfl, hb, hc1⟩ := nat_at HL1.out (k := i) (by rw [HN.out]; exact hlt)
      have hco : wo.cell? ⟨b, o + i, none⟩ = some (.int .i64 (st p i : Nat)) := (bcell htab.bel b (o + i) hb).trans hc1
      have hs1 := htab.bel.size
      have hbo : b < wo.heap.size := by omega
      generalize per p i = m at *
      generalize hF : cycsTo p i = T at *
      have HF := Lib.hid hF
      clear htab hF hc1
      go_wp2_with fail
      have hbn := Blk.new wo 3 [.int .i64 i]
      have HRow0 := Lib.hid ((hbn.owns (base := wo.heap.size) (Nat.le_refl _) (by simp [maxLen])) : (wo.alloc (.cells #[.int .i64 i] 3)).ownsRow wo.heap.size 3 1 (.slice (some ⟨wo.heap.size, 0, none⟩) 1 1) 1 [.int .i64 i])
      have HBl0 := Lib.hid (bnew wo (.cells #[.int .i64 i] 3))
      clear hbn
      generalize wo.alloc (.cells #[.int .i64 i] 3) = wp at *
      have hx0 : Value.int .i64 (st p i : Nat) = .int .i64 (it p 1 i : Nat) := rfl
      rw [hx0]
      clear hx0 hco
      go_loopw [7, 8, 9] (fun v y u w' => ∃ (k : Nat) (B : Option Addr) (d : Nat), 1 ≤ k ∧ k ≤ m ∧ u = .int .i64 (it p k i : Nat) ∧ v = .slice B k d ∧ y = .int .i64 (leastTo p i k : Nat) ∧ w'.ownsRow wo.heap.size 3 1 v k (natC ((cyc p i).take k)) ∧ Below wo.heap.size wo w') (fun v _ _ _ => m - lenOf v)
      case atStart => exact ⟨1, _, 1, Nat.le_refl _, hpp, rfl, rfl, by rw [HL01.out], by rw [HTk0.out]; exact HRow0.out, HBl0.out⟩
      case round =>
        obtain ⟨k, B, d, hk1, hk, rfl, rfl, rfl, hrow, hbl⟩ := hrel
        have HBl := Lib.hid hbl
        have hso := hbl.size
        have hx := HI.out k
        have hy := HLl.out k
        by_cases hkm : k < m
        · have hne : it p k i ≠ i := by
            have := HBf.out (k - 1) (by omega)
            rwa [show k - 1 + 1 = k by omega] at this
          have HTs := Lib.hid (HTk.out k hkm)
          have HNx := Lib.hid (HIs.out k)
          have HLx := HLs.out k
          have hgx : Hid (∃ b' o', (some ⟨b, o, none⟩ : Option Addr) = some ⟨b', o', none⟩ ∧ b' < w1.heap.size ∧ w1.cell? ⟨b', o' + it p k i, none⟩ = some (.int .i64 (st p (it p k i) : Nat))) := nat_at HL1.out (k := it p k i) (by rw [HN.out]; exact hx)
          generalize it p k i = x at *
          generalize leastTo p i k = y at *
          generalize (cyc p i).take k = q at *
          have hnei : ((x : Int) != (i : Int)) = true := by simp; omega
          have HLx := Lib.hid HLx
          clear hbl hne
          go_wp2_with (at_builtin; go_loud (refine append_one _ rfl (.tmp 34) (.tmp 36) 22 rfl wo.heap.size 3 (.int .i64 0) 8 Try.underlying22 pint_info rfl (.slice B k d) k _ rfl (hrow.alloc _) wr.heap.size 1 (.int .i64 x) rfl (by simp) rfl (by simp only [maxLen]; omega) (by omega) (by simp; omega) ?_))
          intro v1 w3 hown1 hg1
          have HB3 := Lib.hid ((HBl.out.alloc hso _).grown hg1 (by simp; omega) (fun q hq => (hrow.lt q hq).1))
          obtain ⟨B3, d3, rfl, _, _, _, _, _⟩ := own_slice hown1
          have HO3 := Lib.hid hown1
          obtain ⟨b', o', he', hb', hcx⟩ := hgx.out
          obtain ⟨rfl, rfl⟩ : b = b' ∧ o = o' := by
            have := Option.some.inj he'
            injection this with h1 h2
            exact ⟨h1, h2⟩
          have hc3 := (bcell HB3.out b (o + x) hbo).trans ((bcell HTab.out.bel b (o + x) hb).trans hcx)
          clear hown1 hg1 hrow hcx he' hnei
          go_wp2_with fail
          go_roundw
          case rel => exact ⟨k + 1, B3, d3, by omega, by omega, by rw [HNx.out], rfl, by rw [HLx.out]; exact congrArg (Value.int IntKind.i64) (by omega), by rw [HTs.out, natC_snoc]; exact HO3.out, HB3.out⟩
          case measure => simp [lenOf]; omega
        · obtain rfl : m = k := by omega
          rw [HR.out]
          have hnei : ((i : Int) != (i : Int)) = false := by simp
          rw [HTa.out] at hrow
          have htab2 := HTab.out.on hbl
          have HTb2 := Lib.hid htab2
          have HRow := Lib.hid (own_base hrow hs1)
          have hown := htab2.own
          have hla := HLa.out
          generalize leastTo p i m = y at *
          cases hle : least p i
          · have hyi : y ≠ i := fun e => by rw [hla.1 e] at hle; cases hle
            have heq : ((y : Int) == (i : Int)) = false := by simp; omega
            have HNo2 := Lib.hid (HNo.out hle)
            clear hbl htab2 hrow hown hla hle hyi
            go_wp2_with fail
            go_roundw
            case rel => exact ⟨i + 1, rs, by omega, by go_num, by rw [HNo2.out]; exact HTb2.out⟩
            case measure => simp [intOf]; omega
          · have hyi : y = i := hla.2 hle
            subst hyi
            have heq : ((y : Int) == (y : Int)) = true := by simp
            have HYes2 := Lib.hid (HYes.out hle)
            clear hbl htab2 hrow hla hle
            go_wp2_with (at_builtin; go_loud (refine append_one _ rfl (.tmp 44) (.tmp 46) 40 rfl w1.heap.size 22 (.slice none 0 0) 24 Try.underlying40 prow_info rfl u5 rs.length _ rfl (hown.alloc _) wr.heap.size 1 (.slice B m d) rfl (by simp) rfl (by simp only [maxLen]; omega) (by omega) (by simp; omega) ?_))
            intro v3 w3 hown3 hg3
            obtain ⟨qs, hqs⟩ := HTb2.out.added HRow.out hown3 hg3
            have HQs := Lib.hid hqs
            clear hown3 hg3 hqs hown
            go_wp2_with fail
            go_roundw
            case rel => exact ⟨y + 1, qs, by omega, by go_num, by rw [HYes2.out]; exact HQs.out⟩
            case measure => simp [intOf]; omega
    · obtain rfl : n = i := by omega
      obtain ⟨A4, c4, rfl, _, _, _, _, _⟩ := own_slice htab.own
      obtain ⟨hg1, hg2, _, hg4⟩ := htab.grid
      have HG1 := Lib.hid hg1
      have HG2 := Lib.hid hg2
      clear hg1 hg2 htab
      go_wp2_with fail
      go_ret2
      exact ⟨A4, rs, c4, rfl, HG1.out, by rw [HFin.out]; exact HTab.out.tab, HG2.out, hg4, chain HB1.out HTab.out.bel⟩

set_option maxHeartbeats 1000000 in
/-- damasklaw.sameRows of equal rows. -/
theorem sameRows_eq (A A2 : Option Addr) (rs qs : List Row) (T : List (List Int)) (c c2 : Nat) (w : World) (hn : rs.length ≤ 17592186044416) (hr : ∀ r ∈ T, r.length ≤ 17592186044416) (h1 : Grid w w.heap.size A rs) (h2 : Grid w w.heap.size A2 qs) (t1 : rs.map Row.nums = T) (t2 : qs.map Row.nums = T) :
    Calls Try.prog 27 #[.slice A rs.length c, .slice A2 qs.length c2] w fun e w' => e = .returned (.bool true) ∧ Below w.heap.size w w' := by
  have hl1 : rs.length = T.length := by rw [← t1, List.length_map]
  have hl2 : qs.length = T.length := by rw [← t2, List.length_map]
  have H1 := Lib.hid h1
  have H2 := Lib.hid h2
  have HT1 := Lib.hid (fun (i : Nat) (r : Row) (h : rs[i]? = some r) => show T[i]? = some r.nums by rw [← t1, List.getElem?_map, h]; rfl)
  have HT2 := Lib.hid (fun (i : Nat) (r : Row) (h : qs[i]? = some r) => show T[i]? = some r.nums by rw [← t2, List.getElem?_map, h]; rfl)
  have HR := Lib.hid hr
  rw [hl1] at hn ⊢
  rw [hl2]
  have HL1 := Lib.hid hl1
  have HL2 := Lib.hid hl2
  clear h1 h2 t1 t2 hl1 hl2 hr
  obtain ⟨n, hk⟩ : ∃ n, T.length = n := ⟨_, rfl⟩
  rw [hk] at hn HL1 HL2 ⊢
  clear hk
  have hne : ((n : Int) != (n : Int)) = false := by simp
  go_enter Try.func27, Try.ntmps27
  go_wp2
  go_loopw [5] (fun u w' => ∃ i d : Nat, i ≤ n ∧ u = .int .i64 i ∧ w' = w.drewN d) (fun u _ => n - (intOf u).toNat)
  case atStart => exact ⟨0, 0, Nat.zero_le _, rfl, rfl⟩
  case round =>
    obtain ⟨i, d, hi, rfl, rfl⟩ := hrel
    by_cases hlt : i < n
    · obtain ⟨b, o, r, rfl, hb, hx, hc, hLr⟩ := H1.out.at_ (k := i) (by rw [HL1.out]; exact hlt)
      obtain ⟨b2, o2, r2, rfl, hb2, hx2, hc2, hLr2⟩ := H2.out.at_ (k := i) (by rw [HL2.out]; exact hlt)
      have e1 := HT1.out i r hx
      have e2 := HT2.out i r2 hx2
      rw [e1] at e2
      have hrr : r.nums = r2.nums := Option.some.inj e2
      have hrl := HR.out r.nums (List.mem_of_getElem? e1)
      rw [← hrr] at hc2 hLr2
      have HS := Lib.hid (fun q => sameIntsL_drew r.adr r2.adr r.nums r.cap r2.cap (w.drewN q) hrl (hLr.drewN q) (hLr2.drewN q))
      generalize r.nums.length = m at *
      generalize r.adr = a1 at *
      generalize r2.adr = a2 at *
      generalize r.cap = p1 at *
      generalize r2.cap = p2 at *
      have him : (i : Int) < (n : Int) := by omega
      clear hx hx2 e1 e2 hrr hLr hLr2 hrl
      go_wp2
      go_quiet ((go_at_call 22; exact quietD2 HS))
      go_wp2
      go_roundw
      case rel => exact ⟨i + 1, _, by omega, by go_num, by first | rfl | (simp only [World.drewN_drewN]; rfl)⟩
      case measure => simp [intOf]; omega
    · go_wp2
      go_ret
      exact ⟨rfl, bdN (Below.refl _ _) _⟩
end Go.Proofs.Ytehmngecpipebaa
