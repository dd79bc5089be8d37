/-
  What pack.Make returns: contracts, walked over the translated text. No condition but what each theorem names.
-/
import Derived.Test.YtmlekhgjnhnjlaaDoorPackRd
import Derived.Test.YtmlekhgjnhnjlaaDoorPackWd
import Derived.Test.YtmlekhgjnhnjlaaDoorWord
import Derived.RegionTactic
import Derived.BigRegion
namespace Go.Proofs.YtmlekhgjnhnjlaaDoor
open Go.RowKit Words

theorem asWords_get (ws : List Nat) (j x : Nat) (h : ws[j]? = some x) : (asWords ws)[j]? = some (.int .u64 x) := by unfold asWords; rw [List.getElem?_map, h]; rfl
theorem asWords_set (ws : List Nat) (j x : Nat) : asWords (ws.set j x) = (asWords ws).set j (.int .u64 x) := by unfold asWords; rw [List.map_set]

theorem shl_int (x s : Nat) : IntKind.u64.wrap ((x : Int) * 2 ^ s) = ((x * 2 ^ s % 2 ^ 64 : Nat) : Int) := by
  rw [IntKind.wrap_u64]
  simp

set_option maxHeartbeats 1000000 in
/-- pack.put: the bits of v or'ed in from bit p on. -/
theorem put_any (g m p v : Nat) (ws : List Nat) (w : World) (hlen : ws.length = m) (hm : m ≤ 300) (hB : Blk w g 60 (asWords ws)) (hwl : ∀ x ∈ ws, x < 18446744073709551616) (hv : v < 4611686018427387904) (hp : p ≤ 18600) (h1 : v ≠ 0 → p / 64 < m) (h2 : v ≠ 0 → v / 2 ^ (64 - p % 64) ≠ 0 → p / 64 + 1 < m) :
    Calls Tryd.prog 44 #[.slice (some ⟨g, 0, none⟩) m m, .int .i64 p, .int .u64 v] w fun e w' => e = .returned (.tuple #[]) ∧ Blk w' g 60 (asWords (laidOn ws (p % 64) (p / 64) v)) ∧ Below g w w' := by
  by_cases h0 : v = 0
  · subst h0
    clear h1 h2
    go_enter Tryd.func44, Tryd.ntmps44
    go_wp2
    exact bodyPost_ret (v := .tuple #[]) (by simp [results, Tryd.results44, go_sem]) rfl ⟨rfl, by simpa [laidOn] using hB, Below.refl _ _⟩
  · have hj := h1 h0
    have h2 := h2 h0
    have hx : ws[p / 64]? = some (ws.getD (p / 64) 0) := by rw [List.getD, List.getElem?_eq_getElem (by omega)]; rfl
    have hxl := hwl _ (List.mem_of_getElem? hx)
    have hc : w.cell? ⟨g, p / 64, none⟩ = some (.int .u64 (ws.getD (p / 64) 0 : Nat)) := by rw [hB.cell]; exact asWords_get _ _ _ hx
    have hfz := hB.frozen (p / 64)
    have hshl := shl_int v (p % 64)
    have hyl : v * 2 ^ (p % 64) % 2 ^ 64 < 18446744073709551616 := Nat.mod_lt _ (by decide)
    have hor := bits_or_u64_nat (ws.getD (p / 64) 0) (v * 2 ^ (p % 64) % 2 ^ 64) hxl hyl
    have hsub : (64 : Int) - ((p % 64 : Nat) : Int) = ((64 - p % 64 : Nat) : Int) := by omega
    have hshr : (v : Int) / 2 ^ (64 - p % 64) = ((v / 2 ^ (64 - p % 64) : Nat) : Int) := by simp
    have hvz : ((v : Int) == 0) = false := by rw [beq_eq_false_iff_ne]; omega
    by_cases hz : v / 2 ^ (64 - p % 64) = 0
    · have hon : laidOn ws (p % 64) (p / 64) v = ws.set (p / 64) (ws.getD (p / 64) 0 ||| v * 2 ^ (p % 64) % 2 ^ 64) := by unfold laidOn; rw [if_neg h0, if_pos hz]
      rw [hon]
      have HS := Lib.hid (hB.put (p / 64) (.int .u64 (ws.getD (p / 64) 0 ||| v * 2 ^ (p % 64) % 2 ^ 64 : Nat)))
      rw [← asWords_set] at HS
      rw [hz] at hshr
      clear hon h2 hx hwl hB
      generalize hzz : ws.getD (p / 64) 0 ||| v * 2 ^ (p % 64) % 2 ^ 64 = z at *
      clear hzz
      generalize v * 2 ^ (p % 64) % 2 ^ 64 = y at *
      generalize ws.getD (p / 64) 0 = x at *
      clear hz hlen h1 h0
      go_enter Tryd.func44, Tryd.ntmps44
      go_wp2
      go_region
      go_wp2
      exact bodyPost_end (v := .tuple #[]) (by simp [results, Tryd.results44, go_sem]) rfl ⟨rfl, HS.out.drew, ((Below.refl _ _).setCell (by simp) _).drew⟩
    · have hj2 := h2 hz
      have hon : laidOn ws (p % 64) (p / 64) v = (ws.set (p / 64) (ws.getD (p / 64) 0 ||| v * 2 ^ (p % 64) % 2 ^ 64)).set (p / 64 + 1) (ws.getD (p / 64 + 1) 0 ||| v / 2 ^ (64 - p % 64)) := by unfold laidOn; rw [if_neg h0, if_neg hz]
      rw [hon]
      have hx2 : ws[p / 64 + 1]? = some (ws.getD (p / 64 + 1) 0) := by rw [List.getD, List.getElem?_eq_getElem (by omega)]; rfl
      have hxl2 := hwl _ (List.mem_of_getElem? hx2)
      have hrl : v / 2 ^ (64 - p % 64) < 18446744073709551616 := Nat.lt_of_le_of_lt (Nat.div_le_self _ _) (by omega)
      have hor2 := bits_or_u64_nat (ws.getD (p / 64 + 1) 0) (v / 2 ^ (64 - p % 64)) hxl2 hrl
      have hP := hB.put (p / 64) (.int .u64 (ws.getD (p / 64) 0 ||| v * 2 ^ (p % 64) % 2 ^ 64 : Nat))
      rw [← asWords_set] at hP
      have hc2 : w.cell? ⟨g, p / 64 + 1, none⟩ = some (.int .u64 (ws.getD (p / 64 + 1) 0 : Nat)) := by rw [hB.cell]; exact asWords_get _ _ _ hx2
      have hfz2 := hB.frozen (p / 64 + 1)
      have HS := Lib.hid (hP.put (p / 64 + 1) (.int .u64 (ws.getD (p / 64 + 1) 0 ||| v / 2 ^ (64 - p % 64) : Nat)))
      rw [← asWords_set] at HS
      have hrz : ((v / 2 ^ (64 - p % 64) : Nat) : Int) ≠ 0 := by omega
      clear hon h2 hx hx2 hwl hB hP
      generalize hzz : ws.getD (p / 64) 0 ||| v * 2 ^ (p % 64) % 2 ^ 64 = z at *
      clear hzz
      generalize v * 2 ^ (p % 64) % 2 ^ 64 = y at *
      generalize ws.getD (p / 64) 0 = x at *
      generalize hzz : ws.getD (p / 64 + 1) 0 ||| v / 2 ^ (64 - p % 64) = z2 at *
      clear hzz hz
      generalize v / 2 ^ (64 - p % 64) = y2 at *
      generalize ws.getD (p / 64 + 1) 0 = x2 at *
      clear hlen h1 h0
      have hne : ((y2 : Int) != 0) = true := by simpa using hrz
      clear hrz
      go_enter Tryd.func44, Tryd.ntmps44
      go_wp2
      go_region
      go_wp2
      exact bodyPost_end (v := .tuple #[]) (by simp [results, Tryd.results44, go_sem]) rfl ⟨rfl, HS.out.drew, (((Below.refl _ _).setCell (by simp) _).drew).setCell (by simp) _⟩

/-- What a call that returns a packed array leaves. -/
def GivesPacked (w : World) (n d : Nat) (ws : List Nat) (e : Ending) (w' : World) : Prop :=
  ∃ A c, e = .returned (.tuple #[.agg #[.int .i64 n, .int .i64 d, .slice A ws.length c], .int .i64 0]) ∧ Words64 w' w'.heap.size A ws ∧ New w.heap.size A ∧ Below w.heap.size w w'

/-- What a call that returns no array leaves. -/
def NoPacked (w : World) (k : Int) (e : Ending) (w' : World) : Prop := e = .returned (.tuple #[.agg #[.int .i64 0, .int .i64 0, .slice none 0 0], .int .i64 k]) ∧ Below w.heap.size w w'

/-- The numbers of a list. -/
def natsOf (l : List Int) : List Nat := l.map Int.toNat

theorem natsOf_length (l : List Int) : (natsOf l).length = l.length := by simp [natsOf]
theorem natsOf_get (l : List Int) (i : Nat) (x : Nat) (h : l[i]? = some (x : Int)) : (natsOf l).getD i 0 = x := by unfold natsOf; rw [List.getD, List.getElem?_map, h]; rfl

/-- pack.Make of too long a list. -/
theorem pmake_size (d : Int) (A : Option Addr) (n c : Nat) (w : World) (h : 300 < n) (hn : n ≤ 9223372036854775807) :
    Calls Tryd.prog 29 #[.int .i64 d, .slice A n c] w (NoPacked w 1) := by
  go_enter Tryd.func29, Tryd.ntmps29
  go_wp2
  exact bodyPost_ret (v := .tuple #[.agg #[.int .i64 0, .int .i64 0, .slice none 0 0], .int .i64 1]) (by simp [results, Tryd.results29, go_sem]) rfl ⟨rfl, bnew _ _⟩

/-- pack.Make with a width that is none. -/
theorem pmake_width (d : Int) (A : Option Addr) (n c : Nat) (w : World) (h : n ≤ 300) (hd : d < 0 ∨ 62 < d) :
    Calls Tryd.prog 29 #[.int .i64 d, .slice A n c] w (NoPacked w 2) := by
  have hh : d < 0 ∨ (¬ d < 0 ∧ 62 < d) := by omega
  clear hd
  rcases hh with h0 | ⟨h0, h1⟩
  all_goals
    go_enter Tryd.func29, Tryd.ntmps29
    go_wp2
    exact bodyPost_ret (v := .tuple #[.agg #[.int .i64 0, .int .i64 0, .slice none 0 0], .int .i64 2]) (by simp [results, Tryd.results29, go_sem]) rfl ⟨rfl, bnew _ _⟩

set_option maxHeartbeats 1000000 in
/-- pack.Make: the array, or a number that does not fit. -/
theorem pmake_both (d : Nat) (A : Option Addr) (l : List Int) (c : Nat) (w : World) (hn : l.length ≤ 300) (hd : d ≤ 62) (hw : ∀ z ∈ l, (Lit.int .i64 z).wf = true) (hL : Lies w w.heap.size A (l.map (.int .i64))) :
    Calls Tryd.prog 29 #[.int .i64 d, .slice A l.length c] w fun e w' => ((∀ z ∈ l, Fit d z) ∧ GivesPacked w l.length d (packWords d (natsOf l)) e w') ∨ ((∃ z ∈ l, ¬ Fit d z) ∧ NoPacked w 2 e w') := by
  have HL := Lib.hid hL
  have HWF := Lib.hid hw
  have hbd := mul_bound hn hd
  have HW := Lib.hid (pwordsFor_any (l.length * d) · hbd)
  have hmk := make_row (P := Tryd.prog) 22 60 (.int .u64 0) 8 Tryd.underlying22 word_info rfl ((l.length * d + 63) / 64) (by omega) (by omega)
  have hmul : (l.length : Int) * (d : Int) = ((l.length * d : Nat) : Int) := by simp
  clear hL hw
  generalize hm : (l.length * d + 63) / 64 = m at *
  have hm1 : l.length * d ≤ 64 * m := by omega
  have hm300 : m ≤ 300 := by omega
  have HM := Lib.hid (And.intro hm hm1)
  clear hm hm1
  generalize hu : l.length * d = u at *
  have HU := Lib.hid hu
  clear hu
  generalize hnn : l.length = n at *
  have HN := Lib.hid hnn
  clear hnn
  go_enter Tryd.func29, Tryd.ntmps29
  go_wp2_with (go_at_call 42; refine (HW.out _).mono ?_; rintro e w' ⟨rfl, rfl⟩)
  go_loopw [28] (fun v w' => ∃ i : Nat, i ≤ n ∧ v = .int .i64 i ∧ Blk w' (w.heap.size + 1) 60 (asWords (laid (bitsOf d (natsOf l)) (i * d) m)) ∧ Below (w.heap.size + 1) (w.alloc (.cells #[.int .i64 0, .int .i64 0, .slice none 0 0] 24)) w' ∧ ∀ j z, j < i → l[j]? = some z → Fit d z) (fun v _ => n - (intOf v).toNat)
  case atStart => exact ⟨0, Nat.zero_le _, rfl, by simpa [asWords, laid_zero] using zeros_blk (w.alloc (.cells #[.int .i64 0, .int .i64 0, .slice none 0 0] 24)) (.int .u64 0) m 60, (Below.refl _ _).alloc (by simp) _, fun j z h => by omega⟩
  case round =>
    obtain ⟨i, hi, rfl, hB, hbl, hz⟩ := hrel
    have HZ := Lib.hid hz
    clear hz
    have hc1 := bcell hbl
    have hf1 := bfrozen hbl
    have hbox : Blk wr w.heap.size 24 [.int .i64 0, .int .i64 0, .slice none 0 0] := (Blk.new w 24 [.int .i64 0, .int .i64 0, .slice none 0 0]).below hbl (by omega)
    have hq0 : wr.cell? ⟨w.heap.size, 0, none⟩ = some (.int .i64 0) := hbox.cell 0
    have hq1 : wr.cell? ⟨w.heap.size, 1, none⟩ = some (.int .i64 0) := hbox.cell 1
    have hq2 : wr.cell? ⟨w.heap.size, 2, none⟩ = some (.slice none 0 0) := hbox.cell 2
    by_cases hlt : i < n
    · obtain ⟨b, o, z, rfl, hb, hx, hc⟩ := HL.out.at_ (k := i) (by rw [HN.out]; exact hlt)
      have HX := Lib.hid hx
      have HF := Lib.hid (fits_any z d · (HWF.out z (List.mem_of_getElem? hx)) hd)
      clear hx
      by_cases hf : Fit d z
      · have hdec : decide (Fit d z) = true := by simpa using hf
        rw [hdec] at HF
        clear hdec
        have HFit := Lib.hid hf
        obtain ⟨x, rfl⟩ := Int.eq_ofNat_of_zero_le hf.1
        have hxd : x < 2 ^ d := by exact_mod_cast hf.2
        have hx62 : x < 4611686018427387904 := Nat.lt_of_lt_of_le hxd (pow62 hd)
        clear hf
        have hg := natsOf_get l i x HX.out
        have hlen : i < (natsOf l).length := by rw [natsOf_length, HN.out]; exact hlt
        have hst := laid_put d (natsOf l) i m hlen hd (by rw [hg]; exact hxd) (by rw [natsOf_length, HN.out, HU.out]; exact HM.out.2)
        rw [hg] at hst
        have hroom := words_room d n i x m hlt (by rw [HU.out]; exact HM.out.2) hxd
        have hid : i * d ≤ 18600 := by
          have : i * d ≤ n * d := Nat.mul_le_mul_right d (by omega)
          rw [HU.out] at this
          omega
        have HP := Lib.hid (fun W hB => put_any (w.heap.size + 1) m (i * d) x (laid (bitsOf d (natsOf l)) (i * d) m) W (laid_length _ _ _) hm300 hB (laid_word _ _ _) hx62 hid (fun h => (hroom h).1) (fun h => (hroom h).2))
        rw [← hst] at HP
        have HB := Lib.hid hB
        have hmul2 : (i : Int) * (d : Int) = ((i * d : Nat) : Int) := by simp
        clear hst hg hlen hroom hB
        generalize i * d = p at *
        go_wp2_with (first
          | (go_at_call 43; refine (HF.out _).mono ?_; rintro e w' ⟨rfl, rfl⟩)
          | (go_at_call 44; refine (HP.out _ (by exact HB.out)).mono ?_; rintro e w1 ⟨rfl, hB1, hb1⟩))
        go_roundw
        case rel => exact ⟨i + 1, by omega, by go_num, hB1, hbl.trans hb1, fun j z hj hz => by
          by_cases e : j = i
          · rw [e, HX.out] at hz
            rw [← Option.some.inj hz]
            exact HFit.out
          · exact HZ.out j z (by omega) hz⟩
        case measure => simp [intOf]; omega
      · have hdec : decide (Fit d z) = false := by simpa using hf
        rw [hdec] at HF
        clear hdec
        have HNF := Lib.hid hf
        clear hf
        go_wp2_with (go_at_call 43; refine (HF.out _).mono ?_; rintro e w' ⟨rfl, rfl⟩)
        refine bodyPost_ret (v := .tuple #[.agg #[.int .i64 0, .int .i64 0, .slice none 0 0], .int .i64 2]) (by simp [results, Tryd.results29, go_sem, hq0, hq1, hq2]) rfl ?_
        exact .inr ⟨⟨z, List.mem_of_getElem? HX.out, HNF.out⟩, rfl, ((((bnew _ _).trans (hbl.mono (by omega))).setCell (Nat.le_refl _) _).setCell (Nat.le_refl _) _).setCell (Nat.le_refl _) _⟩
    · obtain rfl : n = i := by omega
      go_wp2
      refine bodyPost_ret (v := .tuple #[.agg #[.int .i64 n, .int .i64 d, .slice (some ⟨w.heap.size + 1, 0, none⟩) m m], .int .i64 0]) (by simp [results, Tryd.results29, go_sem, hq0, hq1, hq2]) rfl ?_
      left
      have hrow : laid (bitsOf d (natsOf l)) (n * d) m = packWords d (natsOf l) := by unfold packWords rowOf; rw [bitsOf_length, natsOf_length, HN.out, HU.out, HM.out.1]
      rw [hrow] at hB
      have hB2 := ((hB.far (p := ⟨w.heap.size, 0, none⟩) (by simp) (.int .i64 n)).far (p := ⟨w.heap.size, 1, none⟩) (by simp) (.int .i64 d)).far (p := ⟨w.heap.size, 2, none⟩) (by simp) (.slice (some ⟨w.heap.size + 1, 0, none⟩) m m)
      refine ⟨fun z hz => ?_, ?_⟩
      · obtain ⟨j, hj, e⟩ := List.getElem_of_mem hz
        exact HZ.out j z (by rw [HN.out] at hj; exact hj) (by rw [List.getElem?_eq_getElem hj, e])
      · refine ⟨_, m, by rw [packWords_length, natsOf_length, HN.out, HU.out, HM.out.1], ⟨hB2.lies, packWords_word _ _⟩, (fun ad e => by obtain rfl := Option.some.inj e; simp), ?_⟩
        exact ((((bnew _ _).trans (hbl.mono (by omega))).setCell (Nat.le_refl _) _).setCell (Nat.le_refl _) _).setCell (Nat.le_refl _) _

/-- pack.Make of numbers that fit. -/
theorem pmake_any (d : Nat) (A : Option Addr) (l : List Int) (c : Nat) (w : World) (hn : l.length ≤ 300) (hd : d ≤ 62) (hw : ∀ z ∈ l, (Lit.int .i64 z).wf = true) (hL : Lies w w.heap.size A (l.map (.int .i64))) (hf : ∀ z ∈ l, Fit d z) :
    Calls Tryd.prog 29 #[.int .i64 d, .slice A l.length c] w (GivesPacked w l.length d (packWords d (natsOf l))) :=
  (pmake_both d A l c w hn hd hw hL).mono fun _ _ h => h.elim (fun h => h.2) (fun ⟨⟨z, hz, h⟩, _⟩ => absurd (hf z hz) h)

/-- pack.Make of a number that does not fit. -/
theorem pmake_bad (d : Nat) (A : Option Addr) (l : List Int) (c : Nat) (w : World) (hn : l.length ≤ 300) (hd : d ≤ 62) (hw : ∀ z ∈ l, (Lit.int .i64 z).wf = true) (hL : Lies w w.heap.size A (l.map (.int .i64))) (hf : ¬ ∀ z ∈ l, Fit d z) :
    Calls Tryd.prog 29 #[.int .i64 d, .slice A l.length c] w (NoPacked w 2) :=
  (pmake_both d A l c w hn hd hw hL).mono fun _ _ h => h.elim (fun h => absurd h.1 hf) (fun h => h.2)
end Go.Proofs.YtmlekhgjnhnjlaaDoor
