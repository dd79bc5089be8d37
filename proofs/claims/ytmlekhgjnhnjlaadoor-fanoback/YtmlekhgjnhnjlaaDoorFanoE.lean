/-
  Plain mathematics of reading an Elias-Fano encoding, of no program: what is an encoding of which numbers, and that only these can be read out of it. No condition but what each theorem names.
-/
import Derived.Test.YtmlekhgjnhnjlaaDoorFanoI
import Derived.Test.YtmlekhgjnhnjlaaDoorSel
import Derived.IntWalk
namespace Go.Proofs.YtmlekhgjnhnjlaaDoor
open Go Go.RowKit Words

/-- Words with the same bits are the same. -/
theorem words_ext {a b : List Nat} (hl : a.length = b.length) (ha : ∀ x ∈ a, x < 18446744073709551616) (hb : ∀ x ∈ b, x < 18446744073709551616) (h : ∀ i, i < 64 * a.length → bit a i = bit b i) : a = b := by
  apply List.ext_getElem?
  intro j
  by_cases hj : j < a.length
  · have hj2 : j < b.length := by omega
    have e1 : a.getD j 0 = a[j] := by rw [List.getD, List.getElem?_eq_getElem hj]; rfl
    have e2 : b.getD j 0 = b[j] := by rw [List.getD, List.getElem?_eq_getElem hj2]; rfl
    rw [List.getElem?_eq_getElem hj, List.getElem?_eq_getElem hj2]
    congr 1
    apply Nat.eq_of_testBit_eq
    intro k
    by_cases hk : k < 64
    · have := h (64 * j + k) (by omega)
      rwa [bit_word a j k hk, bit_word b j k hk, e1, e2] at this
    · have hz : ∀ y : Nat, y < 18446744073709551616 → y.testBit k = false := fun y hy => Nat.testBit_lt_two_pow (Nat.lt_of_lt_of_le (show y < 2 ^ 64 from hy) (Nat.pow_le_pow_right (by decide) (by omega)))
      rw [hz _ (ha _ (List.getElem_mem hj)), hz _ (hb _ (List.getElem_mem hj2))]
  · rw [List.getElem?_eq_none (by omega), List.getElem?_eq_none (by omega)]

/-- A valid array is that of its numbers. -/
theorem packWords_of {n d : Nat} {lw : List Nat} (hV : PValid n d lw) (hw : ∀ x ∈ lw, x < 18446744073709551616) {l : List Nat} (hl : l.length = n) (h : ∀ i, i < n → l.getD i 0 = numAt lw d i) : packWords d l = lw := by
  subst hl
  have hlen := packWords_length d l
  refine words_ext (by rw [hlen, hV.len]) (packWords_word d l) hw fun i hi => ?_
  by_cases hin : i < l.length * d
  · have hd : 0 < d := by
      rcases Nat.eq_zero_or_pos d with e | e
      · subst e; simp at hin
      · exact e
    have hq : i / d < l.length := (Nat.div_lt_iff_lt_mul hd).2 hin
    have hr : i % d < d := Nat.mod_lt _ hd
    have e : i / d * d + i % d = i := by rw [Nat.mul_comm]; exact Nat.div_add_mod i d
    have h1 : bit (packWords d l) i = (bitsOf d l).getD i false := by
      unfold packWords
      exact rowOf_bit _ i (by rw [bitsOf_length]; rw [hlen] at hi; exact hi)
    rw [h1, ← e, bitsOf_get d l _ _ hq hr, h _ hq]
    unfold numAt
    rw [packTo_bit]
    simp [hr]
  · rw [(packWords_valid d l hV.hi hV.wide).top i (by omega) hi, hV.top i (by omega) (by rw [hV.len]; rw [hlen] at hi; exact hi)]

theorem fread_congr (w : Nat) (f : Nat → Nat) {b b' : Nat → Bool} : ∀ m, (∀ p, p < m → b p = b' p) → fread w f b m = fread w f b' m
  | 0, _ => rfl
  | m + 1, h => by
    rw [fread, fread, fread_congr w f m fun p hp => h p (by omega), tally_congr (n := m) fun p hp => h p (by omega), h m (by omega)]
theorem fread_congr2 (w : Nat) {f f' : Nat → Nat} (b : Nat → Bool) (h : ∀ i, f i = f' i) : ∀ m, fread w f b m = fread w f' b m
  | 0 => rfl
  | m + 1 => by rw [fread, fread, fread_congr2 w b h m, h]

/-- What stands at a one bit's number. -/
theorem fread_at (w : Nat) (f : Nat → Nat) (b : Nat → Bool) (p : Nat) (hp : b p = true) : ∀ m, p < m → (fread w f b m)[tally b p]? = some ((p - tally b p) * 2 ^ w + f (tally b p))
  | 0, h => by omega
  | m + 1, h => by
    rw [fread]
    by_cases e : p = m
    · subst e
      rw [if_pos hp, List.getElem?_append_right (by rw [fread_length]; exact Nat.le_refl _), fread_length]
      simp
    · have ih := fread_at w f b p hp m (by omega)
      split
      · rw [List.getElem?_append_left]
        · exact ih
        · rcases Nat.lt_or_ge (tally b p) (fread w f b m).length with h1 | h1
          · exact h1
          · rw [List.getElem?_eq_none h1] at ih; cases ih
      · exact ih

/-- These numbers make the encoding of ns. -/
structure Enc (Z n d : Int) (lw : List Nat) (m : Int) (hw : List Nat) (ns : List Nat) (B : Nat) : Prop where
  bound : Z = B
  hB : B ≤ 1048576
  hn : ns.length ≤ 300
  rises : Rises B ns
  len : n = ns.length
  wide : d = fw ns.length B
  low : lw = packWords (fw ns.length B) (flow (fw ns.length B) ns)
  hlen : m = (fhigh B ns).length
  high : hw = rowOf (fhigh B ns)

theorem fhigh_len {B : Nat} {ns : List Nat} (h : ns ≠ []) : (fhigh B ns).length = B / 2 ^ fw ns.length B + ns.length + 1 := by
  unfold fhigh
  rw [if_neg h, fhighTo_length]

theorem fhigh_le {B : Nat} {ns : List Nat} (hB : B ≤ 1048576) : (fhigh B ns).length ≤ 3 * ns.length := by
  by_cases h : ns = []
  · subst h; simp [fhigh]
  · rw [fhigh_len h]
    have := fw_high (List.length_pos_iff.2 h) hB
    omega

theorem fhigh_bit (B : Nat) (ns : List Nat) (p : Nat) (hp : p < (fhigh B ns).length) : bit (rowOf (fhigh B ns)) p = fbit (fw ns.length B) ns ns.length p := by
  have hne : ns ≠ [] := by intro e; subst e; simp [fhigh] at hp
  rw [rowOf_bit _ p (by omega)]
  rw [fhigh_len hne] at hp
  unfold fhigh
  rw [if_neg hne]
  unfold fhighTo
  rw [List.getD, List.getElem?_map, List.getElem?_range hp]
  rfl

/-- The numbers are what is read. -/
theorem enc_read {B : Nat} {ns : List Nat} (hn : ns.length ≤ 300) (hR : Rises B ns) :
    fread (fw ns.length B) (numAt (packWords (fw ns.length B) (flow (fw ns.length B) ns)) (fw ns.length B)) (bit (rowOf (fhigh B ns))) (fhigh B ns).length = ns := by
  by_cases h : ns = []
  · subst h; rfl
  · rw [fread_congr _ _ _ (fhigh_bit B ns), fhigh_len h]
    refine fread_all hR _ _ fun i hi => ?_
    rw [packWords_num _ _ i (by rw [flow_length]; exact hi) (by rw [flow_getD]; exact Nat.mod_lt _ (Nat.two_pow_pos _)), flow_getD]

/-- What an encoding is made of. -/
theorem Enc.parts {Z n d m : Int} {lw hw ns : List Nat} {B : Nat} (h : Enc Z n d lw m hw ns B) : ∃ d' m' : Nat, d = d' ∧ m = m' ∧ d' ≤ 20 ∧ PValid ns.length d' lw ∧ Valid m' hw ∧ fread d' (numAt lw d') (bit hw) m' = ns := by
  obtain ⟨rfl, hB, hn, hR, rfl, rfl, rfl, rfl, rfl⟩ := h
  have hd := fw_le ns.length B
  refine ⟨_, _, rfl, rfl, hd, ?_, ?_, enc_read hn hR⟩
  · have := packWords_valid (fw ns.length B) (flow (fw ns.length B) ns) (by rw [flow_length]; exact hn) (by omega)
    rwa [flow_length] at this
  · exact rowOf_valid _ (by have := fhigh_le (ns := ns) hB; omega)

/-- Numbers found place by place are those that are encoded. -/
theorem enc_code {Z n d m : Int} {lw hw ns : List Nat} {B : Nat} (h : Enc Z n d lw m hw ns B) {d' m' : Nat} (hd : d = d') (hm : m = m') {l : List Nat} (hl : n = l.length)
    (hp : ∀ i, i < l.length → ∃ p, p < m' ∧ bit hw p = true ∧ tally (bit hw) p = i ∧ l.getD i 0 = (p - i) * 2 ^ d' + numAt lw d' i) : ns = l := by
  obtain ⟨d2, m2, e1, e2, _, _, _, hr⟩ := h.parts
  obtain rfl : d2 = d' := by omega
  obtain rfl : m2 = m' := by omega
  have hlen : ns.length = l.length := by have := h.len; omega
  apply List.ext_getElem?
  intro i
  by_cases hi : i < l.length
  · obtain ⟨p, hp1, hp2, hp3, hp4⟩ := hp i hi
    have := fread_at d2 (numAt lw d2) (bit hw) p hp2 m2 hp1
    rw [hr, hp3] at this
    rw [this, ← hp4, List.getD, List.getElem?_eq_getElem hi]
    rfl
  · rw [List.getElem?_eq_none (by omega), List.getElem?_eq_none (by omega)]

/-- A place for each number. -/
theorem enc_place {Z n d m : Int} {lw hw ns : List Nat} {B : Nat} (h : Enc Z n d lw m hw ns B) {m' : Nat} (hm : m = m') : tally (bit hw) m' = ns.length := by
  obtain ⟨d2, m2, e1, e2, _, _, _, hr⟩ := h.parts
  obtain rfl : m2 = m' := by omega
  rw [← hr, fread_length]

/-- What the document's reader reads: its sums wrap. -/
def freadI (d : Nat) (f : Nat → Nat) (b : Nat → Bool) : Nat → List Int
  | 0 => []
  | p + 1 => if b p then freadI d f b p ++ [wrap64 (wrap64 (((p - tally b p : Nat) : Int) * ((2 ^ d : Nat) : Int)) + (f (tally b p) : Int))] else freadI d f b p

theorem freadI_one (d : Nat) (f : Nat → Nat) (b : Nat → Bool) (p : Nat) (h : b p = true) : freadI d f b (p + 1) = freadI d f b p ++ [wrap64 (wrap64 (((p - tally b p : Nat) : Int) * ((2 ^ d : Nat) : Int)) + (f (tally b p) : Int))] := by rw [freadI, if_pos h]
theorem freadI_skip (d : Nat) (f : Nat → Nat) (b : Nat → Bool) (p : Nat) (h : b p = false) : freadI d f b (p + 1) = freadI d f b p := by rw [freadI, if_neg (by rw [h]; decide)]
theorem freadI_length (d : Nat) (f : Nat → Nat) (b : Nat → Bool) : ∀ p, (freadI d f b p).length = tally b p
  | 0 => rfl
  | p + 1 => by
    rw [freadI, tally_succ]
    cases h : b p
    · simp [freadI_length d f b p]
    · simp [freadI_length d f b p]

theorem freadI_small {d : Nat} (hd : d ≤ 20) (f : Nat → Nat) (hf : ∀ i, f i < 2 ^ d) (b : Nat → Bool) : ∀ p, p ≤ 4096 → freadI d f b p = asInts (fread d f b p)
  | 0, _ => rfl
  | p + 1, h => by
    rw [freadI, fread, freadI_small hd f hf b p (by omega)]
    have hp : 2 ^ d ≤ 1048576 := Nat.pow_le_pow_right (n := 2) (j := 20) (by decide) hd
    have h1 : (p - tally b p) * 2 ^ d ≤ 4096 * 1048576 := Nat.mul_le_mul (by omega) hp
    have h2 := hf (tally b p)
    split
    · rw [asInts, asInts, List.map_append, List.map_cons, List.map_nil]
      congr 2
      rw [← Int.natCast_mul]
      generalize (p - tally b p) * 2 ^ d = q at *
      generalize f (tally b p) = y at *
      generalize 2 ^ d = pw at *
      rw [IntWalk.wrap64_in (q : Int) (by omega), IntWalk.wrap64_in _ (by omega)]
      omega
    · rfl

theorem enc_doc {Z n d m : Int} {lw hw ns : List Nat} {B : Nat} (h : Enc Z n d lw m hw ns B) {d' m' : Nat} (hd : d = d') (hm : m = m') : freadI d' (numAt lw d') (bit hw) m' = asInts ns := by
  obtain ⟨d2, m2, e1, e2, hd20, _, hV, hr⟩ := h.parts
  obtain rfl : d2 = d' := by omega
  obtain rfl : m2 = m' := by omega
  rw [freadI_small hd20 _ (numAt_lt lw d2) _ _ hV.hi, hr]

/-- The bound of an encoding's parts is one. -/
theorem low_of_code {n d : Nat} {lw l : List Nat} (hV : PValid n d lw) (hw : ∀ x ∈ lw, x < 18446744073709551616) (hl : l.length = n) (h : ∀ i, i < n → l.getD i 0 % 2 ^ d = numAt lw d i) : packWords d (flow d l) = lw :=
  packWords_of hV hw (by rw [flow_length]; exact hl) fun i hi => by rw [flow_getD]; exact h i hi

/-- Each number stands where its one bit and its low part say. -/
def Places (d : Nat) (lw : List Nat) (m : Int) (hw : List Nat) (l : List Nat) : Prop :=
  ∀ i, i < l.length → ∃ m' p : Nat, m = m' ∧ p < m' ∧ bit hw p = true ∧ tally (bit hw) p = i ∧ l.getD i 0 = (p - i) * 2 ^ d + numAt lw d i

theorem Places.nil (d : Nat) (lw : List Nat) (m : Int) (hw : List Nat) : Places d lw m hw [] := fun i h => by simp at h
theorem Places.snoc {d : Nat} {lw : List Nat} {m : Int} {hw : List Nat} {l : List Nat} (h : Places d lw m hw l) {m' p x : Nat} (hm : m = m') (hp : p < m') (hb : bit hw p = true) (ht : tally (bit hw) p = l.length) (hx : x = (p - l.length) * 2 ^ d + numAt lw d l.length) : Places d lw m hw (l ++ [x]) := by
  intro i hi
  by_cases e : i = l.length
  · subst e
    exact ⟨m', p, hm, hp, hb, ht, by rw [List.getD, List.getElem?_append_right (Nat.le_refl _)]; simpa using hx⟩
  · have hi2 : i < l.length := by simp at hi; omega
    obtain ⟨m2, p2, h1, h2, h3, h4, h5⟩ := h i hi2
    exact ⟨m2, p2, h1, h2, h3, h4, by rw [List.getD, List.getElem?_append_left hi2]; exact h5⟩
theorem Places.enc {Z n d m : Int} {lw hw ns l : List Nat} {B d' : Nat} (hp : Places d' lw m hw l) (h : Enc Z n d lw m hw ns B) (hd : d = d') (hl : n = l.length) : ns = l := by
  obtain ⟨_, m2, _, e2, _⟩ := h.parts
  refine enc_code h hd e2 hl fun i hi => ?_
  obtain ⟨m', p, h1, h2⟩ := hp i hi
  obtain rfl : m2 = m' := by omega
  exact ⟨p, h2⟩
theorem Places.low {d : Nat} {lw : List Nat} {m : Int} {hw l : List Nat} (hp : Places d lw m hw l) (hV : PValid l.length d lw) (hw : ∀ x ∈ lw, x < 18446744073709551616) : packWords d (flow d l) = lw :=
  low_of_code hV hw rfl fun i hi => by
    obtain ⟨m', p, _, _, _, _, h⟩ := hp i hi
    rw [h, Nat.mul_comm, Nat.mul_add_mod, Nat.mod_eq_of_lt (numAt_lt lw d i)]
theorem Places.le {d : Nat} {lw : List Nat} {m : Int} {hw l : List Nat} (hp : Places d lw m hw l) (hd : d ≤ 20) (hm : ∀ m' : Nat, m = m' → m' ≤ 4096) : ∀ x ∈ l, x ≤ 4296015872 := by
  intro x hx
  obtain ⟨i, hi, rfl⟩ := List.getElem_of_mem hx
  obtain ⟨m', p, h1, h2, _, _, h⟩ := hp i hi
  have hm' := hm m' h1
  have h3 := numAt_lt lw d i
  have hp : 2 ^ d ≤ 1048576 := Nat.pow_le_pow_right (n := 2) (j := 20) (by decide) hd
  have h4 : (p - i) * 2 ^ d ≤ 4096 * 1048576 := Nat.mul_le_mul (by omega) hp
  rw [List.getD, List.getElem?_eq_getElem hi] at h
  simp only [Option.getD_some] at h
  rw [h]
  generalize (p - i) * 2 ^ d = q at *
  omega

/-- No encoding where a number has no place. -/
theorem no_enc_none {Z d m : Int} {n : Nat} {lw hw : List Nat} {m' : Nat} (hm : m = m') (h : tally (bit hw) m' < n) : ∀ ns B, ¬ Enc Z n d lw m hw ns B := fun ns B he => by
  have h1 := enc_place he hm
  have h2 := he.len
  omega
theorem no_enc_form {Z d m : Int} {n : Nat} {lw hw : List Nat} (hV : ∀ m' : Nat, m = m' → ¬ Valid m' hw) : ∀ ns B, ¬ Enc Z n d lw m hw ns B := fun ns B he => by
  obtain ⟨_, m2, _, e2, _, _, h, _⟩ := he.parts
  exact hV m2 e2 h

theorem asInts_inj {a b : List Nat} (h : asInts a = asInts b) : a = b := by
  unfold asInts at h
  exact List.map_inj_right (fun x y e => by omega) |>.1 h
theorem enc_list {Z d m : Int} {n : Nat} {lw hw ns l : List Nat} {B d' m' : Nat} (h : Enc Z n d lw m hw ns B) (hd : d = d') (hm : m = m') (hl : freadI d' (numAt lw d') (bit hw) m' = asInts l) : ns = l := asInts_inj ((enc_doc h hd hm).symm.trans hl)
end Go.Proofs.YtmlekhgjnhnjlaaDoor
