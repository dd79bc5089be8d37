/-
  What gam.Encode and its small functions return: contracts, walked over the translated text. No condition but what each theorem names.
-/
import Derived.Test.YtelcnkmgdohigaaGamCst
import Derived.Test.YtelcnkmgdohigaaMem
import Derived.Test.YtelcnkmgdohigaaSigned
import Derived.Test.YtelcnkmgdohigaaBitsMk
namespace Go.Proofs.Ytelcnkmgdohigaa
open Go.RowKit Words

theorem flag_info : (Try.prog.info? 4).map (fun i => (i.zero, i.size, i.bytes)) = some (some (.bool false), 1, 1) := by kernel_rfl

/-- What a call leaves that lays more bits behind a row that its caller owns. -/
def GivesMore (base : Nat) (w : World) (n : Nat) (xs : List Bool) (e : Ending) (w' : World) : Prop := ∃ v, e = .returned v ∧ w'.ownsRow base 4 1 v n (xs.map .bool) ∧ Below base w w'

set_option maxHeartbeats 1000000 in
/-- gam.appendDigits. -/
theorem adig_any (base m n c : Nat) (v : Value) (xs : List Bool) (w : World) (hn : n ≤ 9223372036854775807) (hc : c ≤ 62) (hm : m ≤ 1000000) (hbase : base ≤ w.heap.size) (hown : w.ownsRow base 4 1 v m (xs.map .bool)) :
    Calls Try.prog 38 #[v, .int .i64 n, .int .i64 c] w (GivesMore base w (m + c) (xs ++ dig n c)) := by
  have HO := Lib.hid hown
  clear hown
  go_enter Try.func38, Try.ntmps38
  go_wp2
  go_loopw [0, 9] (fun v i w' => ∃ j : Nat, j ≤ c ∧ i = .int .i64 j ∧ w'.ownsRow base 4 1 v (m + j) ((xs ++ (dig n c).take j).map .bool) ∧ Below base w w') (fun _ i _ => c - (intOf i).toNat)
  case atStart => exact ⟨0, Nat.zero_le _, rfl, by simpa using HO.out, Below.refl _ _⟩
  case round =>
    obtain ⟨j, hj, rfl, hown, hbl⟩ := hrel
    by_cases hlt : j < c
    · have hsz := hbl.size
      have HX := Lib.hid (show (dig n c).take (j + 1) = (dig n c).take j ++ [n.testBit (c - 1 - j)] by rw [List.take_add_one, dig_get n c j hlt]; rfl)
      have hbit := bit_one_int n (c - 1 - j) (by omega)
      generalize n.testBit (c - 1 - j) = x at *
      go_wp2_with (at_builtin; go_loud (refine append_one _ rfl (.tmp 12) (.tmp 21) 46 rfl base 4 (.bool false) 1 Try.underlying46 flag_info rfl u0 (m + j) _ rfl (hown.alloc _) wr.heap.size 1 (.bool x) rfl (by simp) rfl (by simp only [maxLen]; omega) (by omega) (by simp; omega) ?_))
      intro v1 w2 hown1 hg1
      go_wp2
      go_roundw
      case rel => exact ⟨j + 1, by omega, by go_num, by rw [HX.out]; simpa [Nat.add_assoc] using hown1, (hbl.alloc (by omega) _).grown hg1 (by simp; omega) (fun q hq => (hown.lt q hq).1)⟩
      case measure => simp [intOf]; omega
    · obtain rfl : j = c := by omega
      rw [List.take_of_length_le (by rw [dig_length]; omega)] at hown
      go_wp2
      go_ret
      exact ⟨_, rfl, hown, hbl⟩

set_option maxHeartbeats 1000000 in
/-- gam.appendGamma. -/
theorem agam_any (base m n : Nat) (v : Value) (xs : List Bool) (w : World) (h0 : 1 ≤ n) (hn : n ≤ 2097151) (hm : m ≤ 900000) (hbase : base ≤ w.heap.size) (hown : w.ownsRow base 4 1 v m (xs.map .bool)) :
    Calls Try.prog 37 #[v, .int .i64 n] w (GivesMore base w (m + (2 * Lib.bitLen n - 1)) (xs ++ gam n)) := by
  obtain ⟨b0, b1⟩ := blen_code h0 hn
  have HL := Lib.hid (glen_any n · (by omega))
  have HD := Lib.hid (fun m c v xs W (hc : c ≤ 62) hm hb ho => adig_any base m n c v xs W (by omega) hc hm hb ho)
  have HG := Lib.hid (show gam n = List.replicate (Lib.bitLen n - 1) false ++ dig n (Lib.bitLen n) from rfl)
  have HO := Lib.hid hown
  clear hown
  generalize Lib.bitLen n = L at *
  obtain ⟨k, rfl⟩ : ∃ k, L = k + 1 := ⟨L - 1, by omega⟩
  rw [Nat.add_sub_cancel] at HG
  simp only [Int.natCast_add] at HL
  go_enter Try.func37, Try.ntmps37
  go_wp2_with fail
  refine (HL.out _).mono ?_
  rintro e w' ⟨rfl, rfl⟩
  go_wp2
  go_loopw [0, 8] (fun v i w' => ∃ j : Nat, j ≤ k ∧ i = .int .i64 j ∧ w'.ownsRow base 4 1 v (m + j) ((xs ++ List.replicate j false).map .bool) ∧ Below base w w') (fun _ i _ => k - (intOf i).toNat)
  case atStart => exact ⟨0, Nat.zero_le _, rfl, by simpa using HO.out, Below.refl _ _⟩
  case round =>
    obtain ⟨j, hj, rfl, hown, hbl⟩ := hrel
    have hsz := hbl.size
    by_cases hlt : j < k
    · have HX := Lib.hid (show List.replicate (j + 1) false = List.replicate j false ++ [false] from List.replicate_succ')
      go_wp2_with (at_builtin; go_loud (refine append_one _ rfl (.tmp 10) (.tmp 11) 46 rfl base 4 (.bool false) 1 Try.underlying46 flag_info rfl u0 (m + j) _ rfl (hown.alloc _) wr.heap.size 1 (.bool false) rfl (by simp) rfl (by simp only [maxLen]; omega) (by omega) (by simp; omega) ?_))
      intro v1 w2 hown1 hg1
      go_wp2
      go_roundw
      case rel => exact ⟨j + 1, by omega, by go_num, by rw [HX.out]; simpa [Nat.add_assoc] using hown1, (hbl.alloc (by omega) _).grown hg1 (by simp; omega) (fun q hq => (hown.lt q hq).1)⟩
      case measure => simp [intOf]; omega
    · obtain rfl : j = k := by omega
      have HE := Lib.hid (HD.out (m + j) (j + 1) u0 (xs ++ List.replicate j false) wr (by omega) (by omega) (by omega) hown)
      simp only [Int.natCast_add] at HE
      go_wp2_with fail
      refine (HL.out _).mono ?_
      rintro e w' ⟨rfl, rfl⟩
      go_wp2_with fail
      refine HE.out.mono ?_
      rintro e w' ⟨v', rfl, ho', hb'⟩
      go_wp2
      go_ret
      exact ⟨_, rfl, by rw [HG.out, ← List.append_assoc, show m + (2 * (j + 1) - 1) = m + j + (j + 1) by omega]; exact ho', hbl.trans hb'⟩

set_option maxHeartbeats 1000000 in
/-- gam.appendCode. -/
theorem acode_any (base m k n : Nat) (v : Value) (xs : List Bool) (w : World) (hk : k = 1 ∨ k = 2) (h0 : 1 ≤ n) (hn : n ≤ 2097151) (hm : m ≤ 800000) (hbase : base ≤ w.heap.size) (hown : w.ownsRow base 4 1 v m (xs.map .bool)) :
    Calls Try.prog 25 #[v, .int .i64 k, .int .i64 n] w (GivesMore base w (m + costOf k n) (xs ++ codeOf k n)) := by
  obtain ⟨b0, b1⟩ := blen_code h0 hn
  obtain ⟨c0, c1⟩ := blen_code (n := Lib.bitLen n) b0 (by omega)
  have HL := Lib.hid (glen_any n · (by omega))
  have HO := Lib.hid hown
  rcases hk with rfl | rfl
  · have HG := Lib.hid (agam_any base m n v xs w h0 hn (by omega) hbase hown)
    clear hown
    have e1 : costOf 1 n = 2 * Lib.bitLen n - 1 := rfl
    have e2 : codeOf 1 n = gam n := rfl
    rw [e1, e2]
    clear e1 e2
    generalize 2 * Lib.bitLen n - 1 = C at *
    go_enter Try.func25, Try.ntmps25
    go_wp2_with fail
    refine HG.out.mono ?_
    rintro e w' ⟨v', rfl, ho', hb'⟩
    go_wp2
    go_ret
    exact ⟨_, rfl, ho', hb'⟩
  · have HG := Lib.hid (agam_any base m (Lib.bitLen n) v xs w b0 (by omega) (by omega) hbase hown)
    have HD := Lib.hid (fun m c v xs W (hc : c ≤ 62) hm hb ho => adig_any base m n c v xs W (by omega) hc hm hb ho)
    clear hown
    have e1 : costOf 2 n = 2 * Lib.bitLen (Lib.bitLen n) - 1 + Lib.bitLen n - 1 := rfl
    have e2 : codeOf 2 n = gam (Lib.bitLen n) ++ dig n (Lib.bitLen n - 1) := rfl
    rw [e1, e2, ← List.append_assoc, show m + (2 * Lib.bitLen (Lib.bitLen n) - 1 + Lib.bitLen n - 1) = m + (2 * Lib.bitLen (Lib.bitLen n) - 1) + (Lib.bitLen n - 1) by omega]
    clear e1 e2
    have hC : 2 * Lib.bitLen (Lib.bitLen n) - 1 ≤ 41 := by omega
    generalize 2 * Lib.bitLen (Lib.bitLen n) - 1 = C at *
    generalize gam (Lib.bitLen n) = G at *
    generalize Lib.bitLen n = L at *
    obtain ⟨q, rfl⟩ : ∃ q, L = q + 1 := ⟨L - 1, by omega⟩
    rw [Nat.add_sub_cancel]
    simp only [Int.natCast_add] at HL HG
    go_enter Try.func25, Try.ntmps25
    go_wp2_with fail
    refine (HL.out _).mono ?_
    rintro e w' ⟨rfl, rfl⟩
    go_wp2_with fail
    refine HG.out.mono ?_
    rintro e w1 ⟨v', rfl, ho', hb'⟩
    have hs1 := hb'.size
    have HE := Lib.hid (HD.out (m + C) q v' (xs ++ G) w1 (by omega) (by omega) (by omega) ho')
    go_wp2_with fail
    refine (HL.out _).mono ?_
    rintro e w' ⟨rfl, rfl⟩
    go_wp2_with fail
    refine HE.out.mono ?_
    rintro e w2 ⟨v2, rfl, ho2, hb2⟩
    go_wp2
    go_ret
    exact ⟨_, rfl, ho2, hb'.trans hb2⟩

/-- Numbers that are not negative, as such. -/
def natsI (l : List Int) : List Nat := l.map Int.toNat

theorem natsI_take (l : List Int) (j : Nat) (z : Nat) (h : l[j]? = some (z : Int)) : natsI (l.take (j + 1)) = natsI (l.take j) ++ [z] := by
  unfold natsI
  rw [List.take_add_one, h]
  simp

theorem natsI_codes {l : List Int} (h : ∀ z ∈ l, Codes z) : ∀ n ∈ natsI l, 1 ≤ n ∧ n ≤ 1048576 := by
  intro n hn
  obtain ⟨z, hz, rfl⟩ := List.mem_map.1 hn
  have := h z hz
  unfold Codes at this
  omega

theorem natsI_length (l : List Int) : (natsI l).length = l.length := by simp [natsI]

theorem natsI_bound (k : Nat) {l : List Int} (h : ∀ z ∈ l, Codes z) : (codes k (natsI l)).length ≤ 41 * l.length := by
  rw [codes_length k _ (natsI_codes h)]
  have := costs_le k _ (natsI_codes h)
  rwa [natsI_length] at this

/-- A call that returns no vector but an error. -/
def NoBits (w : World) (x : Nat) (e : Ending) (w' : World) : Prop := e = .returned (.tuple #[.agg #[.int .i64 0, .slice none 0 0], .int .i64 x]) ∧ Below w.heap.size w w'

/-- What Encode leaves, of a known kind and not too many numbers. -/
def Encodes (k : Nat) (l : List Int) (w : World) (e : Ending) (w' : World) : Prop :=
  ((∃ z ∈ l, ¬ Codes z) ∧ NoBits w 2 e w') ∨ ((∀ z ∈ l, Codes z) ∧ 4096 < (codes k (natsI l)).length ∧ NoBits w 9 e w') ∨
  ((∀ z ∈ l, Codes z) ∧ (codes k (natsI l)).length ≤ 4096 ∧ GivesBits w (codes k (natsI l)).length (rowOf (codes k (natsI l))) e w')

theorem codes_all {l : List Int} {n : Nat} (hn : l.length ≤ n) (h : ∀ i z, i < n → l[i]? = some z → Codes z) : ∀ z ∈ l, Codes z := fun z hz => by
  obtain ⟨i, hi, e⟩ := List.getElem_of_mem hz
  exact h i z (by omega) (by rw [List.getElem?_eq_getElem hi, e])

theorem codes_before {l : List Int} {j : Nat} (h : ∀ i z, i < j → l[i]? = some z → Codes z) : ∀ z ∈ l.take j, Codes z := fun z hz => by
  obtain ⟨i, hi, e⟩ := List.getElem_of_mem hz
  have hj : i < j := by simp at hi; omega
  refine h i z hj ?_
  rw [← e, List.getElem_take]
  exact List.getElem?_eq_getElem _

/-- gam.Encode of an unknown kind. -/
theorem enc_kind (k : Int) (A : Option Addr) (n c : Nat) (w : World) (hk : ¬ (k = 1 ∨ k = 2)) : Calls Try.prog 9 #[.int .i64 k, .slice A n c] w (NoBits w 3) := by
  have HK := Lib.hid (known_any k)
  rw [show decide (k = 1 ∨ k = 2) = false by simpa using hk] at HK
  clear hk
  go_enter Try.func9, Try.ntmps9
  go_wp2_with (go_at_call 23; refine (HK.out _).mono ?_; rintro e w' ⟨rfl, rfl⟩)
  exact bodyPost_ret (v := .tuple #[.agg #[.int .i64 0, .slice none 0 0], .int .i64 3]) (by simp [results, Try.results9, go_sem]) rfl ⟨rfl, bnew _ _⟩

/-- gam.Encode of too many numbers. -/
theorem enc_size (k : Int) (A : Option Addr) (n c : Nat) (w : World) (hk : k = 1 ∨ k = 2) (h : 300 < n) (hn : n ≤ 9223372036854775807) : Calls Try.prog 9 #[.int .i64 k, .slice A n c] w (NoBits w 1) := by
  have HK := Lib.hid (known_any k)
  rw [show decide (k = 1 ∨ k = 2) = true by simpa using hk] at HK
  clear hk
  go_enter Try.func9, Try.ntmps9
  go_wp2_with (go_at_call 23; refine (HK.out _).mono ?_; rintro e w' ⟨rfl, rfl⟩)
  exact bodyPost_ret (v := .tuple #[.agg #[.int .i64 0, .slice none 0 0], .int .i64 1]) (by simp [results, Try.results9, go_sem]) rfl ⟨rfl, bnew _ _⟩

set_option maxHeartbeats 2000000 in
/-- gam.Encode. -/
theorem enc_any (k : Nat) (A : Option Addr) (l : List Int) (c : Nat) (w : World) (hk : k = 1 ∨ k = 2) (h : l.length ≤ 300) (hL : Lies w w.heap.size A (l.map (.int .i64))) :
    Calls Try.prog 9 #[.int .i64 k, .slice A l.length c] w (Encodes k l w) := by
  have HK := Lib.hid (known_any (k : Int))
  rw [show decide ((k : Int) = 1 ∨ (k : Int) = 2) = true by simp only [decide_eq_true_eq]; omega] at HK
  have HC := Lib.hid codable_any
  have HL := Lib.hid hL
  have HAC := Lib.hid (fun base m n v xs W h0 hn hm hb ho => acode_any base m k n v xs W hk h0 hn hm hb ho)
  have HMk := Lib.hid make_any
  clear hL hk
  generalize hn : l.length = n at *
  have HN := Lib.hid hn
  clear hn
  have hd : decide (300 < (n : Int)) = false := by simp; omega
  go_enter Try.func9, Try.ntmps9
  go_wp2_with (go_at_call 23; refine (HK.out _).mono ?_; rintro e w' ⟨rfl, rfl⟩)
  go_loopw [6, 19] (fun v i w' => ∃ j : Nat, j ≤ n ∧ i = .int .i64 j ∧ (∀ i z, i < j → l[i]? = some z → Codes z) ∧ w'.ownsRow (w.heap.size + 1) 4 1 v (codes k (natsI (l.take j))).length ((codes k (natsI (l.take j))).map .bool) ∧ Below (w.heap.size + 1) (w.alloc (.cells #[.int .i64 0, .slice none 0 0] 25)) w') (fun _ i _ => n - (intOf i).toNat)
  case atStart => exact ⟨0, Nat.zero_le _, rfl, fun i z hi => by omega, World.ownsRow_nil _ _ _ _, Below.refl _ _⟩
  case round =>
    obtain ⟨j, hj, rfl, hgood, hown, hbl⟩ := hrel
    have HG := Lib.hid hgood
    have hbnd := natsI_bound k (codes_before hgood)
    have hsz := hbl.size
    simp only [World.alloc, Array.size_push] at hsz
    have hbox : Blk wr w.heap.size 25 [.int .i64 0, .slice none 0 0] := (Blk.new w 25 [.int .i64 0, .slice none 0 0]).below hbl (by omega)
    have hq0 : wr.cell? ⟨w.heap.size, 0, none⟩ = some (.int .i64 0) := hbox.cell 0
    have hq1 : wr.cell? ⟨w.heap.size, 1, none⟩ = some (.slice none 0 0) := hbox.cell 1
    have hf0 := hbox.frozen 0
    have hf1 := hbox.frozen 1
    have hbnd2 : (codes k (natsI (l.take j))).length ≤ 12300 := by
      rw [List.length_take] at hbnd
      omega
    have HB := Lib.hid ((bnew w (.cells #[.int .i64 0, .slice none 0 0] 25)).trans (hbl.mono (by omega)))
    clear hgood hbnd
    by_cases hlt : j < n
    · obtain ⟨b, o, z, rfl, hb, hx, hc0⟩ := HL.out.at_ (k := j) (by rw [HN.out]; exact hlt)
      have hc : wr.cell? ⟨b, o + j, none⟩ = some (.int .i64 z) := (bcell hbl b (o + j) (by omega)).trans ((World.cell?_alloc_lt w _ ⟨b, o + j, none⟩ hb).trans hc0)
      have HX := Lib.hid hx
      clear hx hc0
      by_cases hz : Codes z
      · have HCz := Lib.hid (HC.out z)
        rw [show decide (Codes z) = true by simpa using hz] at HCz
        have HZ := Lib.hid hz
        obtain ⟨z0, z1⟩ := hz
        obtain ⟨y, rfl⟩ := Int.eq_ofNat_of_zero_le (a := z) (by omega)
        have HT := Lib.hid (show codes k (natsI (l.take (j + 1))) = codes k (natsI (l.take j)) ++ codeOf k y by rw [natsI_take l j y HX.out, codes_snoc])
        have HE := Lib.hid (HAC.out (w.heap.size + 1) _ y u6 _ wr (by omega) (by omega) (by omega) hsz hown)
        have hcl := Lib.hid (codeOf_length k (n := y) (by omega) (by omega))
        go_wp2_with fail
        refine (HCz.out _).mono ?_
        rintro e w' ⟨rfl, rfl⟩
        go_wp2_with fail
        refine HE.out.mono ?_
        rintro e w2 ⟨v2, rfl, ho2, hb2⟩
        go_wp2
        go_roundw
        case rel =>
          refine ⟨j + 1, by omega, by go_num, fun i x hi hx => ?_, by rw [HT.out, List.length_append, hcl.out]; exact ho2, hbl.trans hb2⟩
          by_cases e : i = j
          · subst e
            rw [HX.out] at hx
            rw [← Option.some.inj hx]
            exact HZ.out
          · exact HG.out i x (by omega) hx
        case measure => simp [intOf]; omega
      · have HCz := Lib.hid (HC.out z)
        rw [show decide (Codes z) = false by simpa using hz] at HCz
        have HZ := Lib.hid hz
        clear hz
        go_wp2_with fail
        refine (HCz.out _).mono ?_
        rintro e w' ⟨rfl, rfl⟩
        go_wp2
        refine bodyPost_ret (v := .tuple #[.agg #[.int .i64 0, .slice none 0 0], .int .i64 2]) (by simp [results, Try.results9, go_sem, hq0, hq1]) rfl ?_
        exact .inl ⟨⟨z, List.mem_of_getElem? HX.out, HZ.out⟩, rfl, (HB.out.setCell (Nat.le_refl _) _).setCell (Nat.le_refl _) _⟩
    · obtain rfl : j = n := by omega
      have hall := codes_all (l := l) (n := j) (by rw [HN.out]; omega) HG.out
      have HAll := Lib.hid hall
      have htk : l.take j = l := List.take_of_length_le (by rw [HN.out]; omega)
      rw [htk] at hown hbnd2
      clear hall htk
      generalize hcs : codes k (natsI l) = cs at *
      have HCS := Lib.hid hcs
      clear hcs
      obtain ⟨A', c', rfl, hle1, hlen1, hlies, hnone1, hnew1⟩ := own_slice hown
      by_cases hfull : 4096 < cs.length
      · go_wp2
        refine bodyPost_ret (v := .tuple #[.agg #[.int .i64 0, .slice none 0 0], .int .i64 9]) (by simp [results, Try.results9, go_sem, hq0, hq1]) rfl ?_
        exact .inr (.inl ⟨HAll.out, by rw [HCS.out]; exact hfull, rfl, (HB.out.setCell (Nat.le_refl _) _).setCell (Nat.le_refl _) _⟩)
      · have HM := Lib.hid (HMk.out A' cs c' wr (by omega) hlies)
        go_wp2_with fail
        refine HM.out.mono ?_
        rintro e w2 ⟨A2, c2, rfl, hW2, hn2, hb2⟩
        have hbox2 := hbox.below hb2 hbox.lt
        have HW2 := Lib.hid hW2
        clear hW2 hq0 hq1 hf0 hf1
        have hq0 : w2.cell? ⟨w.heap.size, 0, none⟩ = some (.int .i64 0) := hbox2.cell 0
        have hq1 : w2.cell? ⟨w.heap.size, 1, none⟩ = some (.slice none 0 0) := hbox2.cell 1
        have hf0 := hbox2.frozen 0
        have hf1 := hbox2.frozen 1
        go_wp2
        refine bodyPost_ret (v := .tuple #[.agg #[.int .i64 cs.length, .slice A2 (rowOf cs).length c2], .int .i64 0]) (by simp [results, Try.results9, go_sem, hq0, hq1]) rfl ?_
        refine .inr (.inr ⟨HAll.out, by rw [HCS.out]; omega, ?_⟩)
        rw [HCS.out]
        refine ⟨A2, c2, rfl, ?_, hn2.mono (by omega), ((chain HB.out hb2).setCell (Nat.le_refl _) _).setCell (Nat.le_refl _) _⟩
        exact ⟨by simpa using (HW2.out.1.setCell hn2 (p := ⟨w.heap.size, 0, none⟩) (by exact hbox.lt) (.int .i64 cs.length)).setCell hn2 (p := ⟨w.heap.size, 1, none⟩) (by exact hbox.lt) (.slice A2 (rowOf cs).length c2), HW2.out.2⟩
end Go.Proofs.Ytelcnkmgdohigaa
