/-
  What wave's digit, fits, size, onesBefore and split return: contracts, walked over the translated text. What wave's length, May and check return: contracts, walked over the translated text. A matrix is '.agg #[.slice A vs.length c]', its levels vs in memory. What wave.compare returns: contracts, walked over the translated text. What wave.kth returns: contracts, walked over the translated text. What wave.At, Rank, Below, Kth and Next return: contracts, walked over the translated text. Plain mathematics of the making of a matrix, of no program; the levels of a matrix that was made of a list. No condition but what each theorem names.
-/
import Derived.Test.YtpkclmfadlkbeaaJ09
import Derived.Test.YtpkclmfadlkbeaaJ04
import Derived.Test.YtpkclmfadlkbeaaJ05
import Derived.Deep.RegionWith
import Derived.Deep.RegionHeld3
import Derived.Deep.Cut
import Derived.Deep.DeepCutAuto
namespace Go.Proofs.Ytpkclmfadlkbeaa
open Go.RowKit Words

theorem digit_int (x p : Nat) (hx : x < 9223372036854775808) : bits BinOp.and IntKind.i64 ((x : Int) / 2 ^ p) 1 = ((x.testBit p).toNat : Int) := by
  have e : ((x : Int) / 2 ^ p) = ((x / 2 ^ p : Nat) : Int) := by simp
  have hl : x / 2 ^ p < 9223372036854775808 := Nat.lt_of_le_of_lt (Nat.div_le_self _ _) hx
  have h := bits_and_i64_nat (x / 2 ^ p) 1 hl (by decide)
  rw [e]
  have h2 : bits BinOp.and IntKind.i64 ((x / 2 ^ p : Nat) : Int) 1 = ((x / 2 ^ p &&& 1 : Nat) : Int) := h
  rw [h2, nat_mask1, Nat.toNat_testBit]

/-- wave.digit. -/
theorem digit_any (x p : Nat) (w : World) (hx : x < 9223372036854775808) (hp : p ≤ 21) :
    Calls Try.prog 55 #[.int .i64 x, .int .i64 p] w fun e w' => e = .returned (.int .i64 ((x.testBit p).toNat : Nat)) ∧ w = w' := by
  have hd := digit_int x p hx
  go_enter Try.func55, Try.ntmps55
  go_wp2
  go_ret
  exact ⟨rfl, rfl⟩

/-- wave.fits. -/
theorem fits_neg (x : Int) (l : Nat) (w : World) (h : x < 0) :
    Calls Try.prog 34 #[.int .i64 x, .int .i64 l] w fun e w' => e = .returned (.bool false) ∧ w = w' := by
  have hd : decide (0 ≤ x) = false := by simp; omega
  go_enter Try.func34, Try.ntmps34
  go_wp2
  go_ret
  exact ⟨rfl, rfl⟩
theorem fits_any (x l : Nat) (w : World) (hl : l ≤ 21) (t : Bool) (ht : decide (x < 2 ^ l) = t) :
    Calls Try.prog 34 #[.int .i64 x, .int .i64 l] w fun e w' => e = .returned (.bool t) ∧ w = w' := by
  have hd : decide (0 ≤ (x : Int)) = true := by simp
  have hp : 2 ^ l ≤ 2 ^ 21 := Nat.pow_le_pow_right (by decide) hl
  go_enter Try.func34, Try.ntmps34
  go_wp2
  go_ret
  refine ⟨congrArg Ending.returned (congrArg Value.bool ?_), rfl⟩
  have e : ((2 : Int) ^ l) = ((2 ^ l : Nat) : Int) := by simp
  have hw : wrap64 ((2 : Int) ^ l) = ((2 ^ l : Nat) : Int) := by rw [e]; generalize 2 ^ l = y at *; unfold wrap64; omega
  rw [hw, ← ht]
  generalize 2 ^ l = y at *
  simp

/-- (wave.part).size. -/
theorem size_any (f t : Nat) (w : World) (hf : f ≤ t) (ht : t ≤ 100000) (d : Nat) (hd : t - f = d) :
    Calls Try.prog 61 #[.agg #[.int .i64 f, .int .i64 t]] w fun e w' => e = .returned (.int .i64 (d : Nat)) ∧ Below w.heap.size w w' := by
  have hd1 : (t : Int) - (f : Int) = (d : Nat) := by omega
  go_enter Try.func61, Try.ntmps61
  go_wp2
  go_ret
  exact ⟨rfl, bnew _ _⟩

/-- wave.onesBefore. -/
theorem ones_before (m r : Nat) (A : Option Addr) (ws : List Nat) (c : Nat) (w : World) (hV : Valid m ws) (hW : Words64 w w.heap.size A ws) (h : r ≤ m) :
    Calls Try.prog 74 #[.agg #[.int .i64 m, .slice A ws.length c], .int .i64 r] w fun e w' => e = .returned (.int .i64 (tally (bit ws) r)) ∧ Below w.heap.size w w' := by
  have H := Lib.hid (fun W (h2 : Words64 W W.heap.size A ws) => brank_in m r A ws c W hV h2 h)
  have HW := Lib.hid hW
  clear hW hV
  generalize tally (bit ws) r = y at *
  go_enter Try.func74, Try.ntmps74
  go_wp2_with (go_at_call 81; refine (H.out _ (by exact HW.out.alloc _)).mono ?_; rintro e w1 ⟨rfl, hb1⟩)
  go_ret
  exact ⟨rfl, chain (bnew _ _) hb1⟩

/-- The four cells that split returns: where the next level has the zeros, and where it has the ones. -/
def splitC (n : Nat) (b : Nat → Bool) (f t : Nat) : Value := .agg #[.int .i64 (f - tally b f : Nat), .int .i64 (t - tally b t : Nat), .int .i64 (zr n b + tally b f : Nat), .int .i64 (zr n b + tally b t : Nat)]

/-- Two boxes, one behind the other. -/
def Bx (g t1 t2 : Nat) (a b c d : Value) (W : World) : Prop := Blk W g t1 [a, b] ∧ Blk W (g + 1) t2 [c, d]
theorem Bx.on {g t1 t2 : Nat} {a b c d : Value} {W W' : World} (h : Bx g t1 t2 a b c d W) (hb : Below W.heap.size W W') : Bx g t1 t2 a b c d W' := ⟨h.1.below hb h.1.lt, h.2.below hb h.2.lt⟩
theorem Bx.c {g t1 t2 : Nat} {a b c d : Value} {W : World} (h : Bx g t1 t2 a b c d W) : W.cell? ⟨g, 0, none⟩ = some a ∧ W.cell? ⟨g, 1, none⟩ = some b ∧ W.cell? ⟨g + 1, 0, none⟩ = some c ∧ W.cell? ⟨g + 1, 1, none⟩ = some d := ⟨h.1.cell 0, h.1.cell 1, h.2.cell 0, h.2.cell 1⟩

/-- What split keeps between its steps. -/
def SpAt (w : World) (n f t : Nat) (A : Option Addr) (ws : List Nat) (c : Nat) (W : World) : Prop :=
  Bx w.heap.size 67 75 (.int .i64 n) (.slice A ws.length c) (.int .i64 f) (.int .i64 t) W ∧ Blk W (w.heap.size + 1 + 1) 101 [.int .i64 0, .int .i64 0, .int .i64 0, .int .i64 0] ∧ Words64 W W.heap.size A ws ∧ Below w.heap.size w W
theorem SpAt.on {w : World} {n f t : Nat} {A : Option Addr} {ws : List Nat} {c : Nat} {W W' : World} (h : SpAt w n f t A ws c W) (hb : Below W.heap.size W W') : SpAt w n f t A ws c W' := ⟨h.1.on hb, h.2.1.below hb h.2.1.lt, h.2.2.1.on hb, chain h.2.2.2 hb⟩
theorem SpAt.drew {w : World} {n f t : Nat} {A : Option Addr} {ws : List Nat} {c : Nat} {W : World} (h : SpAt w n f t A ws c W) : SpAt w n f t A ws c W.drew := ⟨h.1, h.2.1, h.2.2.1, h.2.2.2.drew⟩

set_option maxHeartbeats 4000000 in
/-- wave.split. -/
theorem split_any (n f t : Nat) (A : Option Addr) (ws : List Nat) (c : Nat) (w : World) (hV : Valid n ws) (hW : Words64 w w.heap.size A ws) (hf : f ≤ n) (ht : t ≤ n) :
    Calls Try.prog 62 #[.agg #[.int .i64 n, .slice A ws.length c], .agg #[.int .i64 f, .int .i64 t]] w fun e w' => e = .returned (splitC n (bit ws) f t) ∧ Below w.heap.size w w' := by
  have HN := Lib.hid (fun W (h : Words64 W W.heap.size A ws) => ones_before n n A ws c W hV h (Nat.le_refl n))
  have HF := Lib.hid (fun W (h : Words64 W W.heap.size A ws) => ones_before n f A ws c W hV h hf)
  have HT := Lib.hid (fun W (h : Words64 W W.heap.size A ws) => ones_before n t A ws c W hV h ht)
  have hn := hV.hi
  have e1 : (n : Int) - (tally (bit ws) n : Nat) = (zr n (bit ws) : Nat) := by have := tally_le (bit ws) n; unfold zr; omega
  have e2 : (f : Int) - (tally (bit ws) f : Nat) = (f - tally (bit ws) f : Nat) := by have := tally_le (bit ws) f; omega
  have e3 : (t : Int) - (tally (bit ws) t : Nat) = (t - tally (bit ws) t : Nat) := by have := tally_le (bit ws) t; omega
  have e4 : ((zr n (bit ws) : Nat) : Int) + (tally (bit ws) f : Nat) = (zr n (bit ws) + tally (bit ws) f : Nat) := by omega
  have e5 : ((zr n (bit ws) : Nat) : Int) + (tally (bit ws) t : Nat) = (zr n (bit ws) + tally (bit ws) t : Nat) := by omega
  have b1 : zr n (bit ws) ≤ 4096 := by unfold zr; omega
  have b2 := tally_le (bit ws) f
  have b3 := tally_le (bit ws) t
  have b4 := tally_le (bit ws) n
  have HW := Lib.hid hW
  clear hW hV
  unfold splitC
  generalize zr n (bit ws) + tally (bit ws) f = zf at *
  generalize zr n (bit ws) + tally (bit ws) t = zt at *
  generalize f - tally (bit ws) f = ff at *
  generalize t - tally (bit ws) t = tt at *
  generalize zr n (bit ws) = z at *
  generalize tally (bit ws) f = f1 at *
  generalize tally (bit ws) t = t1 at *
  generalize tally (bit ws) n = n1 at *
  go_enter Try.func62, Try.ntmps62
  go_wp2_with fail
  have hW0 := ((HW.out.alloc (.cells #[.int .i64 n, .slice A ws.length c] 67)).alloc (.cells #[.int .i64 f, .int .i64 t] 75)).alloc (.cells #[.int .i64 0, .int .i64 0, .int .i64 0, .int .i64 0] 101)
  have hbel : Below w.heap.size w (((w.alloc (.cells #[.int .i64 n, .slice A ws.length c] 67)).alloc (.cells #[.int .i64 f, .int .i64 t] 75)).alloc (.cells #[.int .i64 0, .int .i64 0, .int .i64 0, .int .i64 0] 101)) := chain (chain (bnew _ _) (bnew _ _)) (bnew _ _)
  have hBa := ((Blk.new w 67 [.int .i64 n, .slice A ws.length c]).alloc (.cells #[.int .i64 f, .int .i64 t] 75)).alloc (.cells #[.int .i64 0, .int .i64 0, .int .i64 0, .int .i64 0] 101)
  have hBb := (Blk.new (w.alloc (.cells #[.int .i64 n, .slice A ws.length c] 67)) 75 [.int .i64 f, .int .i64 t]).alloc (.cells #[.int .i64 0, .int .i64 0, .int .i64 0, .int .i64 0] 101)
  have hBc := Blk.new ((w.alloc (.cells #[.int .i64 n, .slice A ws.length c] 67)).alloc (.cells #[.int .i64 f, .int .i64 t] 75)) 101 [.int .i64 0, .int .i64 0, .int .i64 0, .int .i64 0]
  simp only [World.size_alloc] at hBb hBc
  clear HW
  generalize (((w.alloc (.cells #[.int .i64 n, .slice A ws.length c] 67)).alloc (.cells #[.int .i64 f, .int .i64 t] 75)).alloc (.cells #[.int .i64 0, .int .i64 0, .int .i64 0, .int .i64 0] 101)) = W0 at *
  have HX := Lib.hid (show SpAt w n f t A ws c W0 from ⟨⟨hBa, hBb⟩, hBc, hW0, hbel⟩)
  clear hBa hBb hBc hbel hW0
  obtain ⟨a0, a1, a2, a3⟩ := HX.out.1.c
  go_region_held3 (fun W => W.cell? ⟨w.heap.size, 0, none⟩ = some (.int .i64 n) ∧ W.cell? ⟨w.heap.size, 1, none⟩ = some (.slice A ws.length c))
    (first | exact ⟨a0, a1⟩ | exact ⟨d0, d1⟩)
    (first
      | (go_at_call 74; refine (HN.out _ ?_).mono ?_; exact HX.out.drew.2.2.1; rintro e w1 ⟨rfl, hb1⟩; obtain ⟨d0, d1, d2, d3⟩ := (HX.out.drew.1.on hb1).c))
  have HX1 := Lib.hid (HX.out.drew.on hb1)
  clear a0 a1 a2 a3 d0 d1 d2 d3 HX HN hb1
  obtain ⟨a0, a1, a2, a3⟩ := HX1.out.1.c
  go_wp2_with fail
  go_region_held3 (fun W => W.cell? ⟨w.heap.size, 0, none⟩ = some (.int .i64 n) ∧ W.cell? ⟨w.heap.size, 1, none⟩ = some (.slice A ws.length c) ∧ W.cell? ⟨w.heap.size + 1, 0, none⟩ = some (.int .i64 f) ∧ W.cell? ⟨w.heap.size + 1, 1, none⟩ = some (.int .i64 t))
    (first | exact HX1.out.1.c | exact HF1.out.1.c | exact HT1.out.1.c | exact HE.out.1.c)
    (first
      | (go_at_call_of 74 (Value.int .i64 (f : Int)); refine (HF.out _ ?_).mono ?_; exact HX1.out.drew.2.2.1; rintro e w2 ⟨rfl, hb2⟩; have HF1 := Lib.hid (HX1.out.drew.on hb2))
      | (go_at_call_of 74 (Value.int .i64 (t : Int)); refine (HT.out _ ?_).mono ?_; exact HX1.out.drew.2.2.1; rintro e w2 ⟨rfl, hb2⟩; have HT1 := Lib.hid (HX1.out.drew.on hb2))
      | (go_at_call_of 74 (Value.int .i64 (f : Int)); refine (HF.out _ ?_).mono ?_; exact HT1.out.2.2.1; rintro e w3 ⟨rfl, hb3⟩; have HE := Lib.hid (HT1.out.on hb3))
      | (go_at_call_of 74 (Value.int .i64 (t : Int)); refine (HT.out _ ?_).mono ?_; exact HF1.out.2.2.1; rintro e w3 ⟨rfl, hb3⟩; have HE := Lib.hid (HF1.out.on hb3)))
  all_goals
    obtain ⟨d0, d1, d2, d3⟩ := HE.out.1.c
    have f0 := HE.out.2.1.frozen 0
    have f1 := HE.out.2.1.frozen 1
    have f2 := HE.out.2.1.frozen 2
    have f3 := HE.out.2.1.frozen 3
    have g0 : w3.cell? ⟨w.heap.size + 1 + 1, 0, none⟩ = some (.int .i64 0) := HE.out.2.1.cell 0
    have g1 : w3.cell? ⟨w.heap.size + 1 + 1, 1, none⟩ = some (.int .i64 0) := HE.out.2.1.cell 1
    have g2 : w3.cell? ⟨w.heap.size + 1 + 1, 2, none⟩ = some (.int .i64 0) := HE.out.2.1.cell 2
    have g3 : w3.cell? ⟨w.heap.size + 1 + 1, 3, none⟩ = some (.int .i64 0) := HE.out.2.1.cell 3
    clear a0 a1 a2 a3
    go_wp2_with fail
    refine bodyPost_ret (v := .agg #[.int .i64 ff, .int .i64 tt, .int .i64 zf, .int .i64 zt]) (by simp [results, Try.results62, go_sem, g0, g1, g2, g3]) rfl ⟨rfl, ?_⟩
    exact (((HE.out.2.2.2.setCell (by simp; omega) _).setCell (by simp; omega) _).setCell (by simp; omega) _).setCell (by simp; omega) _
end Go.Proofs.Ytpkclmfadlkbeaa

namespace Go.Proofs.Ytpkclmfadlkbeaa
open Go.RowKit Words

/-- The length that a matrix tells. -/
def lenOf : List Lev → Int
  | [] => 0
  | v :: _ => v.n
/-- A level of n bits that is valid. -/
def Good10 (n : Int) (v : Lev) : Prop := v.n = n ∧ v.n ≤ 300 ∧ ∃ m : Nat, v.n = m ∧ Valid m v.ws
/-- A valid matrix. -/
def Sound (vs : List Lev) : Prop := vs.length ≤ 21 ∧ ∀ v ∈ vs, Good10 (lenOf vs) v

/-- wave.length. -/
theorem length_any (A : Option Addr) (vs : List Lev) (c : Nat) (w : World) (hM : Mat w w.heap.size A vs) :
    Calls Try.prog 60 #[.agg #[.slice A vs.length c]] w fun e w' => e = .returned (.int .i64 (lenOf vs)) ∧ Below w.heap.size w w' := by
  cases vs with
  | nil =>
    clear hM
    show Calls Try.prog 60 #[.agg #[.slice A 0 c]] w fun e w' => e = .returned (.int .i64 0) ∧ Below w.heap.size w w'
    go_enter Try.func60, Try.ntmps60
    go_wp2
    go_ret
    exact ⟨rfl, bnew _ _⟩
  | cons v r =>
    obtain ⟨b, p, v', rfl, hb, hv, hc, _, _⟩ := hM.at_ (i := 0) (by simp)
    obtain rfl : v = v' := by simpa using hv
    rw [Nat.zero_mul, Nat.add_zero] at hc
    have hz : (((v :: r).length : Int) == 0) = false := by simp; omega
    have hp : 0 < (v :: r).length := by simp
    show Calls Try.prog 60 #[.agg #[.slice (some ⟨b, p, none⟩) (v :: r).length c]] w fun e w' => e = .returned (.int .i64 v.n) ∧ Below w.heap.size w w'
    generalize (v :: r).length = k at *
    generalize v.n = z at *
    clear hM hv
    go_enter Try.func60, Try.ntmps60
    go_wp2
    go_ret
    exact ⟨rfl, bnew _ _⟩

/-- What May leaves. -/
def MayPost (vs : List Lev) (w : World) (e : Ending) (w' : World) : Prop := ∃ r : Bool, e = .returned (.bool r) ∧ (r = true ↔ Sound vs) ∧ Below w.heap.size w w'

set_option maxHeartbeats 4000000 in
/-- wave.May. -/
theorem wmay_any (A : Option Addr) (vs : List Lev) (c : Nat) (w : World) (hk : vs.length ≤ 17592186044416) (hM : Mat w w.heap.size A vs) :
    Calls Try.prog 59 #[.agg #[.slice A vs.length c]] w (MayPost vs w) := by
  by_cases h21 : vs.length ≤ 21
  · have HM := Lib.hid hM
    have HLn := Lib.hid (fun W hW => length_any A vs c W hW)
    clear hM
    have hd : decide (21 < (vs.length : Int)) = false := by simp; omega
    have HS := Lib.hid (show (∀ v ∈ vs, Good10 (lenOf vs) v) ↔ Sound vs from ⟨fun h => ⟨h21, h⟩, fun h => h.2⟩)
    generalize hkk : vs.length = k at *
    have HK := Lib.hid hkk
    generalize hLL : lenOf vs = L at *
    have HLL := Lib.hid hLL
    clear hkk hLL
    go_enter Try.func59, Try.ntmps59
    go_wp2_with fail
    have hB0 := Blk.new w 45 [.slice A k c]
    have hb0 := bnew w (.cells #[.slice A k c] 45)
    generalize w.alloc (.cells #[.slice A k c] 45) = w0 at *
    have HB0 := Lib.hid hB0
    have HB := Lib.hid hb0
    have HM0 := Lib.hid (HM.out.on hb0)
    have hlt0 := hB0.lt
    clear hB0 hb0
    go_loopw [12] (fun s w' => ∃ i : Nat, i ≤ k ∧ s = .int .i64 i ∧ (∀ j v, j < i → vs[j]? = some v → Good10 L v) ∧ Below w0.heap.size w0 w') (fun s _ => k - (intOf s).toNat)
    case atStart => exact ⟨0, Nat.zero_le _, rfl, (fun j v h => by omega), Below.refl _ _⟩
    case round =>
      obtain ⟨i, hi, rfl, hgood, hbl⟩ := hrel
      have HG := Lib.hid hgood
      clear hgood
      by_cases hlt : i < k
      · obtain ⟨b, p, v, rfl, hb, hv, hc0, hc1, hWv⟩ := (HM0.out.on hbl).at_ (i := i) (by rw [HK.out]; exact hlt)
        have HV := Lib.hid hv
        have HWv := Lib.hid hWv
        have HMr := Lib.hid (HM0.out.on hbl)
        have hbox := HB0.out.below hbl hlt0
        have hlt1 : w.heap.size < wr.heap.size := Nat.lt_of_lt_of_le hlt0 hbl.size
        have HBL := Lib.hid hbl
        clear hv hWv hbl
        go_wp2_with fail
        have hBv := Blk.new wr 67 [.int .i64 v.n, .slice v.adr v.ws.length v.cap]
        have hbx := hbox.alloc (.cells #[.int .i64 v.n, .slice v.adr v.ws.length v.cap] 67)
        have HW2 := Lib.hid (HWv.out.alloc (.cells #[.int .i64 v.n, .slice v.adr v.ws.length v.cap] 67))
        have HM2 := Lib.hid (HMr.out.alloc (.cells #[.int .i64 v.n, .slice v.adr v.ws.length v.cap] 67))
        have HB2 := Lib.hid (chain HBL.out (bnew wr (.cells #[.int .i64 v.n, .slice v.adr v.ws.length v.cap] 67)))
        have hlt2 := hBv.lt
        have hlt3 := hbx.lt
        generalize wr.alloc (.cells #[.int .i64 v.n, .slice v.adr v.ws.length v.cap] 67) = w2 at *
        clear hc0 hc1 hbox HWv HMr
        have r0 : w2.cell? ⟨wr.heap.size, 0, none⟩ = some (.int .i64 v.n) := hBv.cell 0
        have r1 : w2.cell? ⟨wr.heap.size, 1, none⟩ = some (.slice v.adr v.ws.length v.cap) := hBv.cell 1
        have r2 : w2.cell? ⟨w.heap.size, 0, none⟩ = some (.slice (some ⟨b, p, none⟩) k c) := hbx.cell 0
        clear hBv hbx
        refine wp_region_held_drew (S := fun w' => w'.cell? ⟨wr.heap.size, 0, none⟩ = some (.int .i64 v.n) ∧ w'.cell? ⟨wr.heap.size, 1, none⟩ = some (.slice v.adr v.ws.length v.cap) ∧ w'.cell? ⟨w.heap.size, 0, none⟩ = some (.slice (some ⟨b, p, none⟩) k c)) (by kernel_rfl) ⟨r0, r1, r2⟩ (fun hHeld1 => ?_)
        refine wpAnyH_take (i := 0) (oi := ⟨some 16, _, _, _, _, _⟩) (v := ?_) rfl (by kernel_rfl) (by kernel_rfl) (by kernel_rfl) (fun _ _ _ h => h) (Or.inl ⟨by kernel_rfl, ?_⟩) (by assumption) ?_
        rotate_left
        · (intro w hSw; (try dsimp only at hSw); go_simp; (try with_reducible rfl))
        try simp only [Act.put, List.setIfInBounds_toArray, List.set_cons_zero, List.set_cons_succ]
        refine wpAnyH_take (i := 1) (oi := ⟨some 17, _, _, _, _, _⟩) (v := ?_) rfl (by kernel_rfl) (by kernel_rfl) (by kernel_rfl) (fun _ _ _ h => h) (Or.inl ⟨by kernel_rfl, ?_⟩) (by assumption) ?_
        rotate_left
        · (intro w hSw; (try dsimp only at hSw); go_simp; (try with_reducible rfl))
        try simp only [Act.put, List.setIfInBounds_toArray, List.set_cons_zero, List.set_cons_succ]
        refine wpAnyH_take (i := 2) (oi := ⟨some 18, _, _, _, _, _⟩) (v := ?_) rfl (by kernel_rfl) (by kernel_rfl) (by kernel_rfl) (fun _ _ _ h => h) (Or.inl ⟨by kernel_rfl, ?_⟩) (by assumption) ?_
        rotate_left
        · (intro w hSw; (try dsimp only at hSw); go_simp; (try with_reducible rfl))
        try simp only [Act.put, List.setIfInBounds_toArray, List.set_cons_zero, List.set_cons_succ]
        refine wpAnyH_ready (rs := [3]) (by kernel_rfl) (by simp) ?_
        refine AllReadyH.cons (o := ⟨some 19, _, _, _, _, _⟩) rfl (fun K hK => ?_) AllReadyH.nil
        go_simp
        refine (HLn.out _ (by exact HM2.out.drew)).mono ?_
        rintro e w3 ⟨rfl, hb3⟩
        have hc3 : ∀ b o, b < w2.heap.size → w3.cell? ⟨b, o, none⟩ = w2.cell? ⟨b, o, none⟩ := fun b o h => bcell hb3 b o h
        go_wp2_with fail
        refine hK.out _ _ ⟨(hc3 _ _ hlt2).trans r0, (hc3 _ _ hlt2).trans r1, (hc3 _ _ hlt3).trans r2⟩ (fun hHeld2 => ?_)
        clear hK K
        try simp only [Act.put, List.setIfInBounds_toArray, List.set_cons_zero, List.set_cons_succ]
        have q0 : w3.cell? ⟨wr.heap.size, 0, none⟩ = some (.int .i64 v.n) := (hc3 _ _ hlt2).trans r0
        have q1 : w3.cell? ⟨wr.heap.size, 1, none⟩ = some (.slice v.adr v.ws.length v.cap) := (hc3 _ _ hlt2).trans r1
        have q2 : w3.cell? ⟨w.heap.size, 0, none⟩ = some (.slice (some ⟨b, p, none⟩) k c) := (hc3 _ _ hlt3).trans r2
        have HB3 := Lib.hid (chain HB2.out.drew hb3)
        have HW3 := Lib.hid (HW2.out.drew.on hb3)
        have hlt4 : wr.heap.size < w3.heap.size := Nat.lt_of_lt_of_le hlt2 hb3.size
        have hlt5 : w.heap.size < w3.heap.size := Nat.lt_of_lt_of_le hlt3 hb3.size
        clear r0 r1 r2 hc3 hb3 HB2 HW2 HM2 hlt2 hlt3
        by_cases hz : v.n = L
        · have e1 : (v.n != L) = false := by simp [hz]
          have HZ := Lib.hid hz
          clear hz
          refine wpAnyH_take (i := 4) (oi := ⟨some 20, _, _, _, _, _⟩) (v := ?_) rfl (by kernel_rfl) (by kernel_rfl) (by kernel_rfl) (fun _ _ _ h => h) (Or.inl ⟨by kernel_rfl, ?_⟩) (by assumption) ?_
          rotate_left
          · (intro w hSw; (try dsimp only at hSw); go_simp; (try with_reducible rfl))
          try simp only [Act.put, List.setIfInBounds_toArray, List.set_cons_zero, List.set_cons_succ]
          refine wpAnyH_take (i := 5) (oi := ⟨some 21, _, _, _, _, _⟩) (v := ?_) rfl (by kernel_rfl) (by kernel_rfl) (by kernel_rfl) (fun _ _ _ h => h) (Or.inl ⟨by kernel_rfl, ?_⟩) (by assumption) ?_
          rotate_left
          · (intro w hSw; (try dsimp only at hSw); go_simp; (try with_reducible rfl))
          try simp only [Act.put, List.setIfInBounds_toArray, List.set_cons_zero, List.set_cons_succ]
          refine wpAnyH_take (i := 6) (oi := ⟨some 22, _, _, _, _, _⟩) (v := ?_) rfl (by kernel_rfl) (by kernel_rfl) (by kernel_rfl) (fun _ _ _ h => h) (Or.inl ⟨by kernel_rfl, ?_⟩) (by assumption) ?_
          rotate_left
          · (intro w hSw; (try dsimp only at hSw); go_simp; (try with_reducible rfl))
          try simp only [Act.put, List.setIfInBounds_toArray, List.set_cons_zero, List.set_cons_succ]
          refine wpAnyH_take (i := 7) (oi := ⟨some 23, _, _, _, _, _⟩) (v := ?_) rfl (by kernel_rfl) (by kernel_rfl) (by kernel_rfl) (fun _ _ _ h => h) (Or.inl ⟨by kernel_rfl, ?_⟩) (by assumption) ?_
          rotate_left
          · (intro w hSw; (try dsimp only at hSw); go_simp; (try with_reducible rfl))
          try simp only [Act.put, List.setIfInBounds_toArray, List.set_cons_zero, List.set_cons_succ]
          by_cases h300 : v.n ≤ 300
          · have e2 : decide (300 < v.n) = false := by simp; omega
            refine wpAnyH_take (i := 8) (oi := ⟨some 24, _, _, _, _, _⟩) (v := ?_) rfl (by kernel_rfl) (by kernel_rfl) (by kernel_rfl) (fun _ _ _ h => h) (Or.inl ⟨by kernel_rfl, ?_⟩) (by assumption) ?_
            rotate_left
            · (intro w hSw; (try dsimp only at hSw); go_simp; (try with_reducible rfl))
            try simp only [Act.put, List.setIfInBounds_toArray, List.set_cons_zero, List.set_cons_succ]
            refine wpAnyH_take (i := 9) (oi := ⟨some 25, _, _, _, _, _⟩) (v := ?_) rfl (by kernel_rfl) (by kernel_rfl) (by kernel_rfl) (fun _ _ _ h => h) (Or.inl ⟨by kernel_rfl, ?_⟩) (by assumption) ?_
            rotate_left
            · (intro w hSw; (try dsimp only at hSw); go_simp; (try with_reducible rfl))
            try simp only [Act.put, List.setIfInBounds_toArray, List.set_cons_zero, List.set_cons_succ]
            refine wpAnyH_take (i := 10) (oi := ⟨some 26, _, _, _, _, _⟩) (v := ?_) rfl (by kernel_rfl) (by kernel_rfl) (by kernel_rfl) (fun _ _ _ h => h) (Or.inl ⟨by kernel_rfl, ?_⟩) (by assumption) ?_
            rotate_left
            · (intro w hSw; (try dsimp only at hSw); go_simp; (try with_reducible rfl))
            try simp only [Act.put, List.setIfInBounds_toArray, List.set_cons_zero, List.set_cons_succ]
            refine wpAnyH_take (i := 11) (oi := ⟨some 27, _, _, _, _, _⟩) (v := ?_) rfl (by kernel_rfl) (by kernel_rfl) (by kernel_rfl) (fun _ _ _ h => h) (Or.inl ⟨by kernel_rfl, ?_⟩) (by assumption) ?_
            rotate_left
            · (intro w hSw; (try dsimp only at hSw); go_simp; (try with_reducible rfl))
            try simp only [Act.put, List.setIfInBounds_toArray, List.set_cons_zero, List.set_cons_succ]
            by_cases hV : ∃ m : Nat, v.n = m ∧ Valid m v.ws
            · have HGd := Lib.hid (show Good10 L v from ⟨HZ.out, h300, hV⟩)
              have HMy : Hid (∀ W, Words64 W W.heap.size v.adr v.ws → Calls Try.prog 73 #[.agg #[.int .i64 v.n, .slice v.adr v.ws.length v.cap]] W fun e w' => e = .returned (.bool true) ∧ Below W.heap.size W w') := by
                obtain ⟨m, hm, hVm⟩ := hV
                rw [hm]
                exact Lib.hid (fun W hW => may_yes m v.adr v.ws v.cap W hVm hW)
              clear hV
              refine wpAnyH_ready (rs := [12]) (by kernel_rfl) (by simp) ?_
              refine AllReadyH.cons (o := ⟨some 28, _, _, _, _, _⟩) rfl (fun K hK => ?_) AllReadyH.nil
              go_simp
              refine (HMy.out _ (by exact HW3.out)).mono ?_
              rintro e w4 ⟨rfl, hb4⟩
              have hc4 : ∀ b o, b < w3.heap.size → w4.cell? ⟨b, o, none⟩ = w3.cell? ⟨b, o, none⟩ := fun b o h => bcell hb4 b o h
              go_wp2_with fail
              refine hK.out _ _ ⟨(hc4 _ _ hlt4).trans q0, (hc4 _ _ hlt4).trans q1, (hc4 _ _ hlt5).trans q2⟩ (fun hHeld3 => ?_)
              clear hK K
              try simp only [Act.put, List.setIfInBounds_toArray, List.set_cons_zero, List.set_cons_succ]
              have HB4 := Lib.hid (chain HB3.out hb4)
              refine wpAnyH_take (i := 13) (oi := ⟨some 29, _, _, _, _, _⟩) (v := ?_) rfl (by kernel_rfl) (by kernel_rfl) (by kernel_rfl) (fun _ _ _ h => h) (Or.inl ⟨by kernel_rfl, ?_⟩) (by assumption) ?_
              rotate_left
              · (intro w hSw; (try dsimp only at hSw); go_simp; (try with_reducible rfl))
              try simp only [Act.put, List.setIfInBounds_toArray, List.set_cons_zero, List.set_cons_succ]
              refine wpAnyH_take (i := 14) (oi := ⟨some 30, _, _, _, _, _⟩) (v := ?_) rfl (by kernel_rfl) (by kernel_rfl) (by kernel_rfl) (fun _ _ _ h => h) (Or.inl ⟨by kernel_rfl, ?_⟩) (by assumption) ?_
              rotate_left
              · (intro w hSw; (try dsimp only at hSw); go_simp; (try with_reducible rfl))
              try simp only [Act.put, List.setIfInBounds_toArray, List.set_cons_zero, List.set_cons_succ]
              refine wpAnyH_done (by kernel_rfl) ?_ _
              clear hHeld1 hHeld2 hHeld3 q0 q1 q2 hc4 hb4
              go_wp2_with fail
              go_roundw
              case rel => exact ⟨i + 1, by omega, by go_num, (fun j u hj hu => by
                rcases Nat.lt_or_ge j i with h | h
                · exact HG.out j u h hu
                · obtain rfl : j = i := by omega
                  rw [HV.out] at hu
                  obtain rfl := Option.some.inj hu
                  exact HGd.out), HB4.out⟩
              case measure => simp [intOf]; omega
            · have HMy := Lib.hid (fun W hW => may_no v.n v.adr v.ws v.cap W (fun m hm hVm => hV ⟨m, hm, hVm⟩) hW)
              have HVn := Lib.hid hV
              clear hV
              refine wpAnyH_ready (rs := [12]) (by kernel_rfl) (by simp) ?_
              refine AllReadyH.cons (o := ⟨some 28, _, _, _, _, _⟩) rfl (fun K hK => ?_) AllReadyH.nil
              go_simp
              refine (HMy.out _ (by exact HW3.out)).mono ?_
              rintro e w4 ⟨rfl, hb4⟩
              have hc4 : ∀ b o, b < w3.heap.size → w4.cell? ⟨b, o, none⟩ = w3.cell? ⟨b, o, none⟩ := fun b o h => bcell hb4 b o h
              go_wp2_with fail
              refine hK.out _ _ ⟨(hc4 _ _ hlt4).trans q0, (hc4 _ _ hlt4).trans q1, (hc4 _ _ hlt5).trans q2⟩ (fun hHeld3 => ?_)
              clear hK K
              try simp only [Act.put, List.setIfInBounds_toArray, List.set_cons_zero, List.set_cons_succ]
              have HB4 := Lib.hid (chain HB3.out hb4)
              refine wpAnyH_take (i := 13) (oi := ⟨some 29, _, _, _, _, _⟩) (v := ?_) rfl (by kernel_rfl) (by kernel_rfl) (by kernel_rfl) (fun _ _ _ h => h) (Or.inl ⟨by kernel_rfl, ?_⟩) (by assumption) ?_
              rotate_left
              · (intro w hSw; (try dsimp only at hSw); go_simp; (try with_reducible rfl))
              try simp only [Act.put, List.setIfInBounds_toArray, List.set_cons_zero, List.set_cons_succ]
              refine wpAnyH_take (i := 14) (oi := ⟨some 30, _, _, _, _, _⟩) (v := ?_) rfl (by kernel_rfl) (by kernel_rfl) (by kernel_rfl) (fun _ _ _ h => h) (Or.inl ⟨by kernel_rfl, ?_⟩) (by assumption) ?_
              rotate_left
              · (intro w hSw; (try dsimp only at hSw); go_simp; (try with_reducible rfl))
              try simp only [Act.put, List.setIfInBounds_toArray, List.set_cons_zero, List.set_cons_succ]
              refine wpAnyH_done (by kernel_rfl) ?_ _
              clear hHeld3 hc4 hb4
              have HNo := Lib.hid (show ¬ Sound vs from fun h => HVn.out (h.2 v (List.mem_of_getElem? HV.out)).2.2)
              clear hHeld1 hHeld2 q0 q1 q2
              go_wp2_with fail
              go_ret
              exact ⟨false, rfl, ⟨(fun h => by cases h), fun h => absurd h HNo.out⟩, chain HB.out HB4.out⟩
          · have e2 : decide (300 < v.n) = true := by simp; omega
            refine wpAnyH_take (i := 8) (oi := ⟨some 24, _, _, _, _, _⟩) (v := ?_) rfl (by kernel_rfl) (by kernel_rfl) (by kernel_rfl) (fun _ _ _ h => h) (Or.inl ⟨by kernel_rfl, ?_⟩) (by assumption) ?_
            rotate_left
            · (intro w hSw; (try dsimp only at hSw); go_simp; (try with_reducible rfl))
            try simp only [Act.put, List.setIfInBounds_toArray, List.set_cons_zero, List.set_cons_succ]
            refine wpAnyH_take (i := 9) (oi := ⟨some 25, _, _, _, _, _⟩) (v := ?_) rfl (by kernel_rfl) (by kernel_rfl) (by kernel_rfl) (fun _ _ _ h => h) (Or.inl ⟨by kernel_rfl, ?_⟩) (by assumption) ?_
            rotate_left
            · (intro w hSw; (try dsimp only at hSw); go_simp; (try with_reducible rfl))
            try simp only [Act.put, List.setIfInBounds_toArray, List.set_cons_zero, List.set_cons_succ]
            refine wpAnyH_take (i := 10) (oi := ⟨some 26, _, _, _, _, _⟩) (v := ?_) rfl (by kernel_rfl) (by kernel_rfl) (by kernel_rfl) (fun _ _ _ h => h) (Or.inl ⟨by kernel_rfl, ?_⟩) (by assumption) ?_
            rotate_left
            · (intro w hSw; (try dsimp only at hSw); go_simp; (try with_reducible rfl))
            try simp only [Act.put, List.setIfInBounds_toArray, List.set_cons_zero, List.set_cons_succ]
            refine wpAnyH_take (i := 11) (oi := ⟨some 27, _, _, _, _, _⟩) (v := undef) rfl (by kernel_rfl) (by kernel_rfl) (by kernel_rfl) (fun _ _ _ h => h) (Or.inr ⟨by kernel_rfl, rfl⟩) (by assumption) ?_
            try simp only [Act.put, List.setIfInBounds_toArray, List.set_cons_zero, List.set_cons_succ]
            refine wpAnyH_take (i := 12) (oi := ⟨some 28, _, _, _, _, _⟩) (v := undef) rfl (by kernel_rfl) (by kernel_rfl) (by kernel_rfl) (fun _ _ _ h => h) (Or.inr ⟨by kernel_rfl, rfl⟩) (by assumption) ?_
            try simp only [Act.put, List.setIfInBounds_toArray, List.set_cons_zero, List.set_cons_succ]
            refine wpAnyH_take (i := 13) (oi := ⟨some 29, _, _, _, _, _⟩) (v := undef) rfl (by kernel_rfl) (by kernel_rfl) (by kernel_rfl) (fun _ _ _ h => h) (Or.inr ⟨by kernel_rfl, rfl⟩) (by assumption) ?_
            try simp only [Act.put, List.setIfInBounds_toArray, List.set_cons_zero, List.set_cons_succ]
            refine wpAnyH_take (i := 14) (oi := ⟨some 30, _, _, _, _, _⟩) (v := ?_) rfl (by kernel_rfl) (by kernel_rfl) (by kernel_rfl) (fun _ _ _ h => h) (Or.inl ⟨by kernel_rfl, ?_⟩) (by assumption) ?_
            rotate_left
            · (intro w hSw; (try dsimp only at hSw); go_simp; (try with_reducible rfl))
            try simp only [Act.put, List.setIfInBounds_toArray, List.set_cons_zero, List.set_cons_succ]
            refine wpAnyH_done (by kernel_rfl) ?_ _
            have HNo := Lib.hid (show ¬ Sound vs from fun h => h300 (h.2 v (List.mem_of_getElem? HV.out)).2.1)
            clear hHeld1 hHeld2 q0 q1 q2
            go_wp2_with fail
            go_ret
            exact ⟨false, rfl, ⟨(fun h => by cases h), fun h => absurd h HNo.out⟩, chain HB.out HB3.out⟩
        · have e1 : (v.n != L) = true := by simpa using hz
          refine wpAnyH_take (i := 4) (oi := ⟨some 20, _, _, _, _, _⟩) (v := ?_) rfl (by kernel_rfl) (by kernel_rfl) (by kernel_rfl) (fun _ _ _ h => h) (Or.inl ⟨by kernel_rfl, ?_⟩) (by assumption) ?_
          rotate_left
          · (intro w hSw; (try dsimp only at hSw); go_simp; (try with_reducible rfl))
          try simp only [Act.put, List.setIfInBounds_toArray, List.set_cons_zero, List.set_cons_succ]
          refine wpAnyH_take (i := 5) (oi := ⟨some 21, _, _, _, _, _⟩) (v := ?_) rfl (by kernel_rfl) (by kernel_rfl) (by kernel_rfl) (fun _ _ _ h => h) (Or.inl ⟨by kernel_rfl, ?_⟩) (by assumption) ?_
          rotate_left
          · (intro w hSw; (try dsimp only at hSw); go_simp; (try with_reducible rfl))
          try simp only [Act.put, List.setIfInBounds_toArray, List.set_cons_zero, List.set_cons_succ]
          refine wpAnyH_take (i := 6) (oi := ⟨some 22, _, _, _, _, _⟩) (v := undef) rfl (by kernel_rfl) (by kernel_rfl) (by kernel_rfl) (fun _ _ _ h => h) (Or.inr ⟨by kernel_rfl, rfl⟩) (by assumption) ?_
          try simp only [Act.put, List.setIfInBounds_toArray, List.set_cons_zero, List.set_cons_succ]
          refine wpAnyH_take (i := 7) (oi := ⟨some 23, _, _, _, _, _⟩) (v := undef) rfl (by kernel_rfl) (by kernel_rfl) (by kernel_rfl) (fun _ _ _ h => h) (Or.inr ⟨by kernel_rfl, rfl⟩) (by assumption) ?_
          try simp only [Act.put, List.setIfInBounds_toArray, List.set_cons_zero, List.set_cons_succ]
          refine wpAnyH_take (i := 8) (oi := ⟨some 24, _, _, _, _, _⟩) (v := undef) rfl (by kernel_rfl) (by kernel_rfl) (by kernel_rfl) (fun _ _ _ h => h) (Or.inr ⟨by kernel_rfl, rfl⟩) (by assumption) ?_
          try simp only [Act.put, List.setIfInBounds_toArray, List.set_cons_zero, List.set_cons_succ]
          refine wpAnyH_take (i := 9) (oi := ⟨some 25, _, _, _, _, _⟩) (v := ?_) rfl (by kernel_rfl) (by kernel_rfl) (by kernel_rfl) (fun _ _ _ h => h) (Or.inl ⟨by kernel_rfl, ?_⟩) (by assumption) ?_
          rotate_left
          · (intro w hSw; (try dsimp only at hSw); go_simp; (try with_reducible rfl))
          try simp only [Act.put, List.setIfInBounds_toArray, List.set_cons_zero, List.set_cons_succ]
          refine wpAnyH_take (i := 10) (oi := ⟨some 26, _, _, _, _, _⟩) (v := ?_) rfl (by kernel_rfl) (by kernel_rfl) (by kernel_rfl) (fun _ _ _ h => h) (Or.inl ⟨by kernel_rfl, ?_⟩) (by assumption) ?_
          rotate_left
          · (intro w hSw; (try dsimp only at hSw); go_simp; (try with_reducible rfl))
          try simp only [Act.put, List.setIfInBounds_toArray, List.set_cons_zero, List.set_cons_succ]
          refine wpAnyH_take (i := 11) (oi := ⟨some 27, _, _, _, _, _⟩) (v := undef) rfl (by kernel_rfl) (by kernel_rfl) (by kernel_rfl) (fun _ _ _ h => h) (Or.inr ⟨by kernel_rfl, rfl⟩) (by assumption) ?_
          try simp only [Act.put, List.setIfInBounds_toArray, List.set_cons_zero, List.set_cons_succ]
          refine wpAnyH_take (i := 12) (oi := ⟨some 28, _, _, _, _, _⟩) (v := undef) rfl (by kernel_rfl) (by kernel_rfl) (by kernel_rfl) (fun _ _ _ h => h) (Or.inr ⟨by kernel_rfl, rfl⟩) (by assumption) ?_
          try simp only [Act.put, List.setIfInBounds_toArray, List.set_cons_zero, List.set_cons_succ]
          refine wpAnyH_take (i := 13) (oi := ⟨some 29, _, _, _, _, _⟩) (v := undef) rfl (by kernel_rfl) (by kernel_rfl) (by kernel_rfl) (fun _ _ _ h => h) (Or.inr ⟨by kernel_rfl, rfl⟩) (by assumption) ?_
          try simp only [Act.put, List.setIfInBounds_toArray, List.set_cons_zero, List.set_cons_succ]
          refine wpAnyH_take (i := 14) (oi := ⟨some 30, _, _, _, _, _⟩) (v := ?_) rfl (by kernel_rfl) (by kernel_rfl) (by kernel_rfl) (fun _ _ _ h => h) (Or.inl ⟨by kernel_rfl, ?_⟩) (by assumption) ?_
          rotate_left
          · (intro w hSw; (try dsimp only at hSw); go_simp; (try with_reducible rfl))
          try simp only [Act.put, List.setIfInBounds_toArray, List.set_cons_zero, List.set_cons_succ]
          refine wpAnyH_done (by kernel_rfl) ?_ _
          have HNo := Lib.hid (show ¬ Sound vs from fun h => hz (by have := (h.2 v (List.mem_of_getElem? HV.out)).1; rwa [HLL.out] at this))
          clear hHeld1 hHeld2 q0 q1 q2
          go_wp2_with fail
          go_ret
          exact ⟨false, rfl, ⟨(fun h => by cases h), fun h => absurd h HNo.out⟩, chain HB.out HB3.out⟩
      · obtain rfl : k = i := by omega
        have hall : Sound vs := HS.out.1 fun v hv => by
          obtain ⟨j, hj, rfl⟩ := List.getElem_of_mem hv
          exact HG.out j _ (by have := HK.out; omega) (List.getElem?_eq_getElem hj)
        have HA := Lib.hid hall
        have HBL := Lib.hid hbl
        clear hall hbl
        go_wp2_with fail
        go_ret
        exact ⟨true, rfl, ⟨fun _ => HA.out, fun _ => rfl⟩, chain HB.out HBL.out⟩
  · have hd : decide (21 < (vs.length : Int)) = true := by simp; omega
    have HN := Lib.hid (show ¬ Sound vs from fun h => h21 h.1)
    clear hM h21
    generalize vs.length = k at *
    go_enter Try.func59, Try.ntmps59
    go_wp2_with fail
    go_ret
    exact ⟨false, rfl, ⟨(fun h => by cases h), fun h => absurd h HN.out⟩, bnew _ _⟩

theorem wmay_yes (A : Option Addr) (vs : List Lev) (c : Nat) (w : World) (hS : Sound vs) (hM : Mat w w.heap.size A vs) :
    Calls Try.prog 59 #[.agg #[.slice A vs.length c]] w fun e w' => e = .returned (.bool true) ∧ Below w.heap.size w w' :=
  (wmay_any A vs c w (by have := hS.1; omega) hM).mono fun _ _ ⟨r, he, hr, hb⟩ => ⟨by rw [he, hr.2 hS], hb⟩
theorem wmay_no (A : Option Addr) (vs : List Lev) (c : Nat) (w : World) (hk : vs.length ≤ 17592186044416) (hS : ¬ Sound vs) (hM : Mat w w.heap.size A vs) :
    Calls Try.prog 59 #[.agg #[.slice A vs.length c]] w fun e w' => e = .returned (.bool false) ∧ Below w.heap.size w w' :=
  (wmay_any A vs c w hk hM).mono fun _ _ ⟨r, he, hr, hb⟩ => ⟨by cases r with | false => exact he | true => exact absurd (hr.1 rfl) hS, hb⟩

/-- A valid matrix of n numbers. -/
structure WV (n : Nat) (vs : List Lev) : Prop where
  few : vs.length ≤ 21
  hi : n ≤ 300
  len : lenOf vs = n
  each : ∀ v ∈ vs, v.n = (n : Int) ∧ Valid n v.ws
theorem WV.sound {n : Nat} {vs : List Lev} (h : WV n vs) : Sound vs :=
  ⟨h.few, fun v hv => ⟨by rw [h.len]; exact (h.each v hv).1, by have := (h.each v hv).1; have := h.hi; omega, n, (h.each v hv).1, (h.each v hv).2⟩⟩
theorem Sound.wv {vs : List Lev} (h : Sound vs) : ∃ n, WV n vs := by
  cases vs with
  | nil => exact ⟨0, h.1, by omega, rfl, fun v hv => by cases hv⟩
  | cons v r =>
    obtain ⟨h1, h2, m, h3, h4⟩ := h.2 v (by simp)
    refine ⟨m, h.1, by omega, h3, fun u hu => ?_⟩
    obtain ⟨g1, g2, k, g3, g4⟩ := h.2 u hu
    have e : u.n = (m : Int) := by rw [g1]; exact h3
    have ek : k = m := by omega
    exact ⟨e, by rw [← ek]; exact g4⟩
/-- The levels, each as a function. -/
def fns (vs : List Lev) : List (Nat → Bool) := vs.map fun v => bit v.ws
theorem fns_length (vs : List Lev) : (fns vs).length = vs.length := by simp [fns]
theorem fns_drop (vs : List Lev) (i : Nat) (v : Lev) (h : vs[i]? = some v) : (fns vs).drop i = bit v.ws :: (fns vs).drop (i + 1) := by
  obtain ⟨hi, rfl⟩ := List.getElem?_eq_some_iff.1 h
  unfold fns
  rw [List.drop_eq_getElem_cons (by simpa using hi)]
  simp

/-- wave.check of what is not valid. -/
theorem wcheck_form (A : Option Addr) (vs : List Lev) (c : Nat) (a b : Int) (w : World) (hk : vs.length ≤ 17592186044416) (hS : ¬ Sound vs) (hM : Mat w w.heap.size A vs) :
    Calls Try.prog 39 #[.agg #[.slice A vs.length c], .int .i64 a, .int .i64 b] w fun e w' => e = .returned (.int .i64 4) ∧ Below w.heap.size w w' := by
  have HMy := Lib.hid (fun W hW => wmay_no A vs c W hk hS hW)
  have HM := Lib.hid hM
  clear hM hS
  generalize vs.length = k at *
  go_enter Try.func39, Try.ntmps39
  go_wp2_with fail
  refine (HMy.out _ (by exact HM.out.alloc _)).mono ?_
  rintro e w1 ⟨rfl, hb1⟩
  go_wp2
  go_ret
  exact ⟨rfl, chain (bnew _ _) hb1⟩

set_option maxHeartbeats 1000000 in
/-- wave.check of a range that is none. -/
theorem wcheck_out (A : Option Addr) (vs : List Lev) (c : Nat) (a b : Int) (w : World) (hS : Sound vs) (hM : Mat w w.heap.size A vs) (h : a < 0 ∨ b < a ∨ lenOf vs < b) :
    Calls Try.prog 39 #[.agg #[.slice A vs.length c], .int .i64 a, .int .i64 b] w fun e w' => e = .returned (.int .i64 2) ∧ Below w.heap.size w w' := by
  have HMy := Lib.hid (fun W hW => wmay_yes A vs c W hS hW)
  have HLn := Lib.hid (fun W hW => length_any A vs c W hW)
  have HM := Lib.hid hM
  clear hM hS
  generalize vs.length = k at *
  generalize lenOf vs = L at *
  have hh : a < 0 ∨ (¬ a < 0 ∧ b < a) ∨ (¬ a < 0 ∧ ¬ b < a ∧ L < b) := by omega
  clear h
  rcases hh with h0 | ⟨h0, h1⟩ | ⟨h0, h1, h2⟩
  all_goals
    go_enter Try.func39, Try.ntmps39
    go_wp2_with fail
    refine (HMy.out _ (by exact HM.out.alloc _)).mono ?_
    rintro e w1 ⟨rfl, hb1⟩
    have hc1 := bcell hb1
    have HMr := Lib.hid ((HM.out.alloc (.cells #[.slice A k c] 45)).on hb1)
    have HB := Lib.hid (chain (bnew _ _) hb1)
    clear hb1
    go_wp2_with (go_at_call 60; refine (HLn.out _ (by exact HMr.out)).mono ?_; rintro e w2 ⟨rfl, hb2⟩)
    go_ret
    first | exact ⟨rfl, HB.out⟩ | exact ⟨rfl, chain HB.out hb2⟩

set_option maxHeartbeats 1000000 in
/-- wave.check of a range. -/
theorem wcheck_in (A : Option Addr) (vs : List Lev) (c : Nat) (a b : Int) (w : World) (hS : Sound vs) (hM : Mat w w.heap.size A vs) (h0 : 0 ≤ a) (h1 : a ≤ b) (h2 : b ≤ lenOf vs) :
    Calls Try.prog 39 #[.agg #[.slice A vs.length c], .int .i64 a, .int .i64 b] w fun e w' => e = .returned (.int .i64 0) ∧ Below w.heap.size w w' := by
  have HMy := Lib.hid (fun W hW => wmay_yes A vs c W hS hW)
  have HLn := Lib.hid (fun W hW => length_any A vs c W hW)
  have HM := Lib.hid hM
  clear hM hS
  generalize vs.length = k at *
  generalize lenOf vs = L at *
  have d0 : decide (a < 0) = false := by simp; omega
  have d1 : decide (b < a) = false := by simp; omega
  have d2 : decide (L < b) = false := by simp; omega
  go_enter Try.func39, Try.ntmps39
  go_wp2_with fail
  refine (HMy.out _ (by exact HM.out.alloc _)).mono ?_
  rintro e w1 ⟨rfl, hb1⟩
  have hc1 := bcell hb1
  have HMr := Lib.hid ((HM.out.alloc (.cells #[.slice A k c] 45)).on hb1)
  have HB := Lib.hid (chain (bnew _ _) hb1)
  clear hb1
  go_wp2_with (go_at_call 60; refine (HLn.out _ (by exact HMr.out)).mono ?_; rintro e w2 ⟨rfl, hb2⟩)
  go_ret
  exact ⟨rfl, chain HB.out hb2⟩
end Go.Proofs.Ytpkclmfadlkbeaa

namespace Go.Proofs.Ytpkclmfadlkbeaa
open Go.RowKit Words

theorem mod_step (y q : Nat) : y % 2 ^ (q + 1) = (y.testBit q).toNat * 2 ^ q + y % 2 ^ q := by
  rw [Nat.pow_succ, Nat.mod_mul, Nat.toNat_testBit, Nat.mul_comm, Nat.add_comm]
theorem less_zero_step (n : Nat) (b : Nat → Bool) (bs : List (Nat → Bool)) (y q f t : Nat) (hq : bs.length = q) (h : y.testBit q = false) :
    less n (b :: bs) (y % 2 ^ (q + 1)) f t = less n bs (y % 2 ^ q) (f - tally b f) (t - tally b t) ∧ same n (b :: bs) (y % 2 ^ (q + 1)) f t = same n bs (y % 2 ^ q) (f - tally b f) (t - tally b t) := by
  have hl : y % 2 ^ q < 2 ^ bs.length := by rw [hq]; exact Nat.mod_lt _ (Nat.two_pow_pos q)
  rw [mod_step, h]
  simp only [Bool.toNat_false, Nat.zero_mul, Nat.zero_add]
  exact ⟨less_zero_digit n b bs _ hl f t, same_zero_digit n b bs _ hl f t⟩
theorem less_one_step (n : Nat) (b : Nat → Bool) (bs : List (Nat → Bool)) (y q f t : Nat) (hq : bs.length = q) (h : y.testBit q = true) :
    less n (b :: bs) (y % 2 ^ (q + 1)) f t = ((t - tally b t : Nat) : Int) - ((f - tally b f : Nat) : Int) + less n bs (y % 2 ^ q) (zr n b + tally b f) (zr n b + tally b t) ∧ same n (b :: bs) (y % 2 ^ (q + 1)) f t = same n bs (y % 2 ^ q) (zr n b + tally b f) (zr n b + tally b t) := by
  rw [mod_step, h]
  simp only [Bool.toNat_true, Nat.one_mul]
  rw [← hq]
  exact ⟨less_one_digit n b bs _ f t, same_one_digit n b bs _ f t⟩

/-- What compare keeps between its rounds: a: how many are known to be less; f, t: the range in the level i. -/
structure CmAt (w : World) (n k : Nat) (A : Option Addr) (vs : List Lev) (c y : Nat) (LS EQ : Int) (i a f t : Nat) (W : World) : Prop where
  lvl : Blk W w.heap.size 45 [.slice A k c]
  prt : Blk W (w.heap.size + 1) 75 [.int .i64 f, .int .i64 t]
  bel : Below w.heap.size w W
  ft : f ≤ t
  tn : t ≤ n
  ls : LS = (a : Int) + less n ((fns vs).drop i) (y % 2 ^ (k - i)) f t
  eq : EQ = same n ((fns vs).drop i) (y % 2 ^ (k - i)) f t

theorem CmAt.small {w : World} {n k : Nat} {A : Option Addr} {vs : List Lev} {c y : Nat} {LS EQ : Int} {i a f t : Nat} {W : World} (h : CmAt w n k A vs c y LS EQ i a f t W) (hL : LS ≤ n) : a ≤ n := by
  have := h.ls
  have := less_nonneg n ((fns vs).drop i) (y % 2 ^ (k - i)) f t h.ft
  omega

set_option maxHeartbeats 4000000 in
/-- wave.compare of a number that fits into the levels. -/
theorem wcmp_in (n : Nat) (A : Option Addr) (vs : List Lev) (c f t y : Nat) (w : World) (hV : WV n vs) (hM : Mat w w.heap.size A vs) (hft : f ≤ t) (htn : t ≤ n) (hy : y < 2 ^ vs.length) :
    Calls Try.prog 40 #[.agg #[.slice A vs.length c], .agg #[.int .i64 f, .int .i64 t], .int .i64 y] w fun e w' =>
      e = .returned (.tuple #[.int .i64 (less n (fns vs) y f t), .int .i64 (same n (fns vs) y f t)]) ∧ Below w.heap.size w w' := by
  have hk := hV.few
  have hn := hV.hi
  have hLn := less_le n (fns vs) y f t hft
  have hy63 : y < 9223372036854775808 := Nat.lt_of_lt_of_le hy (Nat.le_trans (Nat.pow_le_pow_right (n := 2) (j := 21) (by decide) hk) (by decide))
  have HF := Lib.hid (fits_any y vs.length · hk true (by simpa using hy))
  have HE := Lib.hid hV.each
  have HM := Lib.hid hM
  have hst : ∀ W, Blk W w.heap.size 45 [.slice A vs.length c] → Blk W (w.heap.size + 1) 75 [.int .i64 f, .int .i64 t] → Below w.heap.size w W → CmAt w n vs.length A vs c y (less n (fns vs) y f t) (same n (fns vs) y f t) 0 0 f t W := fun W h1 h2 h3 =>
    ⟨h1, h2, h3, hft, htn, by rw [List.drop_zero, Nat.sub_zero, Nat.mod_eq_of_lt hy]; omega, by rw [List.drop_zero, Nat.sub_zero, Nat.mod_eq_of_lt hy]⟩
  have HST := Lib.hid hst
  have hd : decide ((y : Int) < 0) = false := by simp
  have hfl := fns_length vs
  clear hst hM hV hy
  have hLS : less n (fns vs) y f t ≤ n := by omega
  clear hLn
  generalize less n (fns vs) y f t = LS at *
  generalize same n (fns vs) y f t = EQ at *
  generalize hkk : vs.length = k at *
  have HK := Lib.hid hkk
  have HFL := Lib.hid hfl
  clear hkk hfl
  go_enter Try.func40, Try.ntmps40
  go_wp2_with (go_at_call 34; refine (HF.out _).mono ?_; rintro e w1 ⟨rfl, rfl⟩)
  have hB1 := (Blk.new w 45 [.slice A k c]).alloc (.cells #[.int .i64 f, .int .i64 t] 75)
  have hB2 := Blk.new (w.alloc (.cells #[.slice A k c] 45)) 75 [.int .i64 f, .int .i64 t]
  rw [World.size_alloc] at hB2
  have H0 := Lib.hid (HST.out _ hB1 hB2 (chain (bnew _ _) (bnew _ _)))
  clear hB1 hB2 HST
  generalize (w.alloc (.cells #[.slice A k c] 45)).alloc (.cells #[.int .i64 f, .int .i64 t] 75) = w0 at *
  go_loopw [6, 25] (fun s r w' => ∃ i a f' t' : Nat, i ≤ k ∧ r = .int .i64 i ∧ s = .int .i64 a ∧ CmAt w n k A vs c y LS EQ i a f' t' w') (fun _ r _ => k - (intOf r).toNat)
  case atStart => exact ⟨0, 0, f, t, Nat.zero_le _, rfl, rfl, H0.out⟩
  case round =>
    obtain ⟨i, a, f', t', hi, rfl, rfl, hat⟩ := hrel
    have hab := hat.small hLS
    have hft' := hat.ft
    have htn' := hat.tn
    have hs1 := hat.lvl.lt
    have hs2 := hat.prt.lt
    have q0 : wr.cell? ⟨w.heap.size, 0, none⟩ = some (.slice A k c) := hat.lvl.cell 0
    have q1 : wr.cell? ⟨w.heap.size + 1, 0, none⟩ = some (.int .i64 f') := hat.prt.cell 0
    have q2 : wr.cell? ⟨w.heap.size + 1, 1, none⟩ = some (.int .i64 t') := hat.prt.cell 1
    have HAT := Lib.hid hat
    clear hat
    by_cases hlt : i < k
    · obtain ⟨b, p, v, rfl, hb, hv, hc0, hc1, hWv⟩ := (HM.out.on HAT.out.bel).at_ (i := i) (by rw [HK.out]; exact hlt)
      obtain ⟨hvn, hVv⟩ := HE.out v (List.mem_of_getElem? hv)
      have hdrop := fns_drop vs i v hv
      rw [hvn] at hc0
      obtain ⟨q, hq⟩ : ∃ q, k = i + 1 + q := ⟨k - (i + 1), by omega⟩
      have hqi : (k : Int) - 1 - (i : Int) = (q : Nat) := by omega
      have hql : ((fns vs).drop (i + 1)).length = q := by rw [List.length_drop, HFL.out]; omega
      have HQ := Lib.hid (show k - i = q + 1 by omega)
      have HQ1 := Lib.hid (show k - (i + 1) = q by omega)
      have hq21 : q ≤ 21 := by omega
      have HD := Lib.hid (digit_any y q · hy63 (by omega))
      have HSp := Lib.hid (fun W hW => split_any n f' t' v.adr v.ws v.cap W hVv hW (by omega) htn')
      have hz1 := zeros_mono (bit v.ws) hft'
      have hz2 := tally_mono (bit v.ws) hft'
      have hz3 := tally_mono (bit v.ws) htn'
      have hz4 := tally_le (bit v.ws) n
      have hzr : zr n (bit v.ws) = n - tally (bit v.ws) n := rfl
      have hz5 : zr n (bit v.ws) + tally (bit v.ws) f' ≤ zr n (bit v.ws) + tally (bit v.ws) t' := by omega
      have hz6 : zr n (bit v.ws) + tally (bit v.ws) t' ≤ n := by omega
      have hz7 : t' - tally (bit v.ws) t' ≤ n := by omega
      have HWv := Lib.hid (hWv.alloc (.cells #[.int .i64 n, .slice v.adr v.ws.length v.cap] 67))
      have HDr := Lib.hid hdrop
      have HQL := Lib.hid hql
      have hnew := Lib.hid (bnew wr (.cells #[.int .i64 n, .slice v.adr v.ws.length v.cap] 67))
      unfold splitC at HSp
      clear hv hvn hVv hWv hdrop hql hq hz2 hz3 hz4 hzr
      have HL0 := Lib.hid (fun h => less_zero_step n (bit v.ws) ((fns vs).drop (i + 1)) y q f' t' HQL.out h)
      have HL1 := Lib.hid (fun h => less_one_step n (bit v.ws) ((fns vs).drop (i + 1)) y q f' t' HQL.out h)
      generalize zr n (bit v.ws) + tally (bit v.ws) f' = zf at *
      generalize zr n (bit v.ws) + tally (bit v.ws) t' = zt at *
      generalize f' - tally (bit v.ws) f' = ff at *
      generalize t' - tally (bit v.ws) t' = tt at *
      obtain ⟨dd, hdd⟩ : ∃ dd, tt - ff = dd := ⟨_, rfl⟩
      have HSz := Lib.hid (size_any ff tt · hz1 (by omega) dd hdd)
      have hddn : dd ≤ n := by omega
      have HDD := Lib.hid (show (dd : Int) = (tt : Int) - (ff : Int) by omega)
      obtain ⟨sm, hsm⟩ : ∃ sm, a + dd = sm := ⟨_, rfl⟩
      have hsum : (a : Int) + (dd : Int) = (sm : Int) := by omega
      have HSM := Lib.hid hsm
      clear hdd hsm
      go_wp2_with fail
      refine (HSp.out _ (by exact HWv.out)).mono ?_
      rintro e w3 ⟨rfl, hb3⟩
      have HB3 := Lib.hid (chain hnew.out hb3)
      have l3 := HAT.out.lvl.below HB3.out hs1
      have p3 := HAT.out.prt.below HB3.out hs2
      have hs3 := p3.lt
      have hs4 := l3.lt
      clear q0 q1 q2 hc0 hc1 hnew hb3 HSp HWv hs1 hs2
      have q0 : w3.cell? ⟨w.heap.size, 0, none⟩ = some (.slice (some ⟨b, p, none⟩) k c) := l3.cell 0
      have q1 : w3.cell? ⟨w.heap.size + 1, 0, none⟩ = some (.int .i64 f') := p3.cell 0
      have q2 : w3.cell? ⟨w.heap.size + 1, 1, none⟩ = some (.int .i64 t') := p3.cell 1
      have z1 := p3.frozen 0
      have z2 := p3.frozen 1
      have hbel := Lib.hid ((chain HAT.out.bel HB3.out).alloc (chain HAT.out.bel HB3.out).size (.cells #[.int .i64 ff, .int .i64 tt, .int .i64 zf, .int .i64 zt] 101))
      have l4 := Lib.hid (l3.alloc (.cells #[.int .i64 ff, .int .i64 tt, .int .i64 zf, .int .i64 zt] 101))
      have p4 := Lib.hid (p3.alloc (.cells #[.int .i64 ff, .int .i64 tt, .int .i64 zf, .int .i64 zt] 101))
      have h4 := Lib.hid (Blk.new w3 101 [.int .i64 ff, .int .i64 tt, .int .i64 zf, .int .i64 zt])
      clear l3 p3
      have HDt : Hid (∀ W : World, Calls Try.prog 55 #[.int .i64 y, .int .i64 q] W fun e w' => e = .returned (.int .i64 (if y.testBit q then 1 else 0)) ∧ W = w') := Lib.hid fun W => (HD.out W).mono fun _ _ ⟨he, hw⟩ => ⟨by rw [he]; cases y.testBit q <;> rfl, hw⟩
      clear HD
      cases hbt : y.testBit q
      · rw [hbt] at HDt
        have HL := Lib.hid (HL0.out hbt)
        clear HL0 HL1 hbt HSz hsum
        simp only [Bool.false_eq_true, if_false] at HDt
        go_wp2_with fail
        refine (HDt.out _).mono ?_
        rintro e w5 ⟨rfl, rfl⟩
        generalize w3.alloc (.cells #[.int .i64 ff, .int .i64 tt, .int .i64 zf, .int .i64 zt] 101) = w4 at *
        clear q0 q1 q2 z1 z2
        have q0 : w4.cell? ⟨w.heap.size, 0, none⟩ = some (.slice (some ⟨b, p, none⟩) k c) := l4.out.cell 0
        have q1 : w4.cell? ⟨w.heap.size + 1, 0, none⟩ = some (.int .i64 f') := p4.out.cell 0
        have q2 : w4.cell? ⟨w.heap.size + 1, 1, none⟩ = some (.int .i64 t') := p4.out.cell 1
        have z1 := p4.out.frozen 0
        have z2 := p4.out.frozen 1
        have g0 : w4.cell? ⟨w3.heap.size, 0, none⟩ = some (.int .i64 ff) := h4.out.cell 0
        have g1 : w4.cell? ⟨w3.heap.size, 1, none⟩ = some (.int .i64 tt) := h4.out.cell 1
        go_wp2_with fail
        go_roundw
        case rel => exact ⟨i + 1, a, ff, tt, by omega, by go_num, rfl, (l4.out.far (by simp) _).far (by simp) _, (p4.out.put 0 (.int .i64 ff)).put 1 (.int .i64 tt), (hbel.out.setCell (by simp) _).setCell (by simp) _, hz1, by have := HDD.out; omega, by have h1 := HAT.out.ls; rw [HDr.out, HQ.out, HL.out.1] at h1; rw [HQ1.out]; exact h1, by have h1 := HAT.out.eq; rw [HDr.out, HQ.out, HL.out.2] at h1; rw [HQ1.out]; exact h1⟩
        case measure => simp [intOf]; omega
      · rw [hbt] at HDt
        have HL := Lib.hid (HL1.out hbt)
        clear HL0 HL1 hbt
        simp only [if_true] at HDt
        go_wp2_with fail
        refine (HDt.out _).mono ?_
        rintro e w5 ⟨rfl, rfl⟩
        generalize w3.alloc (.cells #[.int .i64 ff, .int .i64 tt, .int .i64 zf, .int .i64 zt] 101) = w4 at *
        clear q0 q1 q2 z1 z2
        have g0 : w4.cell? ⟨w3.heap.size, 0, none⟩ = some (.int .i64 ff) := h4.out.cell 0
        have g1 : w4.cell? ⟨w3.heap.size, 1, none⟩ = some (.int .i64 tt) := h4.out.cell 1
        go_wp2_with fail
        refine (HSz.out _).mono ?_
        rintro e w6 ⟨rfl, hb6⟩
        have l6 := Lib.hid (l4.out.below hb6 l4.out.lt)
        have p6 := Lib.hid (p4.out.below hb6 p4.out.lt)
        have h6 := Lib.hid (h4.out.below hb6 h4.out.lt)
        have hb6' := Lib.hid (chain hbel.out hb6)
        clear g0 g1 hb6 HSz
        have q0 : w6.cell? ⟨w.heap.size, 0, none⟩ = some (.slice (some ⟨b, p, none⟩) k c) := l6.out.cell 0
        have q1 : w6.cell? ⟨w.heap.size + 1, 0, none⟩ = some (.int .i64 f') := p6.out.cell 0
        have q2 : w6.cell? ⟨w.heap.size + 1, 1, none⟩ = some (.int .i64 t') := p6.out.cell 1
        have z1 := p6.out.frozen 0
        have z2 := p6.out.frozen 1
        have g2 : w6.cell? ⟨w3.heap.size, 2, none⟩ = some (.int .i64 zf) := h6.out.cell 2
        have g3 : w6.cell? ⟨w3.heap.size, 3, none⟩ = some (.int .i64 zt) := h6.out.cell 3
        go_wp2_with fail
        go_roundw
        case rel => exact ⟨i + 1, sm, zf, zt, by omega, by go_num, rfl, (l6.out.far (by simp) _).far (by simp) _, (p6.out.put 0 (.int .i64 zf)).put 1 (.int .i64 zt), (hb6'.out.setCell (by simp) _).setCell (by simp) _, hz5, hz6, by have h1 := HAT.out.ls; have h2 := HDD.out; have h3 := HSM.out; rw [HDr.out, HQ.out, HL.out.1] at h1; rw [HQ1.out]; omega, by have h1 := HAT.out.eq; rw [HDr.out, HQ.out, HL.out.2] at h1; rw [HQ1.out]; exact h1⟩
        case measure => simp [intOf]; omega
    · obtain rfl : k = i := by omega
      have hd0 : (fns vs).drop k = [] := List.drop_eq_nil_of_le (by rw [HFL.out]; exact Nat.le_refl _)
      have e1 := HAT.out.ls
      have e2 := HAT.out.eq
      rw [hd0, Nat.sub_self, Nat.pow_zero, Nat.mod_one] at e1 e2
      rw [less_nil] at e1
      rw [same_nil] at e2
      obtain rfl : LS = (a : Int) := by omega
      obtain ⟨d, hdt⟩ : ∃ d, t' - f' = d := ⟨_, rfl⟩
      obtain rfl : EQ = (d : Int) := by omega
      have HSz := Lib.hid (size_any f' t' · hft' (by omega) d hdt)
      have HB := Lib.hid HAT.out.bel
      clear hd0 e1 e2 hdt
      go_wp2_with fail
      refine (HSz.out _).mono ?_
      rintro e w6 ⟨rfl, hb6⟩
      go_wp2_with fail
      go_ret2
      exact ⟨rfl, chain HB.out hb6⟩

/-- wave.compare of a number that is too small or too great for any. -/
theorem wcmp_neg (k : Nat) (A : Option Addr) (c f t : Nat) (x : Int) (w : World) (hx : x < 0) :
    Calls Try.prog 40 #[.agg #[.slice A k c], .agg #[.int .i64 f, .int .i64 t], .int .i64 x] w fun e w' =>
      e = .returned (.tuple #[.int .i64 0, .int .i64 0]) ∧ Below w.heap.size w w' := by
  go_enter Try.func40, Try.ntmps40
  go_wp2_with fail
  go_ret2
  exact ⟨rfl, chain (bnew _ _) (bnew _ _)⟩
theorem wcmp_big (k : Nat) (A : Option Addr) (c f t y d : Nat) (w : World) (hk : k ≤ 21) (hft : f ≤ t) (ht : t ≤ 300) (hy : 2 ^ k ≤ y) (hd : t - f = d) :
    Calls Try.prog 40 #[.agg #[.slice A k c], .agg #[.int .i64 f, .int .i64 t], .int .i64 y] w fun e w' =>
      e = .returned (.tuple #[.int .i64 d, .int .i64 0]) ∧ Below w.heap.size w w' := by
  have HF := Lib.hid (fits_any y k · hk false (by simpa using hy))
  have HSz := Lib.hid (size_any f t · hft (by omega) d hd)
  have h0 : decide ((y : Int) < 0) = false := by simp
  clear hd hy
  go_enter Try.func40, Try.ntmps40
  go_wp2_with (first
    | (go_at_call 34; refine (HF.out _).mono ?_; rintro e w1 ⟨rfl, rfl⟩)
    | (go_at_call 61; refine (HSz.out _).mono ?_; rintro e w6 ⟨rfl, hb6⟩))
  go_ret2
  exact ⟨rfl, chain (chain (bnew _ _) (bnew _ _)) hb6⟩

/-- wave.compare, whatever the number. -/
theorem wcmp_any (n : Nat) (A : Option Addr) (vs : List Lev) (c f t : Nat) (x : Int) (w : World) (hV : WV n vs) (hM : Mat w w.heap.size A vs) (hft : f ≤ t) (htn : t ≤ n) :
    Calls Try.prog 40 #[.agg #[.slice A vs.length c], .agg #[.int .i64 f, .int .i64 t], .int .i64 x] w fun e w' =>
      e = .returned (.tuple #[.int .i64 (lessI n (fns vs) x f t), .int .i64 (sameI n (fns vs) x f t)]) ∧ Below w.heap.size w w' := by
  by_cases hx : x < 0
  · rw [lessI_neg n (fns vs) x hx, sameI_neg n (fns vs) x hx]
    exact wcmp_neg vs.length A c f t x w hx
  · obtain ⟨y, rfl⟩ : ∃ y : Nat, x = y := ⟨x.toNat, by omega⟩
    rw [lessI_nat, sameI_nat]
    by_cases hy : y < 2 ^ vs.length
    · exact wcmp_in n A vs c f t y w hV hM hft htn hy
    · rw [less_big n (fns vs) y (by rw [fns_length]; omega), same_big n (fns vs) y (by rw [fns_length]; omega), show (t : Int) - (f : Int) = ((t - f : Nat) : Int) by omega]
      exact wcmp_big vs.length A c f t y _ w hV.few hft (by have := hV.hi; omega) (by omega) rfl
end Go.Proofs.Ytpkclmfadlkbeaa

namespace Go.Proofs.Ytpkclmfadlkbeaa
open Go.RowKit Words

theorem kv_zero_step (n : Nat) (b : Nat → Bool) (bs : List (Nat → Bool)) (f t m : Nat) (h : m < (t - tally b t) - (f - tally b f)) : kv n (b :: bs) f t m = kv n bs (f - tally b f) (t - tally b t) m := by rw [kv, if_pos h]
theorem kv_one_step (n : Nat) (b : Nat → Bool) (bs : List (Nat → Bool)) (f t m : Nat) (h : ¬ m < (t - tally b t) - (f - tally b f)) : kv n (b :: bs) f t m = 2 ^ bs.length + kv n bs (zr n b + tally b f) (zr n b + tally b t) (m - ((t - tally b t) - (f - tally b f))) := by rw [kv, if_neg h]

/-- What kth keeps between its rounds: x: the digits so far; f, t: the range in the level i; m: the index in it. -/
structure KtAt (w : World) (n k : Nat) (A : Option Addr) (vs : List Lev) (c V : Nat) (i x f t m : Nat) (W : World) : Prop where
  lvl : Blk W w.heap.size 45 [.slice A k c]
  prt : Blk W (w.heap.size + 1) 75 [.int .i64 f, .int .i64 t]
  bel : Below w.heap.size w W
  ft : m < t - f
  tn : t ≤ n
  xl : x < 2 ^ i
  eq : V = x * 2 ^ (k - i) + kv n ((fns vs).drop i) f t m

end Go.Proofs.Ytpkclmfadlkbeaa

namespace Go.Proofs.Ytpkclmfadlkbeaa
open Go.RowKit Words

/-- The answers, of a valid matrix of n numbers. -/
def atV10 (n : Nat) (bs : List (Nat → Bool)) (i : Int) : Int := if 0 ≤ i ∧ i < n then (val n bs i.toNat : Int) else 0
def atE10 (n : Nat) (i : Int) : Int := if 0 ≤ i ∧ i < n then 0 else 2
def rankV10 (n : Nat) (bs : List (Nat → Bool)) (x i : Int) : Int := if 0 ≤ i ∧ i ≤ n then sameI n bs x 0 i.toNat else 0
def rankE10 (n : Nat) (i : Int) : Int := if 0 ≤ i ∧ i ≤ n then 0 else 2
def belV10 (n : Nat) (bs : List (Nat → Bool)) (a b x : Int) : Int := if 0 ≤ a ∧ a ≤ b ∧ b ≤ n then lessI n bs x a.toNat b.toNat else 0
def belE10 (n : Nat) (a b : Int) : Int := if 0 ≤ a ∧ a ≤ b ∧ b ≤ n then 0 else 2
def kthV10 (n : Nat) (bs : List (Nat → Bool)) (a b k : Int) : Int := if (0 ≤ a ∧ a ≤ b ∧ b ≤ n) ∧ 0 ≤ k ∧ k < b - a then (kv n bs a.toNat b.toNat k.toNat : Int) else 0
def kthE10 (n : Nat) (a b k : Int) : Int := if (0 ≤ a ∧ a ≤ b ∧ b ≤ n) ∧ 0 ≤ k then (if k < b - a then 0 else 7) else 2
def nextV10 (n : Nat) (bs : List (Nat → Bool)) (a b x : Int) : Int := if (0 ≤ a ∧ a ≤ b ∧ b ≤ n) ∧ lessI n bs x a.toNat b.toNat < b - a then (kv n bs a.toNat b.toNat (lessI n bs x a.toNat b.toNat).toNat : Int) else 0
def nextE10 (n : Nat) (bs : List (Nat → Bool)) (a b x : Int) : Int := if 0 ≤ a ∧ a ≤ b ∧ b ≤ n then (if lessI n bs x a.toNat b.toNat < b - a then 0 else 7) else 2

/-- wave.Below of what is not valid. -/
theorem wbel_form (A : Option Addr) (vs : List Lev) (c : Nat) (a b x : Int) (w : World) (hk : vs.length ≤ 17592186044416) (hS : ¬ Sound vs) (hM : Mat w w.heap.size A vs) :
    Calls Try.prog 20 #[.agg #[.slice A vs.length c], .int .i64 a, .int .i64 b, .int .i64 x] w fun e w' => e = .returned (.tuple #[.int .i64 0, .int .i64 4]) ∧ Below w.heap.size w w' := by
  have HC := Lib.hid (fun W hW => wcheck_form A vs c a b W hk hS hW)
  have HM := Lib.hid hM
  clear hM hS
  generalize vs.length = k at *
  go_enter Try.func20, Try.ntmps20
  go_wp2_with fail
  refine (HC.out _ (by exact HM.out.alloc _)).mono ?_
  rintro e w1 ⟨rfl, hb1⟩
  go_wp2
  go_ret2
  exact ⟨rfl, chain (bnew _ _) hb1⟩

/-- wave.Below out of range. -/
theorem wbel_out (n : Nat) (A : Option Addr) (vs : List Lev) (c : Nat) (a b x : Int) (w : World) (hV : WV n vs) (hM : Mat w w.heap.size A vs) (h : a < 0 ∨ b < a ∨ (n : Int) < b) :
    Calls Try.prog 20 #[.agg #[.slice A vs.length c], .int .i64 a, .int .i64 b, .int .i64 x] w fun e w' => e = .returned (.tuple #[.int .i64 0, .int .i64 2]) ∧ Below w.heap.size w w' := by
  have HC := Lib.hid (fun W hW => wcheck_out A vs c a b W hV.sound hW (by rw [hV.len]; omega))
  have HM := Lib.hid hM
  clear hM hV h
  generalize vs.length = k at *
  go_enter Try.func20, Try.ntmps20
  go_wp2_with fail
  refine (HC.out _ (by exact HM.out.alloc _)).mono ?_
  rintro e w1 ⟨rfl, hb1⟩
  go_wp2
  go_ret2
  exact ⟨rfl, chain (bnew _ _) hb1⟩

/-- wave.Below. -/
theorem wbel_in (n : Nat) (A : Option Addr) (vs : List Lev) (c a b : Nat) (x : Int) (w : World) (hV : WV n vs) (hM : Mat w w.heap.size A vs) (hab : a ≤ b) (hb : b ≤ n) :
    Calls Try.prog 20 #[.agg #[.slice A vs.length c], .int .i64 a, .int .i64 b, .int .i64 x] w fun e w' => e = .returned (.tuple #[.int .i64 (lessI n (fns vs) x a b), .int .i64 0]) ∧ Below w.heap.size w w' := by
  have HC := Lib.hid (fun W hW => wcheck_in A vs c a b W hV.sound hW (by omega) (by omega) (by rw [hV.len]; omega))
  have HP := Lib.hid (fun W hW => wcmp_any n A vs c a b x W hV hW hab hb)
  clear hV
  generalize sameI n (fns vs) x a b = V at *
  generalize lessI n (fns vs) x a b = U at *
  have HM := Lib.hid hM
  clear hM
  generalize vs.length = k at *
  go_enter Try.func20, Try.ntmps20
  go_wp2_with fail
  refine (HC.out _ (by exact HM.out.alloc _)).mono ?_
  rintro e w1 ⟨rfl, hb1⟩
  have hc1 := bcell hb1
  have HMr := Lib.hid ((HM.out.alloc (.cells #[.slice A k c] 45)).on hb1)
  have HB := Lib.hid (chain (bnew _ _) hb1)
  have hz1 : w.heap.size < w1.heap.size := by have := hb1.size; simp at this; omega
  clear hb1
  go_wp2_with fail
  refine (HP.out _ (by exact HMr.out)).mono ?_
  rintro e w2 ⟨rfl, hb2⟩
  go_wp2
  go_ret2
  exact ⟨rfl, chain HB.out hb2⟩
theorem wbel_any (n : Nat) (A : Option Addr) (vs : List Lev) (c : Nat) (a b x : Int) (w : World) (hV : WV n vs) (hM : Mat w w.heap.size A vs) :
    Calls Try.prog 20 #[.agg #[.slice A vs.length c], .int .i64 a, .int .i64 b, .int .i64 x] w fun e w' => e = .returned (.tuple #[.int .i64 (belV10 n (fns vs) a b x), .int .i64 (belE10 n a b)]) ∧ Below w.heap.size w w' := by
  unfold belV10 belE10
  by_cases h : 0 ≤ a ∧ a ≤ b ∧ b ≤ n
  · rw [if_pos h, if_pos h]
    obtain ⟨i, rfl⟩ : ∃ i : Nat, a = i := ⟨a.toNat, by omega⟩
    obtain ⟨j, rfl⟩ : ∃ j : Nat, b = j := ⟨b.toNat, by omega⟩
    exact wbel_in n A vs c i j x w hV hM (by omega) (by omega)
  · rw [if_neg h, if_neg h]
    exact wbel_out n A vs c a b x w hV hM (by omega)

theorem lessI_le (n : Nat) (bs : List (Nat → Bool)) (x : Int) (f t : Nat) (h : f ≤ t) : lessI n bs x f t ≤ (t : Int) - f := num_le _ _ _ _ _ h
theorem lessI_nonneg (n : Nat) (bs : List (Nat → Bool)) (x : Int) (f t : Nat) (h : f ≤ t) : 0 ≤ lessI n bs x f t := num_nonneg _ _ _ _ _ h
end Go.Proofs.Ytpkclmfadlkbeaa

namespace Go.Proofs.Ytpkclmfadlkbeaa
open Go.RowKit Words

/-- The numbers in the order of the level i. -/
def lst : Nat → Nat → List Nat → List Nat
  | _, 0, l => l
  | 0, _ + 1, l => l
  | L + 1, i + 1, l => lst L i (nxt L l)
theorem lst_zero (L : Nat) (l : List Nat) : lst L 0 l = l := by cases L <;> rfl
theorem lst_length (L : Nat) : ∀ i l, (lst L i l).length = l.length := by
  induction L with
  | zero => intro i l; cases i <;> rfl
  | succ L ih =>
    intro i l
    cases i with
    | zero => rfl
    | succ i => rw [lst, ih, nxt_length]
theorem lst_succ (L : Nat) : ∀ i l, i < L → lst L (i + 1) l = nxt (L - 1 - i) (lst L i l) := by
  induction L with
  | zero => intro i l h; omega
  | succ L ih =>
    intro i l h
    cases i with
    | zero =>
      show lst L 0 (nxt L l) = nxt L l
      rw [lst_zero]
    | succ i =>
      rw [lst, ih i _ (by omega), lst]
      congr 1
      omega
theorem levs_at (L : Nat) : ∀ i l, i < L → (levs L l)[i]? = some (digs10 (L - 1 - i) (lst L i l)) := by
  induction L with
  | zero => intro i l h; omega
  | succ L ih =>
    intro i l h
    cases i with
    | zero => rfl
    | succ i =>
      rw [levs, List.getElem?_cons_succ, ih i _ (by omega), lst]
      congr 2
      omega
theorem nxt_mem (p : Nat) (l : List Nat) (x : Nat) (h : x ∈ nxt p l) : x ∈ l := by
  unfold nxt at h
  rcases List.mem_append.1 h with h | h
  · exact (List.mem_filter.1 h).1
  · exact (List.mem_filter.1 h).1
theorem lst_mem (L : Nat) : ∀ i l x, x ∈ lst L i l → x ∈ l := by
  induction L with
  | zero => intro i l x h; cases i <;> exact h
  | succ L ih =>
    intro i l x h
    cases i with
    | zero => exact h
    | succ i => exact nxt_mem L l x (ih i _ x h)

/-- The levels vs are those of these rows of n bits. -/
def MadeOf (n : Nat) (rs : List (List Bool)) (vs : List Lev) : Prop := vs.map (fun v => (v.n, v.ws)) = rs.map fun r => ((n : Int), rowOf r)
theorem MadeOf.length {n : Nat} {rs : List (List Bool)} {vs : List Lev} (h : MadeOf n rs vs) : vs.length = rs.length := by
  have := congrArg List.length h
  simpa using this
theorem MadeOf.at_ {n : Nat} {rs : List (List Bool)} {vs : List Lev} (h : MadeOf n rs vs) {i : Nat} {v : Lev} (hv : vs[i]? = some v) : ∃ r, rs[i]? = some r ∧ v.n = (n : Int) ∧ v.ws = rowOf r := by
  have h1 : (vs.map fun v => (v.n, v.ws))[i]? = some (v.n, v.ws) := by rw [List.getElem?_map, hv]; rfl
  rw [h, List.getElem?_map] at h1
  cases hr : rs[i]? with
  | none => rw [hr] at h1; cases h1
  | some r =>
    rw [hr] at h1
    have h2 := Option.some.inj h1
    simp only [Prod.mk.injEq] at h2
    exact ⟨r, rfl, h2.1.symm, h2.2.symm⟩
theorem MadeOf.fns {n : Nat} {rs : List (List Bool)} {vs : List Lev} (h : MadeOf n rs vs) : fns vs = rs.map lf := by
  have h1 := congrArg (List.map fun q : Int × List Nat => bit q.2) h
  rw [List.map_map, List.map_map] at h1
  unfold Go.Proofs.Ytpkclmfadlkbeaa.fns
  rw [show (vs.map fun v => bit v.ws) = vs.map ((fun q : Int × List Nat => bit q.2) ∘ fun v => (v.n, v.ws)) from rfl, h1]
  exact List.map_congr_left fun r _ => bit_rowOf r
theorem rowOf_valid (r : List Bool) (h : r.length ≤ 4096) : Valid r.length (rowOf r) := by
  refine ⟨h, rowOf_length r, fun i h1 h2 => ?_⟩
  rw [bit_rowOf]
  unfold lf
  rw [List.getD_eq_getElem?_getD, List.getElem?_eq_none h1]
  rfl
/-- A matrix that was made of a list, of one level at least. -/
theorem made_wv {L : Nat} {ns : List Nat} {vs : List Lev} (h : MadeOf ns.length (levs L ns) vs) (h0 : 0 < L) (hL : L ≤ 21) (hn : ns.length ≤ 300) : WV ns.length vs := by
  have hl := h.length
  rw [levs_length] at hl
  refine ⟨by omega, hn, ?_, fun v hv => ?_⟩
  · cases vs with
    | nil => simp at hl; omega
    | cons v r =>
      obtain ⟨_, _, h1, _⟩ := h.at_ (i := 0) (v := v) rfl
      exact h1
  · obtain ⟨i, hi⟩ := List.getElem?_of_mem hv
    obtain ⟨r, hr, h1, h2⟩ := h.at_ hi
    have hrl := levs_each L ns r (List.mem_of_getElem? hr)
    refine ⟨h1, ?_⟩
    rw [h2, ← hrl]
    exact rowOf_valid r (by omega)
/-- Its numbers. -/
theorem made_val {L : Nat} {ns : List Nat} {vs : List Lev} (h : MadeOf ns.length (levs L ns) vs) (hx : ∀ x ∈ ns, x < 2 ^ L) (i x : Nat) (hi : ns[i]? = some x) : val ns.length (fns vs) i = x := by
  rw [h.fns, val_levs L ns i x hi]
  exact Nat.mod_eq_of_lt (hx x (List.mem_of_getElem? hi))
theorem made_lsI {L : Nat} {ns : List Nat} {vs : List Lev} (h : MadeOf ns.length (levs L ns) vs) (hx : ∀ x ∈ ns, x < 2 ^ L) : lsI ns.length (fns vs) = ns.map fun x : Nat => (x : Int) := by
  apply List.ext_getElem?
  intro i
  by_cases hi : i < ns.length
  · rw [lsI_at _ _ _ hi, List.getElem?_map, List.getElem?_eq_getElem hi, made_val h hx i _ (List.getElem?_eq_getElem hi)]
    rfl
  · rw [List.getElem?_eq_none (by rw [lsI_length]; omega), List.getElem?_eq_none (by simp; omega)]

/-- An empty level. -/
def lev0 : Lev := ⟨0, none, [], 0⟩
theorem made_levs (L : Nat) : madeCells #[.int .i64 0, .slice none 0 0] (L * 2) = (levC (List.replicate L lev0)).toArray := by
  apply Array.ext
  · simp [madeCells, levC_length]
  · intro i h1 h2
    have hi : i < L * 2 := by simpa [madeCells] using h1
    have hg := levC_get (List.replicate L lev0) (i / 2) lev0 (i % 2) (by rw [List.getElem?_replicate, if_pos (by omega)]) (Nat.mod_lt _ (by decide))
    rw [show i / 2 * 2 + i % 2 = i by omega] at hg
    have e : (levC (List.replicate L lev0)).toArray[i]? = lev0.cells[i % 2]? := by rw [List.getElem?_toArray]; exact hg
    have e2 : (madeCells #[.int .i64 0, .slice none 0 0] (L * 2))[i]? = lev0.cells[i % 2]? := by
      rw [Array.getElem?_eq_getElem h1]
      unfold madeCells
      have hp : i % 2 = 0 ∨ i % 2 = 1 := by omega
      rcases hp with e | e <;> simp [e, lev0, Lev.cells]
    have e3 := e2.trans e.symm
    rw [Array.getElem?_eq_getElem h1, Array.getElem?_eq_getElem h2] at e3
    exact Option.some.inj e3
theorem levC_set (xs : List Lev) (y y' : Lev) (zs : List Lev) (a b : Value) (h : y'.cells = [a, b]) : ((levC (xs ++ y :: zs)).set (xs.length * 2) a).set (xs.length * 2 + 1) b = levC (xs ++ y' :: zs) := by
  rw [levC_append, levC_append]
  have hl := levC_length xs
  rw [List.set_append, if_neg (by omega), List.set_append, if_neg (by omega), hl]
  congr 1
  show (((y.cells ++ levC zs).set (xs.length * 2 - xs.length * 2) a).set (xs.length * 2 + 1 - xs.length * 2) b) = y'.cells ++ levC zs
  rw [h, Nat.sub_self, show xs.length * 2 + 1 - xs.length * 2 = 1 by omega]
  rfl
end Go.Proofs.Ytpkclmfadlkbeaa
