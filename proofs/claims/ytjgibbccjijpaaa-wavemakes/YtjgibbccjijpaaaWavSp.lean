/-
  What wave's digit, fits, size, onesBefore and split return: contracts, walked over the translated text. No condition but what each theorem names.
-/
import Derived.Test.YtjgibbccjijpaaaMats
import Derived.Test.YtjgibbccjijpaaaBitsAt
import Derived.Test.YtjgibbccjijpaaaSigned
import Derived.Deep.RegionWith
import Derived.Deep.RegionHeld3
import Derived.Deep.Cut
import Derived.Deep.DeepCutAuto
namespace Go.Proofs.Ytjgibbccjijpaaa
open Go.RowKit Words

theorem digit_int (x p : Nat) (hx : x < 9223372036854775808) : bits BinOp.and IntKind.i64 ((x : Int) / 2 ^ p) 1 = ((x.testBit p).toNat : Int) := by
  have e : ((x : Int) / 2 ^ p) = ((x / 2 ^ p : Nat) : Int) := by simp
  have hl : x / 2 ^ p < 9223372036854775808 := Nat.lt_of_le_of_lt (Nat.div_le_self _ _) hx
  have h := bits_and_i64_nat (x / 2 ^ p) 1 hl (by decide)
  rw [e]
  have h2 : bits BinOp.and IntKind.i64 ((x / 2 ^ p : Nat) : Int) 1 = ((x / 2 ^ p &&& 1 : Nat) : Int) := h
  rw [h2, nat_mask1, Nat.toNat_testBit]

/-- wave.digit. -/
theorem digit_any (x p : Nat) (w : World) (hx : x < 9223372036854775808) (hp : p ≤ 21) :
    Calls Try.prog 65 #[.int .i64 x, .int .i64 p] w fun e w' => e = .returned (.int .i64 ((x.testBit p).toNat : Nat)) ∧ w = w' := by
  have hd := digit_int x p hx
  go_enter Try.func65, Try.ntmps65
  go_wp2
  go_ret
  exact ⟨rfl, rfl⟩

/-- wave.fits. -/
theorem fits_neg (x : Int) (l : Nat) (w : World) (h : x < 0) :
    Calls Try.prog 38 #[.int .i64 x, .int .i64 l] w fun e w' => e = .returned (.bool false) ∧ w = w' := by
  have hd : decide (0 ≤ x) = false := by simp; omega
  go_enter Try.func38, Try.ntmps38
  go_wp2
  go_ret
  exact ⟨rfl, rfl⟩
theorem fits_any (x l : Nat) (w : World) (hl : l ≤ 21) (t : Bool) (ht : decide (x < 2 ^ l) = t) :
    Calls Try.prog 38 #[.int .i64 x, .int .i64 l] w fun e w' => e = .returned (.bool t) ∧ w = w' := by
  have hd : decide (0 ≤ (x : Int)) = true := by simp
  have hp : 2 ^ l ≤ 2 ^ 21 := Nat.pow_le_pow_right (by decide) hl
  go_enter Try.func38, Try.ntmps38
  go_wp2
  go_ret
  refine ⟨congrArg Ending.returned (congrArg Value.bool ?_), rfl⟩
  have e : ((2 : Int) ^ l) = ((2 ^ l : Nat) : Int) := by simp
  have hw : wrap64 ((2 : Int) ^ l) = ((2 ^ l : Nat) : Int) := by rw [e]; generalize 2 ^ l = y at *; unfold wrap64; omega
  rw [hw, ← ht]
  generalize 2 ^ l = y at *
  simp

/-- (wave.part).size. -/
theorem size_any (f t : Nat) (w : World) (hf : f ≤ t) (ht : t ≤ 100000) (d : Nat) (hd : t - f = d) :
    Calls Try.prog 76 #[.agg #[.int .i64 f, .int .i64 t]] w fun e w' => e = .returned (.int .i64 (d : Nat)) ∧ Below w.heap.size w w' := by
  have hd1 : (t : Int) - (f : Int) = (d : Nat) := by omega
  go_enter Try.func76, Try.ntmps76
  go_wp2
  go_ret
  exact ⟨rfl, bnew _ _⟩

/-- wave.onesBefore. -/
theorem ones_before (m r : Nat) (A : Option Addr) (ws : List Nat) (c : Nat) (w : World) (hV : Valid m ws) (hW : Words64 w w.heap.size A ws) (h : r ≤ m) :
    Calls Try.prog 101 #[.agg #[.int .i64 m, .slice A ws.length c], .int .i64 r] w fun e w' => e = .returned (.int .i64 (tally (bit ws) r)) ∧ Below w.heap.size w w' := by
  have H := Lib.hid (fun W (h2 : Words64 W W.heap.size A ws) => brank_in m r A ws c W hV h2 h)
  have HW := Lib.hid hW
  clear hW hV
  generalize tally (bit ws) r = y at *
  go_enter Try.func101, Try.ntmps101
  go_wp2_with (go_at_call 107; refine (H.out _ (by exact HW.out.alloc _)).mono ?_; rintro e w1 ⟨rfl, hb1⟩)
  go_ret
  exact ⟨rfl, chain (bnew _ _) hb1⟩

/-- The four cells that split returns: where the next level has the zeros, and where it has the ones. -/
def splitC (n : Nat) (b : Nat → Bool) (f t : Nat) : Value := .agg #[.int .i64 (f - tally b f : Nat), .int .i64 (t - tally b t : Nat), .int .i64 (zr n b + tally b f : Nat), .int .i64 (zr n b + tally b t : Nat)]

/-- Two boxes, one behind the other. -/
def Bx (g t1 t2 : Nat) (a b c d : Value) (W : World) : Prop := Blk W g t1 [a, b] ∧ Blk W (g + 1) t2 [c, d]
theorem Bx.on {g t1 t2 : Nat} {a b c d : Value} {W W' : World} (h : Bx g t1 t2 a b c d W) (hb : Below W.heap.size W W') : Bx g t1 t2 a b c d W' := ⟨h.1.below hb h.1.lt, h.2.below hb h.2.lt⟩
theorem Bx.c {g t1 t2 : Nat} {a b c d : Value} {W : World} (h : Bx g t1 t2 a b c d W) : W.cell? ⟨g, 0, none⟩ = some a ∧ W.cell? ⟨g, 1, none⟩ = some b ∧ W.cell? ⟨g + 1, 0, none⟩ = some c ∧ W.cell? ⟨g + 1, 1, none⟩ = some d := ⟨h.1.cell 0, h.1.cell 1, h.2.cell 0, h.2.cell 1⟩

/-- What split keeps between its steps. -/
def SpAt (w : World) (n f t : Nat) (A : Option Addr) (ws : List Nat) (c : Nat) (W : World) : Prop :=
  Bx w.heap.size 32 77 (.int .i64 n) (.slice A ws.length c) (.int .i64 f) (.int .i64 t) W ∧ Blk W (w.heap.size + 1 + 1) 110 [.int .i64 0, .int .i64 0, .int .i64 0, .int .i64 0] ∧ Words64 W W.heap.size A ws ∧ Below w.heap.size w W
theorem SpAt.on {w : World} {n f t : Nat} {A : Option Addr} {ws : List Nat} {c : Nat} {W W' : World} (h : SpAt w n f t A ws c W) (hb : Below W.heap.size W W') : SpAt w n f t A ws c W' := ⟨h.1.on hb, h.2.1.below hb h.2.1.lt, h.2.2.1.on hb, chain h.2.2.2 hb⟩
theorem SpAt.drew {w : World} {n f t : Nat} {A : Option Addr} {ws : List Nat} {c : Nat} {W : World} (h : SpAt w n f t A ws c W) : SpAt w n f t A ws c W.drew := ⟨h.1, h.2.1, h.2.2.1, h.2.2.2.drew⟩

set_option maxHeartbeats 4000000 in
/-- wave.split. -/
theorem split_any (n f t : Nat) (A : Option Addr) (ws : List Nat) (c : Nat) (w : World) (hV : Valid n ws) (hW : Words64 w w.heap.size A ws) (hf : f ≤ n) (ht : t ≤ n) :
    Calls Try.prog 75 #[.agg #[.int .i64 n, .slice A ws.length c], .agg #[.int .i64 f, .int .i64 t]] w fun e w' => e = .returned (splitC n (bit ws) f t) ∧ Below w.heap.size w w' := by
  have HN := Lib.hid (fun W (h : Words64 W W.heap.size A ws) => ones_before n n A ws c W hV h (Nat.le_refl n))
  have HF := Lib.hid (fun W (h : Words64 W W.heap.size A ws) => ones_before n f A ws c W hV h hf)
  have HT := Lib.hid (fun W (h : Words64 W W.heap.size A ws) => ones_before n t A ws c W hV h ht)
  have hn := hV.hi
  have e1 : (n : Int) - (tally (bit ws) n : Nat) = (zr n (bit ws) : Nat) := by have := tally_le (bit ws) n; unfold zr; omega
  have e2 : (f : Int) - (tally (bit ws) f : Nat) = (f - tally (bit ws) f : Nat) := by have := tally_le (bit ws) f; omega
  have e3 : (t : Int) - (tally (bit ws) t : Nat) = (t - tally (bit ws) t : Nat) := by have := tally_le (bit ws) t; omega
  have e4 : ((zr n (bit ws) : Nat) : Int) + (tally (bit ws) f : Nat) = (zr n (bit ws) + tally (bit ws) f : Nat) := by omega
  have e5 : ((zr n (bit ws) : Nat) : Int) + (tally (bit ws) t : Nat) = (zr n (bit ws) + tally (bit ws) t : Nat) := by omega
  have b1 : zr n (bit ws) ≤ 4096 := by unfold zr; omega
  have b2 := tally_le (bit ws) f
  have b3 := tally_le (bit ws) t
  have b4 := tally_le (bit ws) n
  have HW := Lib.hid hW
  clear hW hV
  unfold splitC
  generalize zr n (bit ws) + tally (bit ws) f = zf at *
  generalize zr n (bit ws) + tally (bit ws) t = zt at *
  generalize f - tally (bit ws) f = ff at *
  generalize t - tally (bit ws) t = tt at *
  generalize zr n (bit ws) = z at *
  generalize tally (bit ws) f = f1 at *
  generalize tally (bit ws) t = t1 at *
  generalize tally (bit ws) n = n1 at *
  go_enter Try.func75, Try.ntmps75
  go_wp2_with fail
  have hW0 := ((HW.out.alloc (.cells #[.int .i64 n, .slice A ws.length c] 32)).alloc (.cells #[.int .i64 f, .int .i64 t] 77)).alloc (.cells #[.int .i64 0, .int .i64 0, .int .i64 0, .int .i64 0] 110)
  have hbel : Below w.heap.size w (((w.alloc (.cells #[.int .i64 n, .slice A ws.length c] 32)).alloc (.cells #[.int .i64 f, .int .i64 t] 77)).alloc (.cells #[.int .i64 0, .int .i64 0, .int .i64 0, .int .i64 0] 110)) := chain (chain (bnew _ _) (bnew _ _)) (bnew _ _)
  have hBa := ((Blk.new w 32 [.int .i64 n, .slice A ws.length c]).alloc (.cells #[.int .i64 f, .int .i64 t] 77)).alloc (.cells #[.int .i64 0, .int .i64 0, .int .i64 0, .int .i64 0] 110)
  have hBb := (Blk.new (w.alloc (.cells #[.int .i64 n, .slice A ws.length c] 32)) 77 [.int .i64 f, .int .i64 t]).alloc (.cells #[.int .i64 0, .int .i64 0, .int .i64 0, .int .i64 0] 110)
  have hBc := Blk.new ((w.alloc (.cells #[.int .i64 n, .slice A ws.length c] 32)).alloc (.cells #[.int .i64 f, .int .i64 t] 77)) 110 [.int .i64 0, .int .i64 0, .int .i64 0, .int .i64 0]
  simp only [World.size_alloc] at hBb hBc
  clear HW
  generalize (((w.alloc (.cells #[.int .i64 n, .slice A ws.length c] 32)).alloc (.cells #[.int .i64 f, .int .i64 t] 77)).alloc (.cells #[.int .i64 0, .int .i64 0, .int .i64 0, .int .i64 0] 110)) = W0 at *
  have HX := Lib.hid (show SpAt w n f t A ws c W0 from ⟨⟨hBa, hBb⟩, hBc, hW0, hbel⟩)
  clear hBa hBb hBc hbel hW0
  obtain ⟨a0, a1, a2, a3⟩ := HX.out.1.c
  go_region_held3 (fun W => W.cell? ⟨w.heap.size, 0, none⟩ = some (.int .i64 n) ∧ W.cell? ⟨w.heap.size, 1, none⟩ = some (.slice A ws.length c))
    (first | exact ⟨a0, a1⟩ | exact ⟨d0, d1⟩)
    (first
      | (go_at_call 101; refine (HN.out _ ?_).mono ?_; exact HX.out.drew.2.2.1; rintro e w1 ⟨rfl, hb1⟩; obtain ⟨d0, d1, d2, d3⟩ := (HX.out.drew.1.on hb1).c))
  have HX1 := Lib.hid (HX.out.drew.on hb1)
  clear a0 a1 a2 a3 d0 d1 d2 d3 HX HN hb1
  obtain ⟨a0, a1, a2, a3⟩ := HX1.out.1.c
  go_wp2_with fail
  go_region_held3 (fun W => W.cell? ⟨w.heap.size, 0, none⟩ = some (.int .i64 n) ∧ W.cell? ⟨w.heap.size, 1, none⟩ = some (.slice A ws.length c) ∧ W.cell? ⟨w.heap.size + 1, 0, none⟩ = some (.int .i64 f) ∧ W.cell? ⟨w.heap.size + 1, 1, none⟩ = some (.int .i64 t))
    (first | exact HX1.out.1.c | exact HF1.out.1.c | exact HT1.out.1.c | exact HE.out.1.c)
    (first
      | (go_at_call_of 101 (Value.int .i64 (f : Int)); refine (HF.out _ ?_).mono ?_; exact HX1.out.drew.2.2.1; rintro e w2 ⟨rfl, hb2⟩; have HF1 := Lib.hid (HX1.out.drew.on hb2))
      | (go_at_call_of 101 (Value.int .i64 (t : Int)); refine (HT.out _ ?_).mono ?_; exact HX1.out.drew.2.2.1; rintro e w2 ⟨rfl, hb2⟩; have HT1 := Lib.hid (HX1.out.drew.on hb2))
      | (go_at_call_of 101 (Value.int .i64 (f : Int)); refine (HF.out _ ?_).mono ?_; exact HT1.out.2.2.1; rintro e w3 ⟨rfl, hb3⟩; have HE := Lib.hid (HT1.out.on hb3))
      | (go_at_call_of 101 (Value.int .i64 (t : Int)); refine (HT.out _ ?_).mono ?_; exact HF1.out.2.2.1; rintro e w3 ⟨rfl, hb3⟩; have HE := Lib.hid (HF1.out.on hb3)))
  all_goals
    obtain ⟨d0, d1, d2, d3⟩ := HE.out.1.c
    have f0 := HE.out.2.1.frozen 0
    have f1 := HE.out.2.1.frozen 1
    have f2 := HE.out.2.1.frozen 2
    have f3 := HE.out.2.1.frozen 3
    have g0 : w3.cell? ⟨w.heap.size + 1 + 1, 0, none⟩ = some (.int .i64 0) := HE.out.2.1.cell 0
    have g1 : w3.cell? ⟨w.heap.size + 1 + 1, 1, none⟩ = some (.int .i64 0) := HE.out.2.1.cell 1
    have g2 : w3.cell? ⟨w.heap.size + 1 + 1, 2, none⟩ = some (.int .i64 0) := HE.out.2.1.cell 2
    have g3 : w3.cell? ⟨w.heap.size + 1 + 1, 3, none⟩ = some (.int .i64 0) := HE.out.2.1.cell 3
    clear a0 a1 a2 a3
    go_wp2_with fail
    refine bodyPost_ret (v := .agg #[.int .i64 ff, .int .i64 tt, .int .i64 zf, .int .i64 zt]) (by simp [results, Try.results75, go_sem, g0, g1, g2, g3]) rfl ⟨rfl, ?_⟩
    exact (((HE.out.2.2.2.setCell (by simp; omega) _).setCell (by simp; omega) _).setCell (by simp; omega) _).setCell (by simp; omega) _
end Go.Proofs.Ytjgibbccjijpaaa
