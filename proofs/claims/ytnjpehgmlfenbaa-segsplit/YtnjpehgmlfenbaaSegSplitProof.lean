/-
  For every list, every list of operations, every operation and every number: Go's seg.Play leaves the same list behind a change of a range as behind the changes of two parts of it, behind whatever operations.
  No condition.
-/
import Derived.Test.YtnjpehgmlfenbaaRows
import Derived.Test.YtnjpehgmlfenbaaFrame
import Derived.Test.YtnjpehgmlfenbaaFrameS
import Derived.Test.YtnjpehgmlfenbaaSegLaw
import Derived.Test.YtnjpehgmlfenbaaCutUse
import Derived.WalkKit
import Derived.ProofKit
import Derived.OpenShut
import Derived.ChangeOld
import Derived.Below
import Derived.Carry
import Derived.SizedLaws
import Derived.Deep.RegionWith
import Derived.Deep.RegionHeld3
namespace Go.Proofs.Ytnjpehgmlfenbaa.segSplit
open Go.ChangeShapes Go.WideShapes Go.ChangeAt Go.RowKit Words
set_option linter.unusedVariables false

theorem own : ownKnob Try.prog.godebug = none := by kernel_rfl
theorem laidOut : laidOutB Try.prog = true := by kernel_rfl

set_option maxRecDepth 100000 in
set_option maxHeartbeats 4000000 in
/-- The walk: the Go text returns true, and writes nothing that was there. -/
theorem walk (A0 : Option Addr) (l0 : List Int) (c0 : Nat) (A1 : Option Addr) (l1 : List Op9) (c1 : Nat) (o2 : Op9) (a3 : Int) (w : World) (hle0 : l0.length ≤ c0) (hcap0 : c0 * 8 ≤ 140737488351232) (hnil0 : A0 = none → c0 = 0) (w0 : Lies w w.heap.size A0 (l0.map (.int .i64)) ∧ ∀ z ∈ l0, (Lit.int .i64 z).wf = true) (hle1 : l1.length ≤ c1) (hcap1 : c1 * 32 ≤ 140737488351232) (hnil1 : A1 = none → c1 = 0) (w1 : Lies w w.heap.size A1 (opsC l1)) (f1 : ∀ o ∈ l1, o.Fits) (f2 : o2.Fits) (w3 : (Lit.int .i64 a3).wf = true) :
    Calls Try.prog 5 #[.slice A0 l0.length c0, .slice A1 l1.length c1, .agg #[.int .i64 o2.k, .int .i64 o2.lo, .int .i64 o2.hi, .int .i64 o2.by_], .int .i64 a3] w fun e w' => e = .returned (.bool true) ∧ Below w.heap.size w w' := by
  have HSi := Lib.hid (fun W hL => signed_any A0 l0 c0 60 500 W (by decide) (by decide) w0.2 hL)
  have hlm := sgn_lim 60 500 l0
  have hpl := picks_length 60 (2 * 500 + 1) l0
  unfold GivesF at HSi
  have HL0 := Lib.hid w0.1
  have HL1 := Lib.hid w1
  have HF1 := Lib.hid f1
  clear w0 w1 f1 hnil0 hle0 hcap0
  generalize (picks 60 (2 * 500 + 1) l0).length = m at *
  have HCe := Lib.hid (cells_snoc (sgn 60 500 l0) m 3)
  have hLf : Lim 500 (snoc (sgn 60 500 l0) m 3) (m + 1) := hlm.snoc 3 (by decide)
  clear hlm
  generalize snoc (sgn 60 500 l0) m 3 = f at *
  generalize sgn 60 500 l0 = f0 at *
  obtain ⟨n, hn⟩ : ∃ n, m + 1 = n := ⟨_, rfl⟩
  have hn1 : n ≤ 61 := by omega
  have hn0 : 0 < n := by omega
  rw [hn] at HCe hLf
  have hLn : (vals f n).length = n := vals_length f n
  have hCos : Cos (vals f n) := fun z hz => by have := hLf.win z hz; unfold In at this; unfold Co; omega
  have HOps := Lib.hid (fun W hL => ops_any A1 l1 c1 40 n W (by decide) hn0 (by omega) HF1.out hL)
  have HOps1 := Lib.hid (fun A W hL => ops_any A [o2] 1 1 n W (by decide) hn0 (by omega) (fun o ho => by rw [List.mem_singleton.1 ho]; exact f2) hL)
  have hol := opsOf_length 40 n l1
  obtain ⟨g0, g1, g2, g3⟩ := f2
  have HPk : Hid (∀ W, Calls Try.prog 13 #[.int .i64 o2.k, .int .i64 2] W fun e w' => e = .returned (.int .i64 (pick 2 o2.k : Nat)) ∧ W = w') := Lib.hid (fun W => pick_any o2.k 2 W (by decide) (by decide) g0)
  have hkk := pick_lt (n := 2) (by decide) o2.k
  have hlo := pick_lt hn0 o2.lo
  have hp2 := pick_lt (n := n - pick n o2.lo) (by omega) o2.hi
  have hby := pick_lt (n := 2001) (by decide) o2.by_
  have hk4 := pick_lt (n := 4) (by decide) o2.k
  have e1 : opsOf 1 n [o2] = [opOf n o2] := rfl
  have e2 : opsC [opOf n o2] = [.int .i64 (1 + (pick 4 o2.k : Int)), .int .i64 (pick n o2.lo : Int), .int .i64 ((pick n o2.lo : Int) + (pick (n - pick n o2.lo) o2.hi : Int)), .int .i64 ((pick 2001 o2.by_ : Int) - 1000)] := rfl
  unfold GivesOps at HOps HOps1
  rw [e1, e2] at HOps1
  have e3 : [opOf n o2].length = 1 := rfl
  rw [e3] at HOps1
  clear e1 e2 e3 g0 g1 g2 g3
  generalize opsOf 40 n l1 = os at *
  generalize pick 2 o2.k = kk at *
  generalize pick 4 o2.k = k4 at *
  generalize pick n o2.lo = lo at *
  generalize pick (n - lo) o2.hi = p2 at *
  obtain ⟨hi, hhi⟩ : ∃ hi, lo + p2 = hi := ⟨_, rfl⟩
  obtain ⟨b, hb⟩ : ∃ b : Int, (pick 2001 o2.by_ : Int) - 1000 = b := ⟨_, rfl⟩
  have hb0 : -1000 ≤ b ∧ b ≤ 1000 := by omega
  rw [hb, show (lo : Int) + (p2 : Int) = (hi : Int) by omega] at HOps1
  have hlh : lo ≤ hi := by omega
  have hhn : hi < n := by omega
  obtain ⟨cq, hc1⟩ : ∃ cq, hi - lo + 1 = cq := ⟨_, rfl⟩
  have hcp : 0 < cq := by omega
  have HPc := Lib.hid (fun W => pick_any a3 cq W hcp (by omega) w3)
  have hcc := pick_lt hcp a3
  generalize pick cq a3 = cc at *
  obtain ⟨mm, hmm⟩ : ∃ mm, lo + cc = mm := ⟨_, rfl⟩
  have hs1 : (hi : Int) - (lo : Int) + 1 = (cq : Int) := by omega
  have hs2 : (lo : Int) + (cc : Int) = (mm : Int) := by omega
  have hlm : lo ≤ mm := by omega
  have hmh : mm ≤ hi := by omega
  have hos : os.length ≤ 40 := by omega
  obtain ⟨ol, hol2⟩ : ∃ ol, os.length = ol := ⟨_, rfl⟩
  rw [hol2] at HOps hos
  have HOL := Lib.hid hol2
  clear hhi hb hc1 hmm hol hol2 hby hp2 hk4 hpl w3
  go_enter Try.func5, Try.ntmps5
  go_wp2_with fail
  have HX1 := Lib.hid (Blk.new w 42 o2.cells)
  have hb01 := bnew w (.cells #[.int .i64 o2.k, .int .i64 o2.lo, .int .i64 o2.hi, .int .i64 o2.by_] 42)
  have HL01 := Lib.hid (HL0.out.on hb01)
  have HL11 := Lib.hid (HL1.out.on hb01)
  have HX1' : Hid (Blk (w.alloc (.cells #[.int .i64 o2.k, .int .i64 o2.lo, .int .i64 o2.hi, .int .i64 o2.by_] 42)) w.heap.size 42 o2.cells) := HX1
  clear HX1 HL0 HL1
  generalize w.alloc (.cells #[.int .i64 o2.k, .int .i64 o2.lo, .int .i64 o2.hi, .int .i64 o2.by_] 42) = W1 at *
  refine (HSi.out W1 HL01.out).mono ?_
  rintro e v1 ⟨A1_, c1_, rfl, hown, hb1⟩
  have hsz := hb1.size
  go_wp2_with (at_builtin; go_loud (refine append_one _ rfl (.tmp 23) (.tmp 24) 22 rfl W1.heap.size 3 (.int .i64 0) 8 Try.underlying22 fint_info rfl (.slice A1_ m c1_) m _ rfl (hown.alloc _) v1.heap.size 1 (.int .i64 3) rfl (by simp) rfl (by simp only [maxLen]; omega) (by omega) (by simp; omega) ?_))
  intro v2 v3 hown2 hg2
  have hb3 : Below W1.heap.size W1 v3 := (hb1.alloc hsz _).grown hg2 (by simp; omega) (fun q hq => (hown.lt q hq).1)
  rw [HCe.out] at hown2
  obtain ⟨A3, c3, rfl, x1, x2, hl3, hn3, x3⟩ := own_slice hown2
  clear x1 x2 x3
  have HL3 := Lib.hid hl3
  have HN3 := Lib.hid hn3
  clear hown2 hg2 hown hb1 hl3 hn3 hsz hn HSi HCe
  go_wp2_with fail
  refine (HOps.out _ (HL11.out.on hb3)).mono ?_
  rintro e v4 ⟨v, rfl, hown4, hb4⟩
  obtain ⟨B4, d4, rfl, hl4, hn4, x4⟩ := own_slice_all hown4
  clear x4
  have HL4 := Lib.hid hl4
  have HN4 := Lib.hid hn4
  have HL34 := Lib.hid (HL3.out.on hb4)
  have hb14 := chain hb3 hb4
  have hX4 := HX1'.out.below hb14 HX1'.out.lt
  have HX4 := Lib.hid hX4
  have y0 : v4.cell? ⟨w.heap.size, 0, none⟩ = some (.int .i64 o2.k) := hX4.cell 0
  have y1 : v4.cell? ⟨w.heap.size, 1, none⟩ = some (.int .i64 o2.lo) := hX4.cell 1
  have y2 : v4.cell? ⟨w.heap.size, 2, none⟩ = some (.int .i64 o2.hi) := hX4.cell 2
  have y3 : v4.cell? ⟨w.heap.size, 3, none⟩ = some (.int .i64 o2.by_) := hX4.cell 3
  clear hown4 hl4 hn4 hb3 hb4 HL3 hX4
  go_wp2_with fail
  refine (HOps1.out (some ⟨v4.heap.size, 0, none⟩) _ (Blk.new v4 42 o2.cells).lies).mono ?_
  rintro e v5 ⟨vv, rfl, hown5, hb5⟩
  obtain ⟨B5, d5, rfl, hl5, x5, x6⟩ := own_slice_all hown5
  obtain ⟨b5, p5, rfl, hbb5, hc5⟩ := hl5 (by simp)
  have t0 : v5.cell? ⟨b5, p5, none⟩ = some (.int .i64 (1 + (k4 : Int))) := hc5 0 _ rfl
  have t1 : v5.cell? ⟨b5, p5 + 1, none⟩ = some (.int .i64 (lo : Int)) := hc5 1 _ rfl
  have t2 : v5.cell? ⟨b5, p5 + 2, none⟩ = some (.int .i64 (hi : Int)) := hc5 2 _ rfl
  have t3 : v5.cell? ⟨b5, p5 + 3, none⟩ = some (.int .i64 b) := hc5 3 _ rfl
  have hb45 : Below v4.heap.size v4 v5 := chain (bnew v4 _) hb5
  have hX5 := HX4.out.below hb45 HX4.out.lt
  have z0 : v5.cell? ⟨w.heap.size, 0, none⟩ = some (.int .i64 o2.k) := hX5.cell 0
  have hzX : w.heap.size < v5.heap.size := hX5.lt
  have HL45 := Lib.hid (HL4.out.on hb45)
  have HL35 := Lib.hid (HL34.out.on hb45)
  have hb15 := chain hb14 hb45
  clear x5 x6 hown5 hc5 hl5 hX5 hb45 hb5 HL4 HL34 y0 y1 y2 y3 HX4 hb14
  go_wp2_with fail
  refine (HPk.out _).mono ?_
  rintro e v6 ⟨rfl, rfl⟩
  go_upto_region 5 with fail
  have HY6 : Hid (Blk (v5.alloc (.cells #[.int .i64 (1 + (kk : Int)), .int .i64 (lo : Int), .int .i64 (hi : Int), .int .i64 b] 39)) v5.heap.size 39 [.int .i64 (1 + (kk : Int)), .int .i64 (lo : Int), .int .i64 (hi : Int), .int .i64 b]) := Lib.hid (Blk.new v5 39 [.int .i64 (1 + (kk : Int)), .int .i64 (lo : Int), .int .i64 (hi : Int), .int .i64 b])
  have hb56 := bnew v5 (.cells #[.int .i64 (1 + (kk : Int)), .int .i64 (lo : Int), .int .i64 (hi : Int), .int .i64 b] 39)
  generalize v5.alloc (.cells #[.int .i64 (1 + (kk : Int)), .int .i64 (lo : Int), .int .i64 (hi : Int), .int .i64 b] 39) = V6 at *
  generalize v5.heap.size = Y at *
  have s0 : V6.cell? ⟨Y, 0, none⟩ = some (.int .i64 (1 + (kk : Int))) := HY6.out.cell 0
  have s1 : V6.cell? ⟨Y, 1, none⟩ = some (.int .i64 (lo : Int)) := HY6.out.cell 1
  have s2 : V6.cell? ⟨Y, 2, none⟩ = some (.int .i64 (hi : Int)) := HY6.out.cell 2
  have s3 : V6.cell? ⟨Y, 3, none⟩ = some (.int .i64 b) := HY6.out.cell 3
  clear t0 t1 t2 t3 z0
  have hw1 : IntKind.i64.wrap ((hi : Int) - (lo : Int)) = (hi : Int) - (lo : Int) := IntWalk.i64_in _ (by omega)
  have hw2 : IntKind.i64.wrap ((hi : Int) - (lo : Int) + 1) = (cq : Int) := by rw [IntWalk.i64_in _ (by omega)]; omega
  have hw3 : IntKind.i64.wrap ((lo : Int) + (cc : Int)) = (mm : Int) := by rw [IntWalk.i64_in _ (by omega)]; omega
  have hw4 : IntKind.i64.wrap (cq : Int) = (cq : Int) := IntWalk.i64_in _ (by omega)
  have hw5 : IntKind.i64.wrap (mm : Int) = (mm : Int) := IntWalk.i64_in _ (by omega)
  go_cut [12] (fun s12 wx => s12 = .int .i64 (mm : Int) ∧ ∃ d, wx = V6.drewN d)
  case first =>



    go_region_with (go_at_call 13; (with_reducible refine (HPc.out _).mono ?_); rintro e w' ⟨rfl, rfl⟩)
    all_goals
      go_wp2_with fail
      go_meet
      case rel => exact ⟨rfl, 1, rfl⟩
  case rest =>
    clear hw1 hw2 hw3 hw4 hw5
    obtain ⟨rfl, dd, rfl⟩ := hcut
    have HY7 := Lib.hid (HY6.out.drewN dd)
    have hb57 : Below Y v5 (V6.drewN dd) := bdN hb56 dd
    have hYs : Y + 1 ≤ (V6.drewN dd).heap.size := HY6.out.lt
    have HL47 := Lib.hid (show Lies (V6.drewN dd) (V6.drewN dd).heap.size B4 (opsC os) from (HL45.out.below hb57).wide (Nat.le_of_lt HY6.out.lt))
    have HL37 := Lib.hid (show Lies (V6.drewN dd) (V6.drewN dd).heap.size A3 (cellsOf f n) from (HL35.out.below hb57).wide (Nat.le_of_lt HY6.out.lt))
    have hb17 : Below w.heap.size w (V6.drewN dd) := hb01.trans ((hb15.mono hb01.size).trans (hb57.mono (Nat.le_of_lt hzX)))
    clear hb56 hb57 HY6 HL45 HL35 hb15 hb01 s0 s1 s2 s3
    generalize V6.drewN dd = V7 at *
    have s0 : V7.cell? ⟨Y, 0, none⟩ = some (.int .i64 (1 + (kk : Int))) := HY7.out.cell 0
    have s1 : V7.cell? ⟨Y, 1, none⟩ = some (.int .i64 (lo : Int)) := HY7.out.cell 1
    have s2 : V7.cell? ⟨Y, 2, none⟩ = some (.int .i64 (hi : Int)) := HY7.out.cell 2
    have s3 : V7.cell? ⟨Y, 3, none⟩ = some (.int .i64 b) := HY7.out.cell 3
    have hYl : Y < V7.heap.size := by omega
    go_upto_region 8 with fail
    have HP8 : Hid (Blk (V7.alloc (.cells #[.int .i64 (1 + (kk : Int)), .int .i64 (lo : Int), .int .i64 (mm : Int), .int .i64 b] 39)) V7.heap.size 39 [.int .i64 (1 + (kk : Int)), .int .i64 (lo : Int), .int .i64 (mm : Int), .int .i64 b]) := Lib.hid (Blk.new V7 39 [.int .i64 (1 + (kk : Int)), .int .i64 (lo : Int), .int .i64 (mm : Int), .int .i64 b])
    have hb78 := bnew V7 (.cells #[.int .i64 (1 + (kk : Int)), .int .i64 (lo : Int), .int .i64 (mm : Int), .int .i64 b] 39)
    have HLB := Lib.hid (HL47.out.on hb78)
    have HL38 := Lib.hid (HL37.out.on hb78)
    have HY8 := Lib.hid (HY7.out.below hb78 HY7.out.lt)
    have hb18 : Below w.heap.size w (V7.alloc (.cells #[.int .i64 (1 + (kk : Int)), .int .i64 (lo : Int), .int .i64 (mm : Int), .int .i64 b] 39)) := chain hb17 hb78
    generalize V7.alloc (.cells #[.int .i64 (1 + (kk : Int)), .int .i64 (lo : Int), .int .i64 (mm : Int), .int .i64 b] 39) = V8 at *
    generalize V7.heap.size = Z at *
    have r0 : V8.cell? ⟨Z, 0, none⟩ = some (.int .i64 (1 + (kk : Int))) := HP8.out.cell 0
    have r1 : V8.cell? ⟨Z, 1, none⟩ = some (.int .i64 (lo : Int)) := HP8.out.cell 1
    have r2 : V8.cell? ⟨Z, 2, none⟩ = some (.int .i64 (mm : Int)) := HP8.out.cell 2
    have r3 : V8.cell? ⟨Z, 3, none⟩ = some (.int .i64 b) := HP8.out.cell 3
    have hZ8 : Z < V8.heap.size := HP8.out.lt
    have HLn : Hid ((opsC os).length = ol * 4) := Lib.hid (by rw [opsC_length, HOL.out])
    have H1 := Lib.hid (opsC_one os)
    have HAp := Lib.hid (opsC_append os [⟨1 + (kk : Int), lo, mm, b⟩])
    clear hb78 HL47 HL37 HY7 hb17 s0 s1 s2 s3
    go_cut [14] (fun s14 wx => RowOps V8 (os ++ [⟨1 + (kk : Int), lo, mm, b⟩]) s14 wx)
    case first =>
      go_region_law (first
        | ((refine step_append_recs _ (by rfl) (.tmp 57) (.tmp 59) 23 (by rfl) V8.heap.size 39 (.agg #[.int .i64 0, .int .i64 0, .int .i64 0, .int .i64 0]) 4 32 Try.underlying23 op9_info rfl (by decide) v6 ol _ (by rfl) (by exact hown6.alloc _) (some ⟨w6.heap.size, 0, none⟩) 1 1 (opsC [⟨1 + (kk : Int), lo, mm, b⟩]) (by rfl) (by rfl) (fun e => by cases e) (by exact (Blk.new w6 39 (opsC [⟨1 + (kk : Int), lo, mm, b⟩])).lies) (opsC_one _) (by simp only [maxLen]; omega) (by omega) (by have := hb6.size; simp; omega) ?_; intro v7 w7 hown7 hg7; have hb7 : Below V8.heap.size V8 w7 := (hb6.alloc hb6.size _).grown hg7 (by have := hb6.size; simp; omega) (fun q hq => (hown6.lt q hq).1); rw [← HAp.out] at hown7; clear hg7))
        | ((refine step_append_recs _ (by rfl) (.tmp 57) (.tmp 59) 23 (by rfl) V8.heap.size 39 (.agg #[.int .i64 0, .int .i64 0, .int .i64 0, .int .i64 0]) 4 32 Try.underlying23 op9_info rfl (by decide) v6 ol _ (by rfl) (by exact hown6) (some ⟨V8.heap.size, 0, none⟩) 1 1 (opsC [⟨1 + (kk : Int), lo, mm, b⟩]) (by rfl) (by rfl) (fun e => by cases e) (by exact HBk.out.lies) (opsC_one _) (by simp only [maxLen]; omega) (by omega) hb6.size ?_; intro v7 w7 hown7 hg7; have hb7 : Below V8.heap.size V8 w7 := hb6.grown hg7 hb6.size (fun q hq => (hown6.lt q hq).1); rw [← HAp.out] at hown7; clear hg7))
        | ((refine step_append_recs _ (by rfl) (.const (.slice none 0 0)) (.tmp 56) 23 (by rfl) V8.heap.size 39 (.agg #[.int .i64 0, .int .i64 0, .int .i64 0, .int .i64 0]) 4 32 Try.underlying23 op9_info rfl (by decide) (.slice none 0 0) 0 [] (by rfl) (World.ownsRow_nil _ _ _ _) B4 ol d4 (opsC os) (by rfl) HLn.out HN4.out (by exact HLB.out) H1.out (by simp only [maxLen]; omega) (by omega) (by exact Nat.le_refl _) ?_; intro v6 w6 hown6_ hg6; have hown6 : w6.ownsRow V8.heap.size 39 4 v6 ol (opsC os) := (by simpa using hown6_); have hb6 : Below V8.heap.size V8 w6 := ⟨hg6.os, hg6.tape, hg6.output, hg6.size, fun k hk => hg6.block k hk (by simp [Value.ownBlock])⟩; have hc6 := bcell hb6; clear hown6_ hg6))
        | ((refine step_append_recs _ (by rfl) (.const (.slice none 0 0)) (.tmp 56) 23 (by rfl) V8.heap.size 39 (.agg #[.int .i64 0, .int .i64 0, .int .i64 0, .int .i64 0]) 4 32 Try.underlying23 op9_info rfl (by decide) (.slice none 0 0) 0 [] (by rfl) (World.ownsRow_nil _ _ _ _) B4 ol d4 (opsC os) (by rfl) HLn.out HN4.out (by exact HLB.out.alloc _) H1.out (by simp only [maxLen]; omega) (by omega) (by simp) ?_; intro v6 w6 hown6_ hg6; have hown6 : w6.ownsRow V8.heap.size 39 4 v6 ol (opsC os) := (by simpa using hown6_); have hb6 : Below V8.heap.size V8 w6 := ((Below.refl _ _).alloc (Nat.le_refl _) _).grown (w := V8.alloc (.cells (opsC [⟨1 + (kk : Int), lo, mm, b⟩]).toArray 39)) ⟨hg6.os, hg6.tape, hg6.output, hg6.size, hg6.block⟩ (by simp) (fun q hq => by cases hq); have HBk : Hid (Blk w6 V8.heap.size 39 (opsC [⟨1 + (kk : Int), lo, mm, b⟩])) := Lib.hid ((hg6.block V8.heap.size (by simp) (by simp [Value.ownBlock])).trans (Blk.new V8 39 (opsC [⟨1 + (kk : Int), lo, mm, b⟩]))); have hc6 := bcell hb6; clear hown6_ hg6)))
      all_goals
        go_wp2_with fail
        go_meet
        case rel => exact ⟨by rw [List.length_append, HOL.out]; exact hown7, hb7⟩
    case rest =>
      obtain ⟨hown8, hb8⟩ := hcut
      have hbc1 : Below w.heap.size w wc := chain hb18 hb8
      have hY9 := HY8.out.below hb8 HY8.out.lt
      have HLBx := Lib.hid (show Lies wc V8.heap.size B4 (opsC os) from HLB.out.below hb8)
      have HL3x := Lib.hid (show Lies wc V8.heap.size A3 (cellsOf f n) from HL38.out.below hb8)
      have hY8 : Y < V8.heap.size := HY8.out.lt
      have HLBc := Lib.hid (HLB.out.on hb8)
      have HL3c := Lib.hid (HL38.out.on hb8)
      have hzV := hb8.size
      have hYw : Y < wc.heap.size := hY9.lt
      have HYc := Lib.hid hY9
      clear HLB HL38 r0 r1 r2 r3 HAp hY9
      have HBa := Lib.hid (fun A B c d W hA hB hL hO => behind_any A B (vals f n) (os ++ [⟨1 + (kk : Int), lo, hi, b⟩]) c d W (by omega) (by omega) (by rw [List.length_append, HOL.out]; show ol + 1 ≤ 300; omega) hCos hA hB hL hO)
      unfold Behind at HBa
      have hla : (os ++ [(⟨1 + (kk : Int), lo, hi, b⟩ : Op9)]).length = ol + 1 := by rw [List.length_append, HOL.out]; rfl
      have hlE : (runL (vals f n) (os ++ [(⟨1 + (kk : Int), lo, hi, b⟩ : Op9)]) (ol + 1)).length = n := by rw [runL_length, hLn]
      have HSm := Lib.hid (fun A A2 c c2 W h1 h2 => sameIntsK_eq A A2 (runL (vals f n) (os ++ [(⟨1 + (kk : Int), lo, hi, b⟩ : Op9)]) (ol + 1)) c c2 W (by rw [hlE]; omega) h1 h2)
      rw [hlE] at HSm
      rw [hla, hLn] at HBa
      by_cases hlt : mm < hi
      · have HBb := Lib.hid (fun A B c d W hA hB hL hO => behind_any A B (vals f n) (os ++ [⟨1 + (kk : Int), lo, mm, b⟩] ++ [⟨1 + (kk : Int), (mm : Int) + 1, hi, b⟩]) c d W (by omega) (by omega) (by rw [List.length_append, List.length_append, HOL.out]; show ol + 1 + 1 ≤ 300; omega) hCos hA hB hL hO)
        unfold Behind at HBb
        have hsp := split_eq (vals f n) os (1 + (kk : Int)) lo mm hi b (by omega) (by omega) (by omega) (by omega) (by rw [hLn]; omega) hb0
        rw [hsp, hla] at HBb
        have hlb : (os ++ [(⟨1 + (kk : Int), lo, mm, b⟩ : Op9)] ++ [(⟨1 + (kk : Int), (mm : Int) + 1, hi, b⟩ : Op9)]).length = ol + 2 := by rw [List.length_append, List.length_append, HOL.out]; rfl
        rw [hlb, hLn] at HBb
        generalize runL (vals f n) (os ++ [(⟨1 + (kk : Int), lo, hi, b⟩ : Op9)]) (ol + 1) = E at *
        have hl1 : (os ++ [(⟨1 + (kk : Int), lo, mm, b⟩ : Op9)]).length = ol + 1 := by rw [List.length_append, HOL.out]; rfl
        rw [hl1] at hown8
        have HO8 := Lib.hid hown8
        have HA2 := Lib.hid (opsC_append (os ++ [⟨1 + (kk : Int), lo, mm, b⟩]) [⟨1 + (kk : Int), (mm : Int) + 1, hi, b⟩])
        have s0 : wc.cell? ⟨Y, 0, none⟩ = some (.int .i64 (1 + (kk : Int))) := HYc.out.cell 0
        have s1 : wc.cell? ⟨Y, 1, none⟩ = some (.int .i64 (lo : Int)) := HYc.out.cell 1
        have s2 : wc.cell? ⟨Y, 2, none⟩ = some (.int .i64 (hi : Int)) := HYc.out.cell 2
        have s3 : wc.cell? ⟨Y, 3, none⟩ = some (.int .i64 b) := HYc.out.cell 3
        clear hown8 hsp hlb hl1 hla hlE
        go_wp2_with (at_builtin; go_loud (refine append_rec _ rfl (.tmp 69) (.tmp 71) 23 rfl V8.heap.size 39 (.agg #[.int .i64 0, .int .i64 0, .int .i64 0, .int .i64 0]) 4 32 Try.underlying23 op9_info rfl (by decide) u14 (ol + 1) _ rfl ((HO8.out.alloc _).alloc _) (wc.heap.size + 1) 1 (opsC [⟨1 + (kk : Int), (mm : Int) + 1, hi, b⟩]) rfl rfl (new_four0 _ _ _ (by simp) _ _ _ _) (opsC_one _) (by simp only [maxLen]; omega) (by omega) (by simp; omega) ?_))
        intro v9 w9 hown9_ hg9
        have hown9 : w9.ownsRow V8.heap.size 39 4 v9 (ol + 2) (opsC (os ++ [⟨1 + (kk : Int), lo, mm, b⟩] ++ [⟨1 + (kk : Int), (mm : Int) + 1, hi, b⟩])) := by rw [HA2.out]; exact hown9_
        have hbb : Below wc.heap.size wc ((wc.alloc (.cells #[.int .i64 (1 + (kk : Int)), .int .i64 ((mm : Int) + 1), .int .i64 (hi : Int), .int .i64 b] 39)).alloc (.cells #[.int .i64 (1 + (kk : Int)), .int .i64 ((mm : Int) + 1), .int .i64 (hi : Int), .int .i64 b] 39)) := (bnew wc _).alloc (by simp) _
        have hkeep : ∀ k, k < V8.heap.size → w9.heap[k]? = wc.heap[k]? := fun k hk => (hg9.block k (by simp; omega) (fun e => by have := (HO8.out.lt k e.symm).1; omega)).trans (hbb.block k (by omega))
        have hb9 : Below V8.heap.size wc w9 := ⟨hg9.os, hg9.tape, hg9.output, Nat.le_trans hbb.size hg9.size, hkeep⟩
        have hb19 : Below w.heap.size w w9 := hbc1.trans (hb9.mono hb18.size)
        have HLB := Lib.hid (show Lies w9 w9.heap.size B4 (opsC os) from (HLBx.out.below hb9).wide (Nat.le_trans hzV hb9.size))
        have HL39 := Lib.hid (show Lies w9 w9.heap.size A3 (cellsOf f n) from (HL3x.out.below hb9).wide (Nat.le_trans hzV hb9.size))
        have hYn := HYc.out.below hb9 hY8
        clear s0 s1 s2 s3 hkeep hbb hg9 hown9_ HO8 hb9 hbc1 HLBc HL3c HLBx HL3x
        have s0 : w9.cell? ⟨Y, 0, none⟩ = some (.int .i64 (1 + (kk : Int))) := hYn.cell 0
        have s1 : w9.cell? ⟨Y, 1, none⟩ = some (.int .i64 (lo : Int)) := hYn.cell 1
        have s2 : w9.cell? ⟨Y, 2, none⟩ = some (.int .i64 (hi : Int)) := hYn.cell 2
        have s3 : w9.cell? ⟨Y, 3, none⟩ = some (.int .i64 b) := hYn.cell 3
        have hY9 : Y < w9.heap.size := hYn.lt
        clear hYn
        have HAp := Lib.hid (opsC_append os [⟨1 + (kk : Int), lo, hi, b⟩])
        obtain ⟨B9, d9, rfl, hl9, hn9, x9⟩ := own_slice_all hown9
        have HL9 := Lib.hid hl9
        have HN9 := Lib.hid hn9
        clear hown9 hl9 hn9 x9
        go_upto_region 13 with fail
        go_cut [16, 17, 18] (fun s16 s17 s18 wx => BehRel w9 E n (ol + 1) B9 (opsC (os ++ [⟨1 + (kk : Int), lo, mm, b⟩] ++ [⟨1 + (kk : Int), (mm : Int) + 1, hi, b⟩])) A3 (cellsOf f n) s16 s17 s18 wx)
        case first =>
          go_region_law (first
                | ((refine step_append_recs _ (by rfl) (.tmp 76) (.tmp 78) 23 (by rfl) w9.heap.size 39 (.agg #[.int .i64 0, .int .i64 0, .int .i64 0, .int .i64 0]) 4 32 Try.underlying23 op9_info rfl (by decide) v6 ol _ (by rfl) (by exact hown6.alloc _) (some ⟨w6.heap.size, 0, none⟩) 1 1 (opsC [⟨1 + (kk : Int), lo, hi, b⟩]) (by rfl) (by rfl) (fun e => by cases e) (by exact (Blk.new w6 39 (opsC [⟨1 + (kk : Int), lo, hi, b⟩])).lies) (opsC_one _) (by simp only [maxLen]; omega) (by omega) (by have := hb6.size; simp; omega) ?_; intro v7 w7 hown7 hg7; have hb7 : Below w9.heap.size w9 w7 := (hb6.alloc hb6.size _).grown hg7 (by have := hb6.size; simp; omega) (fun q hq => (hown6.lt q hq).1); rw [← HAp.out] at hown7; clear hg7; obtain ⟨B7, d7, rfl, hl7, hn7, x7⟩ := own_slice_all hown7; have HL7 := Lib.hid hl7; have HN7 := Lib.hid hn7; have HL37 := Lib.hid (show Lies w7 w7.heap.size A3 ((vals f n).map (.int .i64)) from HL39.out.on hb7); have HL97 := Lib.hid (HL9.out.on hb7); clear hl7 hn7 x7 hown7))
                | ((refine step_append_recs _ (by rfl) (.tmp 76) (.tmp 78) 23 (by rfl) w9.heap.size 39 (.agg #[.int .i64 0, .int .i64 0, .int .i64 0, .int .i64 0]) 4 32 Try.underlying23 op9_info rfl (by decide) v6 ol _ (by rfl) (by exact hown6) (some ⟨w9.heap.size, 0, none⟩) 1 1 (opsC [⟨1 + (kk : Int), lo, hi, b⟩]) (by rfl) (by rfl) (fun e => by cases e) (by exact HBk.out.lies) (opsC_one _) (by simp only [maxLen]; omega) (by omega) hb6.size ?_; intro v7 w7 hown7 hg7; have hb7 : Below w9.heap.size w9 w7 := hb6.grown hg7 hb6.size (fun q hq => (hown6.lt q hq).1); rw [← HAp.out] at hown7; clear hg7; obtain ⟨B7, d7, rfl, hl7, hn7, x7⟩ := own_slice_all hown7; have HL7 := Lib.hid hl7; have HN7 := Lib.hid hn7; have HL37 := Lib.hid (show Lies w7 w7.heap.size A3 ((vals f n).map (.int .i64)) from HL39.out.on hb7); have HL97 := Lib.hid (HL9.out.on hb7); clear hl7 hn7 x7 hown7))
                | ((refine step_append_recs _ (by rfl) (.const (.slice none 0 0)) (.tmp 75) 23 (by rfl) w9.heap.size 39 (.agg #[.int .i64 0, .int .i64 0, .int .i64 0, .int .i64 0]) 4 32 Try.underlying23 op9_info rfl (by decide) (.slice none 0 0) 0 [] (by rfl) (World.ownsRow_nil _ _ _ _) B4 ol d4 (opsC os) (by rfl) HLn.out HN4.out (by exact HLB.out) H1.out (by simp only [maxLen]; omega) (by omega) (by exact Nat.le_refl _) ?_; intro v6 w6 hown6_ hg6; have hown6 : w6.ownsRow w9.heap.size 39 4 v6 ol (opsC os) := (by simpa using hown6_); have hb6 : Below w9.heap.size w9 w6 := ⟨hg6.os, hg6.tape, hg6.output, hg6.size, fun k hk => hg6.block k hk (by simp [Value.ownBlock])⟩; have hc6 := bcell hb6; clear hown6_ hg6))
                | ((refine step_append_recs _ (by rfl) (.const (.slice none 0 0)) (.tmp 75) 23 (by rfl) w9.heap.size 39 (.agg #[.int .i64 0, .int .i64 0, .int .i64 0, .int .i64 0]) 4 32 Try.underlying23 op9_info rfl (by decide) (.slice none 0 0) 0 [] (by rfl) (World.ownsRow_nil _ _ _ _) B4 ol d4 (opsC os) (by rfl) HLn.out HN4.out (by exact HLB.out.alloc _) H1.out (by simp only [maxLen]; omega) (by omega) (by simp) ?_; intro v6 w6 hown6_ hg6; have hown6 : w6.ownsRow w9.heap.size 39 4 v6 ol (opsC os) := (by simpa using hown6_); have hb6 : Below w9.heap.size w9 w6 := ((Below.refl _ _).alloc (Nat.le_refl _) _).grown (w := w9.alloc (.cells (opsC [⟨1 + (kk : Int), lo, hi, b⟩]).toArray 39)) ⟨hg6.os, hg6.tape, hg6.output, hg6.size, hg6.block⟩ (by simp) (fun q hq => by cases hq); have HBk : Hid (Blk w6 w9.heap.size 39 (opsC [⟨1 + (kk : Int), lo, hi, b⟩])) := Lib.hid ((hg6.block w9.heap.size (by simp) (by simp [Value.ownBlock])).trans (Blk.new w9 39 (opsC [⟨1 + (kk : Int), lo, hi, b⟩]))); have hc6 := bcell hb6; clear hown6_ hg6))
                | (go_simp; go_at_call 12; (with_reducible refine (HBa.out A3 B7 c3 d7 _ HN3.out HN7.out HL37.out HL7.out).mono ?_); rintro e w8 ⟨A8, c8, B8, d8, rfl, hx8, hy8, hb8_⟩))
          all_goals
            go_wp2_with fail
            go_simp
            go_meet
            case rel => exact ⟨A8, c8, B8, d8, rfl, rfl, rfl, hx8, HL97.out.on hb8_, HL37.out.on hb8_, chain hb7 hb8_⟩
        case rest =>
          obtain ⟨A8, c8, B8, d8, rfl, rfl, rfl, hx8, hl9c, hl3c, hb9c⟩ := hcut
          have HX8 := Lib.hid hx8
          have HL9c := Lib.hid hl9c
          have HL3c := Lib.hid hl3c
          have hb1c := chain hb19 hb9c
          clear hx8 hl9c hl3c hb9c HL9 HL39 HLB s0 s1 s2 s3
          go_wp2_with fail
          refine (HBb.out A3 B9 c3 d9 _ HN3.out HN9.out HL3c.out HL9c.out).mono ?_
          rintro e w9 ⟨A9, c9, B10, d10, rfl, hx9, hy9, hb9⟩
          have HX9 := Lib.hid hx9
          have HX89 := Lib.hid (HX8.out.on hb9)
          have hb1d := chain hb1c hb9
          clear hx9 hy9 hb9 HX8
          go_wp2_with fail
          refine (HSm.out A8 A9 c8 c9 _ HX89.out HX9.out).mono ?_
          rintro e w10 ⟨rfl, hb10⟩
          go_wp2_with fail
          go_ret
          exact ⟨rfl, chain hb1d hb10⟩
      · obtain rfl : hi = mm := by omega
        have HBb := HBa
        generalize runL (vals f n) (os ++ [(⟨1 + (kk : Int), lo, hi, b⟩ : Op9)]) (ol + 1) = E at *
        rw [hla] at hown8
        have hown9 := hown8
        have hb19 := hbc1
        have HLB := HLBc
        have HL39 := HL3c
        have s0 : wc.cell? ⟨Y, 0, none⟩ = some (.int .i64 (1 + (kk : Int))) := HYc.out.cell 0
        have s1 : wc.cell? ⟨Y, 1, none⟩ = some (.int .i64 (lo : Int)) := HYc.out.cell 1
        have s2 : wc.cell? ⟨Y, 2, none⟩ = some (.int .i64 (hi : Int)) := HYc.out.cell 2
        have s3 : wc.cell? ⟨Y, 3, none⟩ = some (.int .i64 b) := HYc.out.cell 3
        clear hown8 hbc1 HLBc HL3c HLBx HL3x hla hlE
        have HAp := Lib.hid (opsC_append os [⟨1 + (kk : Int), lo, hi, b⟩])
        obtain ⟨B9, d9, rfl, hl9, hn9, x9⟩ := own_slice_all hown9
        have HL9 := Lib.hid hl9
        have HN9 := Lib.hid hn9
        clear hown9 hl9 hn9 x9
        go_upto_region 13 with fail
        go_cut [16, 17, 18] (fun s16 s17 s18 wx => BehRel wc E n (ol + 1) B9 (opsC (os ++ [⟨1 + (kk : Int), lo, hi, b⟩])) A3 (cellsOf f n) s16 s17 s18 wx)
        case first =>
          go_region_law (first
                | ((refine step_append_recs _ (by rfl) (.tmp 76) (.tmp 78) 23 (by rfl) wc.heap.size 39 (.agg #[.int .i64 0, .int .i64 0, .int .i64 0, .int .i64 0]) 4 32 Try.underlying23 op9_info rfl (by decide) v6 ol _ (by rfl) (by exact hown6.alloc _) (some ⟨w6.heap.size, 0, none⟩) 1 1 (opsC [⟨1 + (kk : Int), lo, hi, b⟩]) (by rfl) (by rfl) (fun e => by cases e) (by exact (Blk.new w6 39 (opsC [⟨1 + (kk : Int), lo, hi, b⟩])).lies) (opsC_one _) (by simp only [maxLen]; omega) (by omega) (by have := hb6.size; simp; omega) ?_; intro v7 w7 hown7 hg7; have hb7 : Below wc.heap.size wc w7 := (hb6.alloc hb6.size _).grown hg7 (by have := hb6.size; simp; omega) (fun q hq => (hown6.lt q hq).1); rw [← HAp.out] at hown7; clear hg7; obtain ⟨B7, d7, rfl, hl7, hn7, x7⟩ := own_slice_all hown7; have HL7 := Lib.hid hl7; have HN7 := Lib.hid hn7; have HL37 := Lib.hid (show Lies w7 w7.heap.size A3 ((vals f n).map (.int .i64)) from HL39.out.on hb7); have HL97 := Lib.hid (HL9.out.on hb7); clear hl7 hn7 x7 hown7))
                | ((refine step_append_recs _ (by rfl) (.tmp 76) (.tmp 78) 23 (by rfl) wc.heap.size 39 (.agg #[.int .i64 0, .int .i64 0, .int .i64 0, .int .i64 0]) 4 32 Try.underlying23 op9_info rfl (by decide) v6 ol _ (by rfl) (by exact hown6) (some ⟨wc.heap.size, 0, none⟩) 1 1 (opsC [⟨1 + (kk : Int), lo, hi, b⟩]) (by rfl) (by rfl) (fun e => by cases e) (by exact HBk.out.lies) (opsC_one _) (by simp only [maxLen]; omega) (by omega) hb6.size ?_; intro v7 w7 hown7 hg7; have hb7 : Below wc.heap.size wc w7 := hb6.grown hg7 hb6.size (fun q hq => (hown6.lt q hq).1); rw [← HAp.out] at hown7; clear hg7; obtain ⟨B7, d7, rfl, hl7, hn7, x7⟩ := own_slice_all hown7; have HL7 := Lib.hid hl7; have HN7 := Lib.hid hn7; have HL37 := Lib.hid (show Lies w7 w7.heap.size A3 ((vals f n).map (.int .i64)) from HL39.out.on hb7); have HL97 := Lib.hid (HL9.out.on hb7); clear hl7 hn7 x7 hown7))
                | ((refine step_append_recs _ (by rfl) (.const (.slice none 0 0)) (.tmp 75) 23 (by rfl) wc.heap.size 39 (.agg #[.int .i64 0, .int .i64 0, .int .i64 0, .int .i64 0]) 4 32 Try.underlying23 op9_info rfl (by decide) (.slice none 0 0) 0 [] (by rfl) (World.ownsRow_nil _ _ _ _) B4 ol d4 (opsC os) (by rfl) HLn.out HN4.out (by exact HLB.out) H1.out (by simp only [maxLen]; omega) (by omega) (by exact Nat.le_refl _) ?_; intro v6 w6 hown6_ hg6; have hown6 : w6.ownsRow wc.heap.size 39 4 v6 ol (opsC os) := (by simpa using hown6_); have hb6 : Below wc.heap.size wc w6 := ⟨hg6.os, hg6.tape, hg6.output, hg6.size, fun k hk => hg6.block k hk (by simp [Value.ownBlock])⟩; have hc6 := bcell hb6; clear hown6_ hg6))
                | ((refine step_append_recs _ (by rfl) (.const (.slice none 0 0)) (.tmp 75) 23 (by rfl) wc.heap.size 39 (.agg #[.int .i64 0, .int .i64 0, .int .i64 0, .int .i64 0]) 4 32 Try.underlying23 op9_info rfl (by decide) (.slice none 0 0) 0 [] (by rfl) (World.ownsRow_nil _ _ _ _) B4 ol d4 (opsC os) (by rfl) HLn.out HN4.out (by exact HLB.out.alloc _) H1.out (by simp only [maxLen]; omega) (by omega) (by simp) ?_; intro v6 w6 hown6_ hg6; have hown6 : w6.ownsRow wc.heap.size 39 4 v6 ol (opsC os) := (by simpa using hown6_); have hb6 : Below wc.heap.size wc w6 := ((Below.refl _ _).alloc (Nat.le_refl _) _).grown (w := wc.alloc (.cells (opsC [⟨1 + (kk : Int), lo, hi, b⟩]).toArray 39)) ⟨hg6.os, hg6.tape, hg6.output, hg6.size, hg6.block⟩ (by simp) (fun q hq => by cases hq); have HBk : Hid (Blk w6 wc.heap.size 39 (opsC [⟨1 + (kk : Int), lo, hi, b⟩])) := Lib.hid ((hg6.block wc.heap.size (by simp) (by simp [Value.ownBlock])).trans (Blk.new wc 39 (opsC [⟨1 + (kk : Int), lo, hi, b⟩]))); have hc6 := bcell hb6; clear hown6_ hg6))
                | (go_simp; go_at_call 12; (with_reducible refine (HBa.out A3 B7 c3 d7 _ HN3.out HN7.out HL37.out HL7.out).mono ?_); rintro e w8 ⟨A8, c8, B8, d8, rfl, hx8, hy8, hb8_⟩))
          all_goals
            go_wp2_with fail
            go_simp
            go_meet
            case rel => exact ⟨A8, c8, B8, d8, rfl, rfl, rfl, hx8, HL97.out.on hb8_, HL37.out.on hb8_, chain hb7 hb8_⟩
        case rest =>
          obtain ⟨A8, c8, B8, d8, rfl, rfl, rfl, hx8, hl9c, hl3c, hb9c⟩ := hcut
          have HX8 := Lib.hid hx8
          have HL9c := Lib.hid hl9c
          have HL3c := Lib.hid hl3c
          have hb1c := chain hb19 hb9c
          clear hx8 hl9c hl3c hb9c HL9 HL39 HLB s0 s1 s2 s3
          go_wp2_with fail
          refine (HBb.out A3 B9 c3 d9 _ HN3.out HN9.out HL3c.out HL9c.out).mono ?_
          rintro e w9 ⟨A9, c9, B10, d10, rfl, hx9, hy9, hb9⟩
          have HX9 := Lib.hid hx9
          have HX89 := Lib.hid (HX8.out.on hb9)
          have hb1d := chain hb1c hb9
          clear hx9 hy9 hb9 HX8
          go_wp2_with fail
          refine (HSm.out A8 A9 c8 c9 _ HX89.out HX9.out).mono ?_
          rintro e w10 ⟨rfl, hb10⟩
          go_wp2_with fail
          go_ret
          exact ⟨rfl, chain hb1d hb10⟩

set_option maxRecDepth 100000 in
theorem lifted (os : Os) (started : os.Started) (H : Type) (enc : TypeId × Value → H) :
    ReturnsInHanded {} Try.checked os 5 .any (Rows.segSplitSpec.pre6 enc Try.prog Try.f5 Rows.segSplitRow.domain false) (Rows.segSplitSpec.post enc Try.prog Try.f5 false true false false) := by
  refine returnsInHanded_of_change_sized (C := Try.checked) own started (by kernel_rfl) Try.func5
    (ChangeSpec.witness6 (enc := enc) (C := Try.checked) false ⟨#[], #[.slice none 0 0, .slice none 0 0, .agg #[.int .i64 0, .int .i64 0, .int .i64 0, .int .i64 0], .int .i64 0], []⟩ 8 (by kernel_rfl) (by kernel_rfl) (by kernel_rfl) (by kernel_rfl)) ?_
  intro W base args ds gs before hval0 hW hcnd hsz0 _
  have hval : ∀ (j : Nat) t v, Try.f5.params[j]? = some t → args[j]? = some v → Value.okWide Try.prog W .any base t v := hval0
  have hW' := hW
  obtain ⟨p, q, hA0, hV, rfl, hfz, hnd⟩ := hW
  have hA : DataW.TrodAll enc Try.prog W 0 (fun _ => true) true Try.f5.params.toList args.toList ds p := hA0
  have hsz : (DataW.weightsEach Try.prog (Try.f5.params.toList ++ Rows.segSplitSpec.plain.varTypes Try.prog) (ds ++ gs)).all (· ≤ reachBytes) = true := hsz0
  rw [Try.params5] at hA hval hsz
  obtain ⟨v0, vs0, d0, ds0, p0, q0, hargs, rfl, rfl, h0, r0⟩ := trodAll_cons hA
  obtain ⟨v1, vs1, d1, ds1, p1, q1, rfl, rfl, rfl, h1, r1⟩ := trodAll_cons r0
  obtain ⟨v2, vs2, d2, ds2, p2, q2, rfl, rfl, rfl, h2, r2⟩ := trodAll_cons r1
  obtain ⟨v3, vs3, d3, ds3, p3, q3, rfl, rfl, rfl, h3, r3⟩ := trodAll_cons r2
  obtain ⟨rfl, rfl, rfl⟩ := trodAll_nil r3
  obtain rfl : args = #[v0, v1, v2, v3] := by cases args; simp_all
  obtain ⟨rfl, rfl⟩ := trodVars_none hV
  obtain ⟨A0, n0, c0, rfl⟩ := okWide_slice Try.underlying22 (hval 0 22 v0 rfl rfl)
  have k0 := h0
  have lt0 : ∀ x ∈ p0, x.block < W.heap.size := by obtain ⟨m, hm⟩ := k0; exact DataW.trod_lt m _ _ _ hm
  obtain ⟨fuel0, hf0⟩ := h0
  obtain ⟨A0_, l0, c0_, hcs0, hle0, hcap0, hnil0, w0⟩ := rd_ints Try.underlying22 Try.underlying3 (by kernel_rfl) (by kernel_rfl) hf0 (weight_arg hsz (j := 0) (t := 22) rfl rfl)
  have hcs0_ : [Value.slice A0 n0 c0] = [.slice A0_ l0.length c0_] := hcs0
  simp only [List.cons.injEq, Value.slice.injEq, and_true] at hcs0_
  obtain ⟨rfl, rfl, rfl⟩ := hcs0_
  clear hcs0
  obtain ⟨A1, n1, c1, rfl⟩ := okWide_slice Try.underlying32 (hval 1 32 v1 rfl rfl)
  have k1 := h1
  have lt1 : ∀ x ∈ p1, x.block < W.heap.size := by obtain ⟨m, hm⟩ := k1; exact DataW.trod_lt m _ _ _ hm
  obtain ⟨fuel1, hf1⟩ := h1
  obtain ⟨A1_, l1, c1_, hcs1, hle1, hcap1, hnil1, w1, f1⟩ := rd_fours Try.underlying32 Try.underlying42 (by kernel_rfl) (by kernel_rfl) rfl rfl rfl rfl rfl rfl rfl rfl Try.underlying3 (by kernel_rfl) hf1 (weight_arg hsz (j := 1) (t := 32) rfl rfl)
  have hcs1_ : [Value.slice A1 n1 c1] = [.slice A1_ l1.length c1_] := hcs1
  simp only [List.cons.injEq, Value.slice.injEq, and_true] at hcs1_
  obtain ⟨rfl, rfl, rfl⟩ := hcs1_
  clear hcs1
  obtain ⟨cs2, rfl, hsize2⟩ := okWide_struct Try.underlying42 (hval 2 42 v2 rfl rfl)
  have k2 := h2
  have lt2 : ∀ x ∈ p2, x.block < W.heap.size := by obtain ⟨m, hm⟩ := k2; exact DataW.trod_lt m _ _ _ hm
  obtain ⟨fuel2, hf2⟩ := h2
  obtain ⟨o2, hcs2, f2⟩ := rd_four Try.underlying42 (by kernel_rfl) rfl rfl rfl rfl rfl rfl rfl rfl Try.underlying3 (by kernel_rfl) hf2
  have hcs2_ : cs2 = #[.int .i64 o2.k, .int .i64 o2.lo, .int .i64 o2.hi, .int .i64 o2.by_] := Array.toList_inj.1 hcs2
  subst hcs2_
  clear hcs2
  obtain ⟨a3, rfl, rfl, rfl, w3⟩ := open_int Try.underlying3 (hval 3 3 v3 rfl rfl) h3
  clear hA0 hval0
  refine (walk A0 l0 c0 A1 l1 c1 o2 a3 W hle0 hcap0 hnil0 w0 hle1 hcap1 hnil1 w1 f1 f2 w3).mono fun e W' ⟨he, bel⟩ => ?_
  subst he
  exact ⟨_, rfl, _, _, _, [], _, [], hW', trodAll_mk1 (shut_bool Try.underlying4 _), (trodAll_cons_mk (Below.trod laidOut (by kernel_rfl) (of_decide_eq_true (by kernel_rfl)) k0 bel lt0) (trodAll_cons_mk (Below.trod laidOut (by kernel_rfl) (of_decide_eq_true (by kernel_rfl)) k1 bel lt1) (trodAll_cons_mk (Below.trod laidOut (by kernel_rfl) (of_decide_eq_true (by kernel_rfl)) k2 bel lt2) (trodAll_cons_mk (shut_int Try.underlying3 w3) trodAll_mk0)))), rfl, bel.frame _, fun h => by cases h⟩

theorem over : Rows.segSplitRow.holds Try.pinned (OpenSpec.ofChange Rows.segSplitSpec) :=
  OpenClaim.holds_of_wide 5 Try.f5 rfl rfl rfl rfl rfl rfl rfl ⟨rfl, rfl, rfl, rfl, rfl⟩ rfl rfl rfl rfl rfl (by kernel_rfl) Try.func5 (by kernel_rfl)
    (of_decide_eq_true (by kernel_rfl)) (by unfold Func.isWrapper; first | (rw [if_pos (by decide +kernel)]; kernel_rfl) | (rw [if_neg (by decide +kernel)]; exact ⟨rfl, rfl⟩))
    (fun os started H enc _ => lifted os started H enc)

/-- THE STATEMENT. -/
theorem proved : Rows.SegSplitSaid := over
#print axioms proved
end Go.Proofs.Ytnjpehgmlfenbaa.segSplit
