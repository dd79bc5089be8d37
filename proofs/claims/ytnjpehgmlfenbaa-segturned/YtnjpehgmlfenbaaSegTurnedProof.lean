/-
  For every list, every list of operations and every operation: Go's seg.Play leaves the same list behind additions in either order and an assignment, and the assignment determines the numbers of its range.
  No condition.
-/
import Derived.Test.YtnjpehgmlfenbaaRows
import Derived.Test.YtnjpehgmlfenbaaFrame
import Derived.Test.YtnjpehgmlfenbaaFrameS
import Derived.Test.YtnjpehgmlfenbaaSegTu
import Derived.WalkKit
import Derived.ProofKit
import Derived.OpenShut
import Derived.ChangeOld
import Derived.Below
import Derived.Carry
import Derived.SizedLaws
import Derived.Deep.RegionWith
import Derived.Deep.RegionHeld3
namespace Go.Proofs.Ytnjpehgmlfenbaa.segTurned
open Go.ChangeShapes Go.WideShapes Go.ChangeAt Go.RowKit Words
set_option linter.unusedVariables false

theorem own : ownKnob Try.prog.godebug = none := by kernel_rfl
theorem laidOut : laidOutB Try.prog = true := by kernel_rfl

set_option maxRecDepth 100000 in
set_option maxHeartbeats 4000000 in
/-- The walk: the Go text returns true, and writes nothing that was there. -/
theorem walk (A0 : Option Addr) (l0 : List Int) (c0 : Nat) (A1 : Option Addr) (l1 : List Op9) (c1 : Nat) (o2 : Op9) (w : World) (hle0 : l0.length ≤ c0) (hcap0 : c0 * 8 ≤ 140737488351232) (hnil0 : A0 = none → c0 = 0) (w0 : Lies w w.heap.size A0 (l0.map (.int .i64)) ∧ ∀ z ∈ l0, (Lit.int .i64 z).wf = true) (hle1 : l1.length ≤ c1) (hcap1 : c1 * 32 ≤ 140737488351232) (hnil1 : A1 = none → c1 = 0) (w1 : Lies w w.heap.size A1 (opsC l1)) (f1 : ∀ o ∈ l1, o.Fits) (f2 : o2.Fits) :
    Calls Try.prog 6 #[.slice A0 l0.length c0, .slice A1 l1.length c1, .agg #[.int .i64 o2.k, .int .i64 o2.lo, .int .i64 o2.hi, .int .i64 o2.by_]] w fun e w' => e = .returned (.bool true) ∧ Below w.heap.size w w' := by
  have HSi := Lib.hid (fun W hL => signed_any A0 l0 c0 60 500 W (by decide) (by decide) w0.2 hL)
  have hlm := sgn_lim 60 500 l0
  have hpl := picks_length 60 (2 * 500 + 1) l0
  unfold GivesF at HSi
  have HL0 := Lib.hid w0.1
  have HL1 := Lib.hid w1
  have HF1 := Lib.hid f1
  clear w0 w1 f1 hnil0 hle0 hcap0
  generalize (picks 60 (2 * 500 + 1) l0).length = m at *
  have HCe := Lib.hid (cells_snoc (sgn 60 500 l0) m 3)
  have hLf : Lim 500 (snoc (sgn 60 500 l0) m 3) (m + 1) := hlm.snoc 3 (by decide)
  clear hlm
  generalize snoc (sgn 60 500 l0) m 3 = f at *
  generalize sgn 60 500 l0 = f0 at *
  obtain ⟨n, hn⟩ : ∃ n, m + 1 = n := ⟨_, rfl⟩
  have hn1 : n ≤ 61 := by omega
  have hn0 : 0 < n := by omega
  rw [hn] at HCe hLf
  have hLn : (vals f n).length = n := vals_length f n
  have hCos : Cos (vals f n) := fun z hz => by have := hLf.win z hz; unfold In at this; unfold Co; omega
  have HOps := Lib.hid (fun W hL => ops_any A1 l1 c1 30 n W (by decide) hn0 (by omega) HF1.out hL)
  have HOps1 := Lib.hid (fun A W hL => ops_any A [o2] 1 1 n W (by decide) hn0 (by omega) (fun o ho => by rw [List.mem_singleton.1 ho]; exact f2) hL)
  have hol := opsOf_length 30 n l1
  obtain ⟨g0, g1, g2, g3⟩ := f2
  have hlo := pick_lt hn0 o2.lo
  have hp2 := pick_lt (n := n - pick n o2.lo) (by omega) o2.hi
  have hby := pick_lt (n := 2001) (by decide) o2.by_
  have hk4 := pick_lt (n := 4) (by decide) o2.k
  have e1 : opsOf 1 n [o2] = [opOf n o2] := rfl
  have e2 : opsC [opOf n o2] = [.int .i64 (1 + (pick 4 o2.k : Int)), .int .i64 (pick n o2.lo : Int), .int .i64 ((pick n o2.lo : Int) + (pick (n - pick n o2.lo) o2.hi : Int)), .int .i64 ((pick 2001 o2.by_ : Int) - 1000)] := rfl
  unfold GivesOps at HOps HOps1
  rw [e1, e2] at HOps1
  have e3 : [opOf n o2].length = 1 := rfl
  rw [e3] at HOps1
  clear e1 e2 e3 g0 g1 g2 g3
  have hoi : ∀ o ∈ opsOf 30 n l1, o.In n := fun o ho => by
    obtain ⟨x, _, rfl⟩ := List.mem_map.1 ho
    exact opOf_in n hn0 x
  generalize opsOf 30 n l1 = os at *
  generalize pick 4 o2.k = k4 at *
  generalize pick n o2.lo = lo at *
  generalize pick (n - lo) o2.hi = p2 at *
  obtain ⟨hi, hhi⟩ : ∃ hi, lo + p2 = hi := ⟨_, rfl⟩
  obtain ⟨b, hb⟩ : ∃ b : Int, (pick 2001 o2.by_ : Int) - 1000 = b := ⟨_, rfl⟩
  have hb0 : -1000 ≤ b ∧ b ≤ 1000 := by omega
  rw [hb, show (lo : Int) + (p2 : Int) = (hi : Int) by omega] at HOps1
  have hlh : lo ≤ hi := by omega
  have hhn : hi < n := by omega
  have hos : os.length ≤ 30 := by omega
  obtain ⟨ol, hol2⟩ : ∃ ol, os.length = ol := ⟨_, rfl⟩
  rw [hol2] at HOps hos
  have HOL := Lib.hid hol2
  clear hhi hb hol hol2 hby hp2 hk4 hpl
  have hoa : ∀ o ∈ os.map add1, o.k = 1 := fun o ho => by
    obtain ⟨x, _, rfl⟩ := List.mem_map.1 ho
    rfl
  have hob : ∀ o ∈ os.map add1, o.In (vals f n).length := fun o ho => by
    obtain ⟨x, hx, rfl⟩ := List.mem_map.1 ho
    have h := hoi x hx
    rw [hLn]
    exact ⟨by show (1 : Int) ≤ 1; omega, by show (1 : Int) ≤ 4; omega, h.lo, h.lh, h.hi, h.co⟩
  have hsi : (⟨2, lo, hi, b⟩ : Op9).In (vals f n).length := by
    rw [hLn]
    exact ⟨by show (1 : Int) ≤ 2; omega, by show (2 : Int) ≤ 4; omega, by show (0 : Int) ≤ (lo : Int); omega, by show (lo : Int) ≤ (hi : Int); omega, by show (hi : Int) < (n : Int); omega, hb0⟩
  have hla : (os.map add1 ++ [(⟨2, lo, hi, b⟩ : Op9)]).length = ol + 1 := by rw [List.length_append, List.length_map, HOL.out]; rfl
  have hlb : ((os.map add1).reverse ++ [(⟨2, lo, hi, b⟩ : Op9)]).length = ol + 1 := by rw [List.length_append, List.length_reverse, List.length_map, HOL.out]; rfl
  have HBa := Lib.hid (fun A B c d W hA hB hL hO => behind_new A B (vals f n) (os.map add1 ++ [⟨2, lo, hi, b⟩]) c d W (by omega) (by omega) (by rw [hla]; omega) hCos hA hB hL hO)
  have HBb := Lib.hid (fun A B c d W hA hB hL hO => behind_any A B (vals f n) ((os.map add1).reverse ++ [⟨2, lo, hi, b⟩]) c d W (by omega) (by omega) (by rw [hlb]; omega) hCos hA hB hL hO)
  unfold BehindN at HBa
  unfold Behind at HBb
  rw [turned_eq (vals f n) (os.map add1) ⟨2, lo, hi, b⟩ hoa hob, hla, hlb, hLn] at HBb
  rw [hla, hLn] at HBa
  have HSt := Lib.hid (fun (i : Nat) h1 h2 => set_stays (vals f n) (os.map add1) ⟨2, lo, hi, b⟩ rfl hsi i h1 h2)
  rw [hla] at HSt
  have hlE : (runL (vals f n) (os.map add1 ++ [(⟨2, lo, hi, b⟩ : Op9)]) (ol + 1)).length = n := by rw [runL_length, hLn]
  have HSm := Lib.hid (fun A A2 c c2 W h1 h2 => sameIntsK_eq A A2 (runL (vals f n) (os.map add1 ++ [(⟨2, lo, hi, b⟩ : Op9)]) (ol + 1)) c c2 W (by rw [hlE]; omega) h1 h2)
  rw [hlE] at HSm
  have HEl := Lib.hid hlE
  generalize runL (vals f n) (os.map add1 ++ [(⟨2, lo, hi, b⟩ : Op9)]) (ol + 1) = E at *
  have HAa := Lib.hid (opsC_append (os.map add1) [⟨2, lo, hi, b⟩])
  have HAb := Lib.hid (opsC_append (os.map add1).reverse [⟨2, lo, hi, b⟩])
  clear hoa hob hsi hla hlb hlE hoi
  go_enter Try.func6, Try.ntmps6
  go_wp2_with fail
  have HX1 := Lib.hid (Blk.new w 42 o2.cells)
  have hb01 := bnew w (.cells #[.int .i64 o2.k, .int .i64 o2.lo, .int .i64 o2.hi, .int .i64 o2.by_] 42)
  have HL01 := Lib.hid (HL0.out.on hb01)
  have HL11 := Lib.hid (HL1.out.on hb01)
  have HX1' : Hid (Blk (w.alloc (.cells #[.int .i64 o2.k, .int .i64 o2.lo, .int .i64 o2.hi, .int .i64 o2.by_] 42)) w.heap.size 42 o2.cells) := HX1
  clear HX1 HL0 HL1
  generalize w.alloc (.cells #[.int .i64 o2.k, .int .i64 o2.lo, .int .i64 o2.hi, .int .i64 o2.by_] 42) = W1 at *
  refine (HSi.out W1 HL01.out).mono ?_
  rintro e v1 ⟨A1_, c1_, rfl, hown, hb1⟩
  have hsz := hb1.size
  go_wp2_with (at_builtin; go_loud (refine append_one _ rfl (.tmp 20) (.tmp 21) 22 rfl W1.heap.size 3 (.int .i64 0) 8 Try.underlying22 fint_info rfl (.slice A1_ m c1_) m _ rfl (hown.alloc _) v1.heap.size 1 (.int .i64 3) rfl (by simp) rfl (by simp only [maxLen]; omega) (by omega) (by simp; omega) ?_))
  intro v2 v3 hown2 hg2
  have hb3 : Below W1.heap.size W1 v3 := (hb1.alloc hsz _).grown hg2 (by simp; omega) (fun q hq => (hown.lt q hq).1)
  rw [HCe.out] at hown2
  obtain ⟨A3, c3, rfl, x1, x2, hl3, hn3, x3⟩ := own_slice hown2
  clear x1 x2 x3
  have HL3 := Lib.hid hl3
  have HN3 := Lib.hid hn3
  have hX3 := HX1'.out.below hb3 HX1'.out.lt
  have HX3 := Lib.hid hX3
  have hb03 : Below w.heap.size w v3 := chain hb01 hb3
  clear hown2 hg2 hown hb1 hl3 hn3 hsz hn HSi HCe hX3 hb01
  go_wp2_with fail
  refine (HOps.out _ (HL11.out.on hb3)).mono ?_
  rintro e v4 ⟨v, rfl, hown4, hb4⟩
  obtain ⟨B8, d8, rfl, hl4, hn4, hw4⟩ := own_slice_all hown4
  have HT0 : Hid (TuAt v3 v4 os B8 ol d8 0 (.slice none 0 0) v4) := Lib.hid ⟨hown4, World.ownsRow_nil _ _ _ _, fun ad e => (hown4.lt ad.block (by rw [e]; rfl)).2, Nat.le_refl _, hb4.size, hb4⟩
  clear hown4 hl4 hn4 hw4 hb4 hb3
  go_wp2_with fail
  go_loopw [9, 10] (fun v a w' => ∃ i : Nat, i ≤ ol ∧ a = .int .i64 i ∧ TuAt v3 v4 os B8 ol d8 i v w') (fun _ a _ => ol - (intOf a).toNat)
  case atStart => exact ⟨0, Nat.zero_le _, rfl, HT0.out⟩
  case round =>
    clear HT0
    obtain ⟨i, hi_, rfl, hT⟩ := hrel
    by_cases hlt : i < ol
    · have hget : os[i]? = some os[i]! := by
        have : i < os.length := by rw [HOL.out]; exact hlt
        rw [List.getElem!_eq_getElem?_getD, List.getElem?_eq_getElem this]; rfl
      generalize os[i]! = o at *
      obtain ⟨g8, rfl, hg80, hg8⟩ := own_at_n hT.ops (by omega)
      have hold : g8 < v4.heap.size := hT.old _ rfl
      have hmg : (mixed os i)[i]? = some o := by rw [mixed_get os i i (by rw [HOL.out]; omega), if_neg (Nat.lt_irrefl _)]; exact hget
      have k0 : wr.cell? ⟨g8, i * 4, none⟩ = some (.int .i64 o.k) := own_cell_n hT.ops (opsC_get _ i o 0 hmg (by decide))
      have k1 : wr.cell? ⟨g8, i * 4 + 1, none⟩ = some (.int .i64 o.lo) := own_cell_n hT.ops (opsC_get _ i o 1 hmg (by decide))
      have k2 : wr.cell? ⟨g8, i * 4 + 2, none⟩ = some (.int .i64 o.hi) := own_cell_n hT.ops (opsC_get _ i o 2 hmg (by decide))
      have k3 : wr.cell? ⟨g8, i * 4 + 3, none⟩ = some (.int .i64 o.by_) := own_cell_n hT.ops (opsC_get _ i o 3 hmg (by decide))
      have hfz := own_frozen_n hT.ops
      have HPo := Lib.hid (own_put_n hT.ops (i * 4) (.int .i64 1))
      rw [mixed_cells hget] at HPo
      have HBk : Hid ((wr.setCell ⟨g8, i * 4, none⟩ (.int .i64 1)).ownsRow v4.heap.size 39 4 u9 i (opsC (revd os i))) := Lib.hid (own_block hT.back fun q hq _ => Below.heap_setCell wr ⟨g8, i * 4, none⟩ _ q (by have := (hT.back.lt q hq).1; show q ≠ g8; omega))
      have hbl : Below v3.heap.size v3 (wr.setCell ⟨g8, i * 4, none⟩ (.int .i64 1)) := hT.bel.setCell (by show v3.heap.size ≤ g8; exact hg80) _
      have HRv : Hid (opsC (revd os (i + 1)) = [.int .i64 1, .int .i64 o.lo, .int .i64 o.hi, .int .i64 o.by_] ++ opsC (revd os i)) := Lib.hid (by rw [revd_step hget]; rfl)
      have HRl := Lib.hid (opsC_length (revd os i))
      rw [revd_length os i (by rw [HOL.out]; omega)] at HRl
      have hzw := hT.zw
      have hz34 := hT.z34
      have hiI : (i : Int) < (ol : Int) := by omega
      have hsz2 : (wr.setCell ⟨g8, i * 4, none⟩ (.int .i64 1)).heap.size = wr.heap.size := World.size_setCell _ _ _
      have HSz := Lib.hid hsz2
      clear hT hget hmg hsz2
      obtain ⟨A9, c9, rfl, hl9, hn9, hw9⟩ := own_slice_all HBk.out
      have HL9 := Lib.hid hl9
      have HN9 := Lib.hid hn9
      clear hl9 hn9 hw9
      have HOw : Hid (((wr.setCell ⟨g8, i * 4, none⟩ (.int .i64 1)).alloc (.cells #[.int .i64 1, .int .i64 o.lo, .int .i64 o.hi, .int .i64 o.by_] 39)).ownsRow v4.heap.size 39 4 (.slice (some ⟨wr.heap.size, 0, none⟩) 1 1) 1 [.int .i64 1, .int .i64 o.lo, .int .i64 o.hi, .int .i64 o.by_]) := Lib.hid (by
        have h := new_own (wr.setCell ⟨g8, i * 4, none⟩ (.int .i64 1)) 39 (.int .i64 1) (.int .i64 o.lo) (.int .i64 o.hi) (.int .i64 o.by_) v4.heap.size (by rw [HSz.out]; exact hzw)
        rw [HSz.out] at h
        exact h)
      go_wp2_with (at_builtin; go_loud (refine append_recs _ rfl (.tmp 41) (.tmp 42) 23 rfl v4.heap.size 39 (.agg #[.int .i64 0, .int .i64 0, .int .i64 0, .int .i64 0]) 4 32 Try.underlying23 op9_info rfl (by decide) (.slice (some ⟨wr.heap.size, 0, none⟩) 1 1) 1 [.int .i64 1, .int .i64 o.lo, .int .i64 o.hi, .int .i64 o.by_] rfl HOw.out A9 i c9 (opsC (revd os i)) rfl HRl.out HN9.out (HL9.out.alloc _) (opsC_one _) (by simp only [maxLen]; omega) (by omega) (by simp; omega) ?_))
      intro v10 w10 hown10 hg10
      have HT1 : Hid (TuAt v3 v4 os (some ⟨g8, 0, none⟩) ol d8 (i + 1) v10 w10) := Lib.hid (by
        refine ⟨own_block HPo.out fun q hq hql => ?_, ?_, fun ad e => by obtain rfl := Option.some.inj e; exact hold, ?_, hz34, ?_⟩
        · obtain rfl : g8 = q := Option.some.inj hq
          rw [HSz.out] at hql
          exact (hg10.block g8 (by rw [World.size_alloc, HSz.out]; omega) (fun e => by have := Option.some.inj e; simp at this; omega)).trans (Below.heap_alloc _ _ g8 (by rw [HSz.out]; exact hql))
        · rw [HRv.out, show i + 1 = 1 + i by omega]
          exact hown10
        · exact Nat.le_trans hzw (Nat.le_trans (by rw [World.size_alloc, HSz.out]; omega) hg10.size)
        · exact (hbl.alloc (by rw [HSz.out]; omega) _).grown hg10 (by rw [World.size_alloc, HSz.out]; omega) (fun q hq => by have : wr.heap.size = q := Option.some.inj hq; omega))
      clear hown10 hg10
      go_wp2_with fail
      go_roundw
      case rel => exact ⟨i + 1, by omega, by go_num, HT1.out⟩
      case measure => simp [intOf]; omega
    · obtain rfl : ol = i := by omega
      have hops := hT.ops
      have hback := hT.back
      rw [← HOL.out, mixed_all, HOL.out] at hops
      rw [← HOL.out, revd_all, HOL.out] at hback
      have HOps2 := Lib.hid hops
      have HBack := Lib.hid hback
      have hold := hT.old
      have HOld := Lib.hid hold
      have hzw := hT.zw
      have hz34 := hT.z34
      have hbl := hT.bel
      have HXr := Lib.hid (HX3.out.below hbl HX3.out.lt)
      have y0 : wr.cell? ⟨w.heap.size, 0, none⟩ = some (.int .i64 o2.k) := HXr.out.cell 0
      have y1 : wr.cell? ⟨w.heap.size, 1, none⟩ = some (.int .i64 o2.lo) := HXr.out.cell 1
      have y2 : wr.cell? ⟨w.heap.size, 2, none⟩ = some (.int .i64 o2.hi) := HXr.out.cell 2
      have y3 : wr.cell? ⟨w.heap.size, 3, none⟩ = some (.int .i64 o2.by_) := HXr.out.cell 3
      clear hT hops hback hold HX3
      go_wp2_with fail
      refine (HOps1.out (some ⟨wr.heap.size, 0, none⟩) _ (Blk.new wr 42 o2.cells).lies).mono ?_
      rintro e v5 ⟨vv, rfl, hown5, hb5⟩
      obtain ⟨B5, d5, rfl, hl5, x5, x6⟩ := own_slice_all hown5
      obtain ⟨b5, p5, rfl, hbb5, hc5⟩ := hl5 (by simp)
      have t0 : v5.cell? ⟨b5, p5, none⟩ = some (.int .i64 (1 + (k4 : Int))) := hc5 0 _ rfl
      have t1 : v5.cell? ⟨b5, p5 + 1, none⟩ = some (.int .i64 (lo : Int)) := hc5 1 _ rfl
      have t2 : v5.cell? ⟨b5, p5 + 2, none⟩ = some (.int .i64 (hi : Int)) := hc5 2 _ rfl
      have t3 : v5.cell? ⟨b5, p5 + 3, none⟩ = some (.int .i64 b) := hc5 3 _ rfl
      have hbr5 : Below wr.heap.size wr v5 := chain (bnew wr _) hb5
      have HOp5 := Lib.hid (own_block HOps2.out fun q _ hq => hbr5.block q hq)
      have HBk5 := Lib.hid (own_block HBack.out fun q _ hq => hbr5.block q hq)
      have hb35 : Below v3.heap.size v3 v5 := hbl.trans (hbr5.mono hbl.size)
      have hzw5 : v4.heap.size ≤ v5.heap.size := Nat.le_trans hzw hbr5.size
      have hz35 : v3.heap.size ≤ v5.heap.size := Nat.le_trans hz34 hzw5
      clear x5 x6 hown5 hc5 hl5 hb5 y0 y1 y2 y3 HOps2 HBack hbl HXr
      go_wp2_with (at_builtin; go_loud (refine append_rec _ rfl (.tmp 54) (.tmp 56) 23 rfl v3.heap.size 39 (.agg #[.int .i64 0, .int .i64 0, .int .i64 0, .int .i64 0]) 4 32 Try.underlying23 op9_info rfl (by decide) (.slice B8 ol d8) ol _ rfl ((HOp5.out.alloc _).alloc _) (v5.heap.size + 1) 1 (opsC [⟨2, lo, hi, b⟩]) rfl rfl (new_four0 _ _ _ (by simp) _ _ _ _) (opsC_one _) (by simp only [maxLen]; omega) (by omega) (by simp; omega) ?_))
      intro v6 w6 hown6 hg6
      have HYs : Hid (Blk w6 v5.heap.size 39 [.int .i64 2, .int .i64 (lo : Int), .int .i64 (hi : Int), .int .i64 b]) := Lib.hid ((hg6.block v5.heap.size (by simp; omega) (fun e => by have := (HOp5.out.lt _ e.symm).2; omega)).trans ((Blk.new v5 39 [.int .i64 2, .int .i64 (lo : Int), .int .i64 (hi : Int), .int .i64 b]).alloc _))
      have hb5d : Below v5.heap.size v5 ((v5.alloc (.cells #[.int .i64 2, .int .i64 (lo : Int), .int .i64 (hi : Int), .int .i64 b] 39)).alloc (.cells #[.int .i64 2, .int .i64 (lo : Int), .int .i64 (hi : Int), .int .i64 b] 39)) := (bnew v5 _).alloc (by simp) _
      have HBk6 : Hid (w6.ownsRow v4.heap.size 39 4 u9 ol (opsC (os.map add1).reverse)) := Lib.hid (own_block HBk5.out fun q hq hql => (hg6.block q (by simp; omega) (fun e => by
        obtain ⟨ad, ea, eb⟩ := own_of e.symm
        have h1 := HOld.out ad ea
        have h2 := (HBk5.out.lt q hq).1
        omega)).trans (hb5d.block q hql))
      have hb36 : Below v3.heap.size v3 w6 := ((hb35.alloc hz35 (.cells #[.int .i64 2, .int .i64 (lo : Int), .int .i64 (hi : Int), .int .i64 b] 39)).alloc (by simp; omega) (.cells #[.int .i64 2, .int .i64 (lo : Int), .int .i64 (hi : Int), .int .i64 b] 39)).grown hg6 (by simp; omega) (fun q hq => (HOp5.out.lt q hq).1)
      rw [← HAa.out] at hown6
      obtain ⟨B6, d6, rfl, hl6, hn6, x6⟩ := own_slice_all hown6
      have HL6 := Lib.hid hl6
      have HN6 := Lib.hid hn6
      have HL36 := Lib.hid (HL3.out.on hb36)
      have hz56 : v5.heap.size < w6.heap.size := HYs.out.lt
      clear x6 hown6 hg6 hl6 hn6 hb5d HOp5 hb35 t0 t1 t2 t3
      go_wp2_with fail
      refine (HBa.out A3 B6 c3 d6 _ HN3.out HN6.out HL36.out HL6.out).mono ?_
      rintro e v7 ⟨A7, c7, B7, d7, rfl, hx7, hy7, hb7, hw7⟩
      have HY7 := Lib.hid (HYs.out.below hb7 hz56)
      have HBk7 := Lib.hid (own_block HBk6.out fun q _ hq => hb7.block q hq)
      have hb37 : Below v3.heap.size v3 v7 := chain hb36 hb7
      have hq0 : v7.cell? ⟨v5.heap.size, 0, none⟩ = some (.int .i64 2) := HY7.out.cell 0
      have hq1 : v7.cell? ⟨v5.heap.size, 1, none⟩ = some (.int .i64 (lo : Int)) := HY7.out.cell 1
      have hq2 : v7.cell? ⟨v5.heap.size, 2, none⟩ = some (.int .i64 (hi : Int)) := HY7.out.cell 2
      have hq3 : v7.cell? ⟨v5.heap.size, 3, none⟩ = some (.int .i64 b) := HY7.out.cell 3
      have HX7 := Lib.hid hx7
      have HW7 := Lib.hid hw7
      have hz67 := hb7.size
      have HLt : Hid (∀ q, u9.ownBlock = some q → q < v5.heap.size) := Lib.hid (fun q hq => (HBk5.out.lt q hq).2)
      have hz37 := hb37.size
      have hz47 : v4.heap.size ≤ v7.heap.size := by omega
      clear hx7 hy7 hb7 hw7 HYs HBk6 HL36 HL6 hb36 HBk5
      go_wp2_with (at_builtin; go_loud (refine append_rec _ rfl (.tmp 64) (.tmp 66) 23 rfl v4.heap.size 39 (.agg #[.int .i64 0, .int .i64 0, .int .i64 0, .int .i64 0]) 4 32 Try.underlying23 op9_info rfl (by decide) u9 ol _ rfl (HBk7.out.alloc _) v7.heap.size 1 (opsC [⟨2, lo, hi, b⟩]) rfl rfl (new_four0 _ _ _ rfl _ _ _ _) (opsC_one _) (by simp only [maxLen]; omega) (by omega) (by simp; omega) ?_))
      intro v8 w8 hown8 hg8
      have hb38 : Below v3.heap.size v3 w8 := (hb37.alloc hz37 _).grown hg8 (by simp; omega) (fun q hq => Nat.le_trans hz34 (HBk7.out.lt q hq).1)
      have HX8 := Lib.hid ((HX7.out.alloc _).gby HW7.out (fun q hq => by have := HLt.out q hq; omega) hg8)
      have HY8 : Hid (Blk w8 v5.heap.size 39 [.int .i64 2, .int .i64 (lo : Int), .int .i64 (hi : Int), .int .i64 b]) := Lib.hid ((hg8.block v5.heap.size (by simp; omega) (fun e => by have := HLt.out _ e.symm; omega)).trans (HY7.out.alloc _))
      rw [← HAb.out] at hown8
      obtain ⟨B8', d8', rfl, hl8, hn8, x8⟩ := own_slice_all hown8
      have HL8 := Lib.hid hl8
      have HN8 := Lib.hid hn8
      have HL38 := Lib.hid (HL3.out.on hb38)
      have hz58 : v5.heap.size < w8.heap.size := HY8.out.lt
      clear x8 hown8 hg8 hl8 hn8 HBk7 HX7 HY7 hb37 hq0 hq1 hq2 hq3 HLt
      go_wp2_with fail
      refine (HBb.out A3 B8' c3 d8' _ HN3.out HN8.out HL38.out HL8.out).mono ?_
      rintro e v9 ⟨A9, c9, B9, d9, rfl, hx9, hy9, hb9⟩
      have HY9 := Lib.hid (HY8.out.below hb9 hz58)
      have HX9 := Lib.hid hx9
      have HX79 := Lib.hid (HX8.out.on hb9)
      have hb09 : Below w.heap.size w v9 := chain (chain hb03 hb38) hb9
      have hz59 : v5.heap.size < v9.heap.size := HY9.out.lt
      clear hx9 hy9 hb9 HX8 HY8 HL38 HL8 hb38
      go_wp2_with fail
      refine (HSm.out A7 A9 c7 c9 _ HX79.out HX9.out).mono ?_
      rintro e v10 ⟨rfl, hb10⟩
      have HY10 := Lib.hid (HY9.out.below hb10 hz59)
      have HX10 := Lib.hid (HX79.out.on hb10)
      have hb010 := chain hb09 hb10
      have hz10 := hb10.size
      have r1 : v10.cell? ⟨v5.heap.size, 1, none⟩ = some (.int .i64 (lo : Int)) := HY10.out.cell 1
      have r2 : v10.cell? ⟨v5.heap.size, 2, none⟩ = some (.int .i64 (hi : Int)) := HY10.out.cell 2
      have r3 : v10.cell? ⟨v5.heap.size, 3, none⟩ = some (.int .i64 b) := HY10.out.cell 3
      have hbb : (b != b) = false := by simp
      clear HY9 HX79 HX9 hb09 hb10
      go_wp2_with fail
      go_loopw [18] (fun a w' => ∃ j d : Nat, lo ≤ j ∧ j ≤ hi + 1 ∧ a = .int .i64 j ∧ w' = v10.drewN d) (fun a _ => hi + 1 - (intOf a).toNat)
      case atStart => exact ⟨lo, 0, Nat.le_refl _, by omega, rfl, rfl⟩
      case round =>
        obtain ⟨j, d, hj0, hj1, rfl, rfl⟩ := hrel
        by_cases hjb : j ≤ hi
        · obtain ⟨b2, o2_, z, rfl, hbb2, hz, hcj⟩ := HX10.out.at_ (k := j) (by rw [HEl.out]; omega)
          have hzb : z = b := by
            have h := HSt.out j (by show (lo : Int) ≤ (j : Int); omega) (by show (j : Int) ≤ (hi : Int); omega)
            rw [hz] at h
            exact Option.some.inj h
          subst hzb
          have hjI : (j : Int) < (n : Int) := by omega
          have hjn : j < n := by omega
          clear hz
          go_wp2_with fail
          go_region
          go_wp2_with fail
          go_roundw
          case rel => exact ⟨j + 1, _, by omega, by omega, by go_num, by first | rfl | (simp only [World.drewN_drewN]; rfl)⟩
          case measure => simp [intOf]; omega
        · go_wp2_with fail
          go_ret
          exact ⟨rfl, bdN hb010 _⟩

set_option maxRecDepth 100000 in
theorem lifted (os : Os) (started : os.Started) (H : Type) (enc : TypeId × Value → H) :
    ReturnsInHanded {} Try.checked os 6 .any (Rows.segTurnedSpec.pre6 enc Try.prog Try.f6 Rows.segTurnedRow.domain false) (Rows.segTurnedSpec.post enc Try.prog Try.f6 false true false false) := by
  refine returnsInHanded_of_change_sized (C := Try.checked) own started (by kernel_rfl) Try.func6
    (ChangeSpec.witness6 (enc := enc) (C := Try.checked) false ⟨#[], #[.slice none 0 0, .slice none 0 0, .agg #[.int .i64 0, .int .i64 0, .int .i64 0, .int .i64 0]], []⟩ 8 (by kernel_rfl) (by kernel_rfl) (by kernel_rfl) (by kernel_rfl)) ?_
  intro W base args ds gs before hval0 hW hcnd hsz0 _
  have hval : ∀ (j : Nat) t v, Try.f6.params[j]? = some t → args[j]? = some v → Value.okWide Try.prog W .any base t v := hval0
  have hW' := hW
  obtain ⟨p, q, hA0, hV, rfl, hfz, hnd⟩ := hW
  have hA : DataW.TrodAll enc Try.prog W 0 (fun _ => true) true Try.f6.params.toList args.toList ds p := hA0
  have hsz : (DataW.weightsEach Try.prog (Try.f6.params.toList ++ Rows.segTurnedSpec.plain.varTypes Try.prog) (ds ++ gs)).all (· ≤ reachBytes) = true := hsz0
  rw [Try.params6] at hA hval hsz
  obtain ⟨v0, vs0, d0, ds0, p0, q0, hargs, rfl, rfl, h0, r0⟩ := trodAll_cons hA
  obtain ⟨v1, vs1, d1, ds1, p1, q1, rfl, rfl, rfl, h1, r1⟩ := trodAll_cons r0
  obtain ⟨v2, vs2, d2, ds2, p2, q2, rfl, rfl, rfl, h2, r2⟩ := trodAll_cons r1
  obtain ⟨rfl, rfl, rfl⟩ := trodAll_nil r2
  obtain rfl : args = #[v0, v1, v2] := by cases args; simp_all
  obtain ⟨rfl, rfl⟩ := trodVars_none hV
  obtain ⟨A0, n0, c0, rfl⟩ := okWide_slice Try.underlying22 (hval 0 22 v0 rfl rfl)
  have k0 := h0
  have lt0 : ∀ x ∈ p0, x.block < W.heap.size := by obtain ⟨m, hm⟩ := k0; exact DataW.trod_lt m _ _ _ hm
  obtain ⟨fuel0, hf0⟩ := h0
  obtain ⟨A0_, l0, c0_, hcs0, hle0, hcap0, hnil0, w0⟩ := rd_ints Try.underlying22 Try.underlying3 (by kernel_rfl) (by kernel_rfl) hf0 (weight_arg hsz (j := 0) (t := 22) rfl rfl)
  have hcs0_ : [Value.slice A0 n0 c0] = [.slice A0_ l0.length c0_] := hcs0
  simp only [List.cons.injEq, Value.slice.injEq, and_true] at hcs0_
  obtain ⟨rfl, rfl, rfl⟩ := hcs0_
  clear hcs0
  obtain ⟨A1, n1, c1, rfl⟩ := okWide_slice Try.underlying32 (hval 1 32 v1 rfl rfl)
  have k1 := h1
  have lt1 : ∀ x ∈ p1, x.block < W.heap.size := by obtain ⟨m, hm⟩ := k1; exact DataW.trod_lt m _ _ _ hm
  obtain ⟨fuel1, hf1⟩ := h1
  obtain ⟨A1_, l1, c1_, hcs1, hle1, hcap1, hnil1, w1, f1⟩ := rd_fours Try.underlying32 Try.underlying42 (by kernel_rfl) (by kernel_rfl) rfl rfl rfl rfl rfl rfl rfl rfl Try.underlying3 (by kernel_rfl) hf1 (weight_arg hsz (j := 1) (t := 32) rfl rfl)
  have hcs1_ : [Value.slice A1 n1 c1] = [.slice A1_ l1.length c1_] := hcs1
  simp only [List.cons.injEq, Value.slice.injEq, and_true] at hcs1_
  obtain ⟨rfl, rfl, rfl⟩ := hcs1_
  clear hcs1
  obtain ⟨cs2, rfl, hsize2⟩ := okWide_struct Try.underlying42 (hval 2 42 v2 rfl rfl)
  have k2 := h2
  have lt2 : ∀ x ∈ p2, x.block < W.heap.size := by obtain ⟨m, hm⟩ := k2; exact DataW.trod_lt m _ _ _ hm
  obtain ⟨fuel2, hf2⟩ := h2
  obtain ⟨o2, hcs2, f2⟩ := rd_four Try.underlying42 (by kernel_rfl) rfl rfl rfl rfl rfl rfl rfl rfl Try.underlying3 (by kernel_rfl) hf2
  have hcs2_ : cs2 = #[.int .i64 o2.k, .int .i64 o2.lo, .int .i64 o2.hi, .int .i64 o2.by_] := Array.toList_inj.1 hcs2
  subst hcs2_
  clear hcs2
  clear hA0 hval0
  refine (walk A0 l0 c0 A1 l1 c1 o2 W hle0 hcap0 hnil0 w0 hle1 hcap1 hnil1 w1 f1 f2).mono fun e W' ⟨he, bel⟩ => ?_
  subst he
  exact ⟨_, rfl, _, _, _, [], _, [], hW', trodAll_mk1 (shut_bool Try.underlying4 _), (trodAll_cons_mk (Below.trod laidOut (by kernel_rfl) (of_decide_eq_true (by kernel_rfl)) k0 bel lt0) (trodAll_cons_mk (Below.trod laidOut (by kernel_rfl) (of_decide_eq_true (by kernel_rfl)) k1 bel lt1) (trodAll_cons_mk (Below.trod laidOut (by kernel_rfl) (of_decide_eq_true (by kernel_rfl)) k2 bel lt2) trodAll_mk0))), rfl, bel.frame _, fun h => by cases h⟩

theorem over : Rows.segTurnedRow.holds Try.pinned (OpenSpec.ofChange Rows.segTurnedSpec) :=
  OpenClaim.holds_of_wide 6 Try.f6 rfl rfl rfl rfl rfl rfl rfl ⟨rfl, rfl, rfl, rfl, rfl⟩ rfl rfl rfl rfl rfl (by kernel_rfl) Try.func6 (by kernel_rfl)
    (of_decide_eq_true (by kernel_rfl)) (by unfold Func.isWrapper; first | (rw [if_pos (by decide +kernel)]; kernel_rfl) | (rw [if_neg (by decide +kernel)]; exact ⟨rfl, rfl⟩))
    (fun os started H enc _ => lifted os started H enc)

/-- THE STATEMENT. -/
theorem proved : Rows.SegTurnedSaid := over
#print axioms proved
end Go.Proofs.Ytnjpehgmlfenbaa.segTurned
