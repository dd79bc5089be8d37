/-
  The small functions of the second chapter's statements: contracts, walked over the translated text. No condition but what each theorem names.
-/
import Derived.Test.YtjaleldoipkbiaaDoorBitsMk
import Derived.Deep.RegionHeld3
namespace Go.Proofs.YtjaleldoipkbiaaDoor
open Go.RowKit Words

theorem bool_info2 : (Tryd.prog.info? 4).map (fun i => (i.zero, i.size, i.bytes)) = some (some (.bool false), 1, 1) := by kernel_rfl

set_option maxHeartbeats 400000 in
/-- damaskkeep.Flags: at most k of them. -/
theorem flags_any (A : Option Addr) (l : List Bool) (c k : Nat) (w : World) (hle : l.length ≤ c) (hcap : c ≤ 140737488351232) (hk : k ≤ 4096) (hnone : A = none → c = 0) (hL : Lies w w.heap.size A (l.map .bool)) :
    Calls Tryd.prog 7 #[.slice A l.length c, .int .i64 k] w (GivesSlice w ((l.take k).map .bool)) := by
  have HL := Lib.hid hL
  have HN := Lib.hid hnone
  clear hL hnone
  by_cases hkl : k < l.length
  · have hlen : ((l.take k).map Value.bool).length = k := by simp; omega
    have HLen := Lib.hid hlen
    have HT := Lib.hid (bools_one (l.take k))
    have HTL := Lib.hid (HL.out.take k)
    rw [← List.map_take] at HTL
    clear hlen
    generalize (l.take k).map Value.bool = ys at *
    have hkc : k ≤ c := by omega
    generalize l.length = n at *
    go_enter Tryd.func7, Tryd.ntmps7
    go_wp2_with (at_builtin; refine append_from _ rfl (.const (.slice none 0 0)) (.tmp 10) 29 rfl w.heap.size 4 (.bool false) 1 Tryd.underlying29 bool_info2 rfl (.slice none 0 0) 0 [] rfl (World.ownsRow_nil _ _ _ _) A k c ys rfl HLen.out HN.out HTL.out HT.out (by simp only [maxLen]; omega) (by omega) (Nat.le_refl _) ?_)
    intro v1 w2 hown1 hg1
    obtain ⟨A', c', rfl, hle1, hlen1, hlies, hnone1, hnew1⟩ := own_slice hown1
    go_wp2
    go_ret
    exact ⟨A', c', by rw [hlen1]; rfl, by rw [hlen1]; exact hle1, hlies, hnone1, hnew1, (Below.refl _ _).grown hg1 (Nat.le_refl _) (fun q hq => by cases hq)⟩
  · have hlen : ((l.take k).map Value.bool).length = l.length := by simp; omega
    have HLen := Lib.hid hlen
    have HT := Lib.hid (bools_one (l.take k))
    have HTL := Lib.hid (HL.out.take k)
    rw [← List.map_take] at HTL
    clear hlen
    generalize (l.take k).map Value.bool = ys at *
    generalize l.length = n at *
    go_enter Tryd.func7, Tryd.ntmps7
    go_wp2_with (at_builtin; refine append_from _ rfl (.const (.slice none 0 0)) (.tmp 10) 29 rfl w.heap.size 4 (.bool false) 1 Tryd.underlying29 bool_info2 rfl (.slice none 0 0) 0 [] rfl (World.ownsRow_nil _ _ _ _) A n c ys rfl HLen.out HN.out HTL.out HT.out (by simp only [maxLen]; omega) (by omega) (Nat.le_refl _) ?_)
    intro v1 w2 hown1 hg1
    obtain ⟨A', c', rfl, hle1, hlen1, hlies, hnone1, hnew1⟩ := own_slice hown1
    go_wp2
    go_ret
    exact ⟨A', c', by rw [hlen1]; rfl, by rw [hlen1]; exact hle1, hlies, hnone1, hnew1, (Below.refl _ _).grown hg1 (Nat.le_refl _) (fun q hq => by cases hq)⟩

/-- What a call that returns a bit vector and a bool leaves. -/
def GivesRow (w : World) (n : Nat) (ws : List Nat) (e : Ending) (w' : World) : Prop :=
  ∃ A c, e = .returned (.tuple #[.agg #[.int .i64 n, .slice A ws.length c], .bool true]) ∧ Words64 w' w'.heap.size A ws ∧ New w.heap.size A ∧ Below w.heap.size w w'

theorem kept2 {w : World} {g : Nat} {u v : Value} {a : Addr} {x : Value} (h : w.cell? a = some x) (hne : ¬ a.block = g) : ((w.setCell ⟨g, 0, none⟩ u).setCell ⟨g, 1, none⟩ v).drew.cell? a = some x := by
  show ((w.setCell ⟨g, 0, none⟩ u).setCell ⟨g, 1, none⟩ v).cell? a = some x
  rw [World.cell?_setCell_other _ _ a _ (fun e => hne (by rw [← e])), World.cell?_setCell_other _ _ a _ (fun e => hne (by rw [← e]))]
  exact h

theorem rowOf_two : rowOf [false, true] = [2] := by decide

set_option maxHeartbeats 1000000 in
/-- damaskkeep.row of a list that is not too long. -/
theorem row_any (A : Option Addr) (l : List Bool) (c : Nat) (w : World) (hn : l.length ≤ 4096) (hnone : A = none → c = 0) (hL : Lies w w.heap.size A (l.map .bool)) :
    Calls Tryd.prog 8 #[.slice A l.length c] w (GivesRow w l.length (rowOf l)) := by
  have HL := Lib.hid hL
  have HN := Lib.hid hnone
  have HT := Lib.hid (bools_one l)
  have HM := Lib.hid (fun A c W (h : Lies W W.heap.size A (l.map .bool)) => make_any A l c W hn h)
  have hM2 : ∀ A c W, Lies W W.heap.size A [.bool false, .bool true] → Calls Tryd.prog 17 #[.slice A 2 c] W (GivesBits W 2 [2]) := fun A c W h => by
    have := make_any A [false, true] c W (by decide) h
    rw [rowOf_two] at this
    exact this
  have HM2 := Lib.hid hM2
  clear hM2
  have HLen := Lib.hid (show (l.map Value.bool).length = l.length by simp)
  generalize rowOf l = ws at *
  clear hL hnone
  go_enter Tryd.func8, Tryd.ntmps8
  go_wp2_with (at_builtin; refine append_from _ rfl (.const (.slice none 0 0)) (.tmp 9) 29 rfl (w.heap.size + 1) 4 (.bool false) 1 Tryd.underlying29 bool_info2 rfl (.slice none 0 0) 0 [] rfl (World.ownsRow_nil _ _ _ _) A l.length c (l.map .bool) rfl HLen.out HN.out (HL.out.alloc _) HT.out (by simp only [maxLen]; omega) (by omega) (by simp) ?_)
  intro v1 w1 hown1 hg1
  obtain ⟨A1, c1, rfl, hle1, hlen1, hlies1, hnone1, _⟩ := own_slice hown1
  have hb1 : Below (w.heap.size + 1) (w.alloc (.cells #[.int .i64 0, .slice none 0 0] 24)) w1 := (Below.refl _ _).grown hg1 (by simp) (fun q hq => by cases hq)
  have HLi := Lib.hid hlies1
  clear hown1 hg1 hlies1 hnone1 hlen1
  go_wp2_with fail
  refine (HM.out A1 c1 _ HLi.out).mono ?_
  rintro e w2 ⟨A2, c2, rfl, hW2, hn2, hb2⟩
  have HW2 := Lib.hid hW2
  have HN2 := Lib.hid hn2
  clear hW2 hn2
  go_wp2_with fail
  refine (HM2.out (some ⟨_, 0, none⟩) 2 _ ?_).mono ?_
  · simpa using (Blk.new (w2.alloc (.cells #[.int .i64 l.length, .slice A2 ws.length c2] 24)) 4 [.bool false, .bool true]).lies
  rintro e w3 ⟨A3, c3, rfl, hW3, hn3, hb3⟩
  have hs1 := hb1.size
  have hs2 := hb2.size
  have hs3 := hb3.size
  simp only [World.alloc, Array.size_push] at hs1 hs3
  have hx2 : Blk w3 w.heap.size 24 [.int .i64 0, .slice none 0 0] := (((((Blk.new w 24 [.int .i64 0, .slice none 0 0]).below hb1 (by omega)).below hb2 (by omega)).alloc _).alloc _).below hb3 (by simp; omega)
  have hx4 : Blk w3 w2.heap.size 24 [.int .i64 l.length, .slice A2 ws.length c2] := ((Blk.new w2 24 [.int .i64 l.length, .slice A2 ws.length c2]).alloc _).below hb3 (by simp; omega)
  obtain ⟨b3, o3, x3, rfl, hlt3, hx3, _, hc3⟩ := hW3.at_ (k := 0) (by simp)
  obtain rfl : x3 = 2 := by simpa using hx3.symm
  go_wp2_with fail
  have hy6 := Blk.new w3 24 [.int .i64 2, .slice (some ⟨b3, o3, none⟩) 1 c3]
  have hy4 := hx4.alloc (.cells #[.int .i64 2, .slice (some ⟨b3, o3, none⟩) 1 c3] 24)
  have hy2 := hx2.alloc (.cells #[.int .i64 2, .slice (some ⟨b3, o3, none⟩) 1 c3] 24)
  have hyc : (w3.alloc (.cells #[.int .i64 2, .slice (some ⟨b3, o3, none⟩) 1 c3] 24)).cell? ⟨b3, o3, none⟩ = some (.int .u64 (2 : Nat)) := (World.cell?_alloc_lt w3 _ ⟨b3, o3, none⟩ hlt3).trans hc3
  have hyw := (((HW2.out.alloc (.cells #[.int .i64 l.length, .slice A2 ws.length c2] 24)).alloc (.cells #[.bool false, .bool true] 4)).on hb3).alloc (.cells #[.int .i64 2, .slice (some ⟨b3, o3, none⟩) 1 c3] 24)
  have hyb := chain (chain (chain (chain (chain (bnew w (.cells #[.int .i64 0, .slice none 0 0] 24)) (hb1.mono (by simp))) hb2) (bnew w2 (.cells #[.int .i64 l.length, .slice A2 ws.length c2] 24))) (bnew _ (.cells #[.bool false, .bool true] 4))) hb3
  have hyb2 := chain hyb (bnew w3 (.cells #[.int .i64 2, .slice (some ⟨b3, o3, none⟩) 1 c3] 24))
  have hnew : New (w.heap.size + 1) A2 := HN2.out.mono (by omega)
  have hne24 : ¬ w2.heap.size = w.heap.size := by omega
  have hne6 : ¬ w3.heap.size = w.heap.size := by omega
  have hne3 : ¬ b3 = w.heap.size := by
    have h3 := hn3 _ rfl
    simp at h3
    omega
  have HY := Lib.hid (And.intro hyw hyb2)
  clear hyw hyb hyb2 hx2 hx4 hb1 hb2 hb3 HW2 HN2 hc3 hlt3 hW3 hn3
  generalize w3.alloc (.cells #[.int .i64 2, .slice (some ⟨b3, o3, none⟩) 1 c3] 24) = w4 at *
  have r20 : w4.cell? ⟨w.heap.size, 0, none⟩ = some (.int .i64 0) := hy2.cell 0
  have r21 : w4.cell? ⟨w.heap.size, 1, none⟩ = some (.slice none 0 0) := hy2.cell 1
  have f20 := hy2.frozen 0
  have f21 := hy2.frozen 1
  have r40 : w4.cell? ⟨w2.heap.size, 0, none⟩ = some (.int .i64 l.length) := hy4.cell 0
  have r41 : w4.cell? ⟨w2.heap.size, 1, none⟩ = some (.slice A2 ws.length c2) := hy4.cell 1
  have r61 : w4.cell? ⟨w3.heap.size, 1, none⟩ = some (.slice (some ⟨b3, o3, none⟩) 1 c3) := hy6.cell 1
  clear hy2 hy4 hy6
  have hnat : ((l.length : Int) == (l.length : Int)) = true := by simp
  go_region_held3 (fun w' => w'.cell? ⟨w2.heap.size, 0, none⟩ = some (.int .i64 l.length) ∧ w'.cell? ⟨w2.heap.size, 1, none⟩ = some (.slice A2 ws.length c2) ∧ w'.cell? ⟨w3.heap.size, 1, none⟩ = some (.slice (some ⟨b3, o3, none⟩) 1 c3) ∧ w'.cell? ⟨b3, o3, none⟩ = some (.int .u64 (2 : Nat))) (first | exact ⟨kept2 r40 hne24, kept2 r41 hne24, kept2 r61 hne6, kept2 hyc hne3⟩ | go_keep) (first | fail)
  go_wp2
  refine bodyPost_ret (v := .tuple #[.agg #[.int .i64 l.length, .slice A2 ws.length c2], .bool true]) (by simp [results, Tryd.results8, go_sem, r20, r21]) rfl ?_
  obtain ⟨hyw, hyb⟩ := HY.out
  have h1 := (hyw.setCell hnew (p := ⟨w.heap.size, 0, none⟩) (by simp) (.int .i64 l.length)).setCell hnew (p := ⟨w.heap.size, 1, none⟩) (by simp) (.slice A2 ws.length c2)
  exact ⟨A2, c2, rfl, ⟨h1.1.wide (by simp), h1.2⟩, hnew.mono (by omega), ((hyb.setCell (Nat.le_refl _) _).setCell (Nat.le_refl _) _).drew⟩
end Go.Proofs.YtjaleldoipkbiaaDoor
