/-
  For every list l and every two numbers a and b: on the range that they stand for of the list of at most 81 numbers that l stands for, the place that Go's rmq.Top returns, the last of the sorted range that wave.Kth returns, and the least of the negated range that seg.Play returns agree.
  No condition.
-/
import Derived.Test.YtefgfkicacbmeaaRows
import Derived.Test.YtefgfkicacbmeaaFrame
import Derived.Test.YtefgfkicacbmeaaWavMk
import Derived.Test.YtefgfkicacbmeaaWavAsk
import Derived.Test.YtefgfkicacbmeaaRmqAsk
import Derived.Test.YtefgfkicacbmeaaSegPl
import Derived.Test.YtefgfkicacbmeaaKeep3
import Derived.WalkKit
import Derived.ProofKit
import Derived.OpenShut
import Derived.ChangeOld
import Derived.Below
import Derived.Carry
import Derived.SizedLaws
import Derived.Deep.RegionWith
import Derived.Deep.RegionHeld3
namespace Go.Proofs.Ytefgfkicacbmeaa.topMax
open Go.ChangeShapes Go.WideShapes Go.ChangeAt Go.RowKit Words
set_option linter.unusedVariables false

theorem own : ownKnob Try.prog.godebug = none := by kernel_rfl
theorem laidOut : laidOutB Try.prog = true := by kernel_rfl
theorem tcopied_any (A : Option Addr) (l : List Int) (c : Nat) (w : World) (hn : l.length ≤ 1000000) (hnone : A = none → c = 0) (hL : Lies w w.heap.size A (l.map (.int .i64))) :
    Calls Try.prog 33 #[.slice A l.length c] w (GivesSlice w (l.map (.int .i64))) := by
  have HL := Lib.hid hL
  have HN := Lib.hid hnone
  have HLen := Lib.hid (show (l.map (Value.int .i64)).length = l.length by simp)
  have HT := Lib.hid (ints_one l)
  clear hL hnone
  generalize l.map (Value.int .i64) = ys at *
  generalize l.length = n at *
  go_enter Try.func33, Try.ntmps33
  go_wp2_with (at_builtin; refine append_from _ rfl (.const (.slice none 0 0)) (.tmp 3) 22 rfl w.heap.size 3 (.int .i64 0) 8 Try.underlying22 int_info rfl (.slice none 0 0) 0 [] rfl (World.ownsRow_nil _ _ _ _) A n c ys rfl HLen.out HN.out HL.out HT.out (by simp only [maxLen]; omega) (by omega) (Nat.le_refl _) ?_)
  intro v1 w2 hown1 hg1
  obtain ⟨A', c', rfl, hle1, hlen1, hlies, hnone1, hnew1⟩ := own_slice hown1
  go_wp2
  go_ret
  exact ⟨A', c', by rw [HLen.out]; simp, by rw [HLen.out]; omega, by simpa using hlies, hnone1, hnew1, (Below.refl _ _).grown hg1 (Nat.le_refl _) (fun q hq => by cases hq)⟩
theorem tab_short10 {l : List Int} (hn : l.length ≤ 300) {rs : List Row} (h : tabOf rs = sparse l) : ∀ r ∈ rs, r.nums.length ≤ 17592186044416 := fun r hr => by
  have h1 : r.nums ∈ tabOf rs := List.mem_map.2 ⟨r, hr, rfl⟩
  rw [h] at h1
  have := sparse_short hn _ h1
  omega
theorem picks_nat (k n : Nat) (l : List Int) : picks k n l = ((l.take k).map (pick n)).map fun x : Nat => (x : Int) := by unfold picks; rw [List.map_map]; rfl

/-- The last of a sorted range is its greatest number. -/
theorem kv_max {L : Nat} {ns : List Nat} {vs : List Lev} (h : MadeOf ns.length (levs L ns) vs) (hx : ∀ x ∈ ns, x < 2 ^ L) (a b p M : Nat) (hap : a ≤ p) (hpb : p < b) (hb : b ≤ ns.length) (hp : ns[p]? = some M) (hle : ∀ j y, a ≤ j → j < b → ns[j]? = some y → y ≤ M) :
    kv ns.length (fns vs) a b (b - a - 1) = M := by
  have hr : rng ns.length (fns vs) a b = ((ns.drop a).take (b - a)).map fun x : Nat => (x : Int) := by
    unfold rng
    rw [made_lsI h hx, List.map_take, List.map_drop]
  have hRl : ((ns.drop a).take (b - a)).length = b - a := by rw [List.length_take, List.length_drop]; omega
  obtain ⟨h1, h2⟩ := kv_spec ns.length (fns vs) a b (b - a - 1) (by omega) (by omega)
  have c1 : less ns.length (fns vs) M a b = (((ns.drop a).take (b - a)).countP (fun x => decide (x < M)) : Int) := by
    rw [← lessI_nat]
    unfold lessI
    rw [num_count ns.length (fns vs) (fun z => decide (z < (M : Int))) a b (by omega) hb, hr, List.countP_map]
    exact congrArg _ (List.countP_congr fun x _ => by simp)
  have c2 : less ns.length (fns vs) (M + 1) a b = (((ns.drop a).take (b - a)).countP (fun x => decide (x < M + 1)) : Int) := by
    rw [← lessI_succ]
    unfold lessI
    rw [num_count ns.length (fns vs) (fun z => decide (z < (M : Int) + 1)) a b (by omega) hb, hr, List.countP_map]
    exact congrArg _ (List.countP_congr fun x _ => by simp; omega)
  have hmem : ∀ x ∈ (ns.drop a).take (b - a), x ≤ M := fun x hxm => by
    obtain ⟨q, hq⟩ := List.getElem?_of_mem hxm
    rw [List.getElem?_take] at hq
    split at hq
    · rw [List.getElem?_drop] at hq
      exact hle (a + q) x (by omega) (by omega) hq
    · cases hq
  have hM : M ∈ (ns.drop a).take (b - a) := List.mem_of_getElem? (i := p - a) (by rw [List.getElem?_take, if_pos (by omega), List.getElem?_drop, show a + (p - a) = p by omega]; exact hp)
  have e2 : ((ns.drop a).take (b - a)).countP (fun x => decide (x < M + 1)) = b - a := by
    refine Eq.trans (List.countP_eq_length.2 ?_) hRl
    intro x hxm
    have := hmem x hxm
    simp
    omega
  have e1 : ((ns.drop a).take (b - a)).countP (fun x => decide (x < M)) ≤ b - a - 1 := by
    have l1 := List.countP_le_length (p := fun x => decide (x < M)) (l := (ns.drop a).take (b - a))
    rcases Nat.lt_or_ge (((ns.drop a).take (b - a)).countP (fun x => decide (x < M))) (b - a) with g | g
    · omega
    · have g2 : ((ns.drop a).take (b - a)).countP (fun x => decide (x < M)) = ((ns.drop a).take (b - a)).length := by omega
      have := List.countP_eq_length.1 g2 M hM
      simp at this
  exact kth_unique ns.length (fns vs) a b ((b - a - 1 : Nat) : Int) _ _ (by omega) h1 h2 (by rw [c1]; omega) (by rw [c2, e2]; omega)

theorem mn_mem : ∀ l : List Int, l ≠ [] → mn l ∈ l
  | [], h => absurd rfl h
  | [a], _ => by rw [mn_one]; simp
  | a :: b :: l, _ => by
    rw [mn_cons a (by simp)]
    have ih := mn_mem (b :: l) (by simp)
    rcases Int.le_total a (mn (b :: l)) with h | h
    · rw [Int.min_eq_left h]; simp
    · rw [Int.min_eq_right h]; exact List.mem_cons_of_mem _ ih
theorem prt_at10 : ∀ (L : List Int) (lo hi : Int) (j : Nat) (z : Int), L[j]? = some z → lo ≤ (j : Int) → (j : Int) ≤ hi → z ∈ prt L lo hi
  | [], lo, hi, j, z, h, _, _ => by simp at h
  | a :: L, lo, hi, 0, z, h, h1, h2 => by
    obtain rfl : a = z := by simpa using h
    rw [prt, if_pos ⟨by omega, by omega⟩]
    simp
  | a :: L, lo, hi, j + 1, z, h, h1, h2 => by
    rw [prt]
    exact List.mem_append.2 (.inr (prt_at10 L (lo - 1) (hi - 1) j z (by simpa using h) (by omega) (by omega)))
theorem prt_of10 : ∀ (L : List Int) (lo hi z : Int), z ∈ prt L lo hi → ∃ j : Nat, L[j]? = some z ∧ lo ≤ (j : Int) ∧ (j : Int) ≤ hi
  | [], lo, hi, z, h => by simp [prt] at h
  | a :: L, lo, hi, z, h => by
    rw [prt] at h
    rcases List.mem_append.1 h with h | h
    · split at h
      · rename_i hc
        obtain rfl : z = a := by simpa using h
        exact ⟨0, rfl, by omega, by omega⟩
      · cases h
    · obtain ⟨j, h1, h2, h3⟩ := prt_of10 L (lo - 1) (hi - 1) z h
      exact ⟨j + 1, by simpa using h1, by omega, by omega⟩
/-- The least of the negated range. -/
theorem mn_neg (ns : List Nat) (a b p M : Nat) (hap : a ≤ p) (hpb : p ≤ b) (hp : ns[p]? = some M) (hle : ∀ j y, a ≤ j → j ≤ b → ns[j]? = some y → y ≤ M) : mn (prt (ns.map fun x : Nat => -(x : Int)) a b) = -(M : Int) := by
  have hin := prt_at10 (ns.map fun x : Nat => -(x : Int)) a b p (-(M : Int)) (by rw [List.getElem?_map, hp]; rfl) (by omega) (by omega)
  have h1 := mn_le hin
  obtain ⟨j, g1, g2, g3⟩ := prt_of10 _ _ _ _ (mn_mem _ (fun e => by rw [e] at hin; cases hin))
  rw [List.getElem?_map] at g1
  cases hj : ns[j]? with
  | none => rw [hj] at g1; cases g1
  | some y =>
    rw [hj] at g1
    have e : -(y : Int) = _ := Option.some.inj g1
    have := hle j y (by omega) (by omega) hj
    omega


set_option maxRecDepth 100000 in
set_option maxHeartbeats 4000000 in
/-- The walk: the Go text returns true, and writes nothing that was there. -/
theorem walk (A0 : Option Addr) (l0 : List Int) (c0 : Nat) (a1 : Int) (a2 : Int) (w : World) (hle0 : l0.length ≤ c0) (hcap0 : c0 * 8 ≤ 140737488351232) (hnil0 : A0 = none → c0 = 0) (w0 : Lies w w.heap.size A0 (l0.map (.int .i64)) ∧ ∀ z ∈ l0, (Lit.int .i64 z).wf = true) (w1 : (Lit.int .i64 a1).wf = true) (w2 : (Lit.int .i64 a2).wf = true) :
    Calls Try.prog 13 #[.slice A0 l0.length c0, .int .i64 a1, .int .i64 a2] w fun e w' => e = .returned (.bool true) ∧ Below w.heap.size w w' := by
  have HNu := Lib.hid (numbers_own A0 l0 c0 80 200 w (by decide) (by decide) (by decide) w0.2 w0.1)
  unfold GivesOwnI at HNu
  rw [picks_nat, ← natC_ints, List.length_map] at HNu
  obtain ⟨ns0, hns0⟩ : ∃ ns0, (l0.take 80).map (pick 200) = ns0 := ⟨_, rfl⟩
  have hn0 : ns0.length ≤ 80 := by rw [← hns0, List.length_map, List.length_take]; omega
  have hx0 : ∀ x ∈ ns0, x < 200 := fun x hx => by
    rw [← hns0] at hx
    obtain ⟨a, _, rfl⟩ := List.mem_map.1 hx
    exact pick_lt (by decide) a
  rw [hns0] at HNu
  clear w0 hnil0 hle0 hcap0 hns0
  obtain ⟨ns, hns⟩ : ∃ ns, ns0 ++ [4] = ns := ⟨_, rfl⟩
  have HAd := Lib.hid (show natC ns0 ++ [Value.int .i64 4] = natC ns by rw [← hns, natC_append]; rfl)
  have hnl : ns0.length + 1 = ns.length := by rw [← hns]; simp
  have hx200 : ∀ x ∈ ns, x < 200 := fun x hx => by
    rw [← hns] at hx
    rcases List.mem_append.1 hx with h | h
    · exact hx0 x h
    · have := List.mem_singleton.1 h; omega
  have hx256 : ∀ x ∈ ns, x < 2 ^ 8 := fun x hx => Nat.lt_trans (hx200 x hx) (by decide)
  clear hns hx0
  have hn81 : ns.length ≤ 81 := by omega
  have hnp : 1 ≤ ns.length := by omega
  have hp1 := pick_lt (n := ns.length) (by omega) a1
  have HP1 := Lib.hid (pick_any a1 ns.length · (by omega) (by omega) w1)
  generalize pick ns.length a1 = i at *
  have hp2 := pick_lt (n := ns.length - i) (by omega) a2
  have HP2 := Lib.hid (pick_any a2 (ns.length - i) · (by omega) (by omega) w2)
  generalize pick (ns.length - i) a2 = m at *
  obtain ⟨k, hk⟩ : ∃ k, i + m = k := ⟨_, rfl⟩
  have hik : i ≤ k := by omega
  have hkn : k < ns.length := by omega
  have hki : (i : Int) + (m : Int) = (k : Int) := by omega
  have hkim : (k : Int) - (i : Int) = (m : Int) := by omega
  -- the list as numbers
  obtain ⟨Li, hLi⟩ : ∃ Li : List Int, (ns.map fun x : Nat => (x : Int)) = Li := ⟨_, rfl⟩
  have hLl : Li.length = ns.length := by rw [← hLi, List.length_map]
  have HNat := Lib.hid (show natC ns = Li.map (.int .i64) by rw [natC_ints, hLi])
  have HCo : Hid (∀ A c W, (A = none → c = 0) → Lies W W.heap.size A (natC ns) → Calls Try.prog 33 #[.slice A ns.length c] W (GivesSlice W (natC ns))) := Lib.hid fun A c W hnone hW => by
    have h := tcopied_any A Li c W (by omega) hnone (by rw [← HNat.out]; exact hW)
    rwa [hLl, ← HNat.out] at h
  have HRm : Hid (∀ A c W, Lies W W.heap.size A (natC ns) → Calls Try.prog 32 #[.slice A ns.length c] W (GivesTab W (sparse Li))) := Lib.hid fun A c W hW => by
    have h := rmqmake_any A Li c W (by omega) (by rw [← HNat.out]; exact hW)
    rwa [hLl] at h
  have HRt : Hid (∀ A c A2 rs c2 W, Lies W W.heap.size A (natC ns) → Grid W W.heap.size A2 rs → tabOf rs = sparse Li → Calls Try.prog 34 #[.slice A ns.length c, .slice A2 rs.length c2, .int .i64 i, .int .i64 k] W (Answers W (topN (nth Li) i m : Nat) 0)) := Lib.hid fun A c A2 rs c2 W hW hG hT => by
    have h := top_any A Li c A2 rs c2 i m W (by omega) (by rw [← HNat.out]; exact hW) (tab_short10 (by omega) hT) hG hT (by omega)
    rwa [hLl, hk] at h
  have hT := topN_is (nth Li) i m
  rw [hk] at hT
  generalize topN (nth Li) i m = t at *
  have ht1 := hT.lo
  have ht2 := hT.hi
  obtain ⟨M, hM⟩ : ∃ M, ns[t]? = some M := ⟨_, List.getElem?_eq_getElem (by omega)⟩
  have hnth : ∀ (j y : Nat), ns[j]? = some y → nth Li j = (y : Int) := fun j y h => nth_get Li j _ (by rw [← hLi, List.getElem?_map, h]; rfl)
  have hle : ∀ (j y : Nat), i ≤ j → j ≤ k → ns[j]? = some y → y ≤ M := fun j y h1 h2 h3 => by
    have := hT.le j h1 h2
    rw [hnth j y h3, hnth t M hM] at this
    omega
  have hM200 := hx200 M (List.mem_of_getElem? hM)
  have HMk : Hid (∀ A c W, Lies W W.heap.size A (natC ns) → Calls Try.prog 14 #[.int .i64 8, .slice A ns.length c] W (GivesWave W 8 ns)) := Lib.hid fun A c W hW => wmk_any 8 A ns c W (by omega) (by decide) hx256 hW
  have HKv := Lib.hid (fun (vs : List Lev) (h : MadeOf ns.length (levs 8 ns) vs) => kv_max h hx256 i (k + 1) t M ht1 (by omega) (by omega) hM (fun j y h1 h2 h3 => hle j y h1 (by omega) h3))
  have HMW := Lib.hid (fun (vs : List Lev) (h : MadeOf ns.length (levs 8 ns) vs) => made_wv h (by decide) (by decide) (by omega))
  have HML := Lib.hid (fun (vs : List Lev) (h : MadeOf ns.length (levs 8 ns) vs) => show vs.length = 8 by rw [h.length, levs_length])
  obtain ⟨Lw, hLw⟩ : ∃ Lw : List Int, (ns.map fun x : Nat => -(x : Int)) = Lw := ⟨_, rfl⟩
  have hLwl : Lw.length = ns.length := by rw [← hLw, List.length_map]
  have hCos : Cos Lw := fun z hz => by
    rw [← hLw] at hz
    obtain ⟨x, hx, rfl⟩ := List.mem_map.1 hz
    have := hx200 x hx
    unfold Co
    omega
  have HPl : Hid (∀ A B c d W, ns.length ≤ c → Lies W W.heap.size A (Lw.map (.int .i64)) → Lies W W.heap.size B (opsC [⟨3, i, k, 0⟩]) → Calls Try.prog 35 #[.slice A ns.length c, .slice B 1 d] W (Played W Lw [⟨3, i, k, 0⟩])) := Lib.hid fun A B c d W hc hA hB => by
    have h := play_any A B Lw [⟨3, i, k, 0⟩] c d W (by omega) (by omega) (by omega) (by simp) hCos hA hB
    rwa [hLwl] at h
  have hrep : reps Lw [⟨3, i, k, 0⟩] 1 = -(M : Int) := by
    have h := reps_odd (l := Lw) (ops := [⟨3, (i : Int), (k : Int), 0⟩]) (i := 0) rfl
    rw [Nat.zero_mul, Nat.zero_add] at h
    rw [h]
    have herr : Op9.err ⟨3, (i : Int), (k : Int), 0⟩ Lw.length = 0 := by
      unfold Op9.err chk
      rw [if_neg (by show ¬ ((3 : Int) < 1 ∨ (4 : Int) < 3); omega), if_neg (by show ¬ ((i : Int) < 0 ∨ (k : Int) < (i : Int) ∨ (Lw.length : Int) ≤ (k : Int)); omega), if_neg (by show ¬ ((3 : Int) ≤ 2 ∧ _); omega)]
    unfold stepV
    show (if Op9.err ⟨3, (i : Int), (k : Int), 0⟩ Lw.length = 0 then _ else _) = _
    rw [if_pos herr]
    show (if (3 : Int) = 3 then mn (prt Lw (i : Int) (k : Int)) else _) = _
    rw [if_pos rfl, ← hLw]
    exact mn_neg ns i k t M ht1 ht2 hM hle
  have HRep := Lib.hid hrep
  have HLw := Lib.hid (fun (q x : Nat) (h : ns[q]? = some x) => show Lw[q]? = some (-(x : Int)) by rw [← hLw, List.getElem?_map, h]; rfl)
  have HLwl := Lib.hid hLwl
  have HM := Lib.hid hM
  have HX := Lib.hid (fun (q x : Nat) (h : ns[q]? = some x) => hx200 x (List.mem_of_getElem? h))
  have HNL := Lib.hid (natC_length ns)
  have hkm : k + 1 - i - 1 = m := by omega
  clear hT hnth hle hx200 hx256 hLi hLl hLw hLwl hCos hrep hM hk
  generalize hnn : ns.length = n at *
  have HN := Lib.hid hnn
  clear hnn
  generalize ns0.length = pl at *
  have hsub : (n : Int) - (i : Int) = ((n - i : Nat) : Int) := by omega
  generalize hqq : n - i = q at *
  have hq81 : q ≤ 81 := by omega
  clear hqq
  go_enter Try.func13, Try.ntmps13
  go_wp2_with fail
  refine HNu.out.mono ?_
  rintro e v1 ⟨v, rfl, hown, hb1⟩
  have hsz := hb1.size
  go_wp2_with (at_builtin; go_loud (refine append_one _ rfl (.tmp 24) (.tmp 25) 22 rfl w.heap.size 3 (.int .i64 0) 8 Try.underlying22 int_info rfl v pl _ rfl (hown.alloc _) v1.heap.size 1 (.int .i64 4) rfl (by simp) rfl (by simp only [maxLen]; omega) (by omega) (by simp; omega) ?_))
  intro v2 v3 hown2 hg2
  rw [HAd.out] at hown2
  have hb3 : Below w.heap.size w v3 := (hb1.alloc hsz _).grown hg2 (by simp; omega) (fun q hq => (hown.lt q hq).1)
  obtain ⟨A3, c3, rfl, hle3, _, hl3, hn3, _⟩ := own_slice hown2
  have HL3 := Lib.hid hl3
  have HN3 := Lib.hid hn3
  have HB3 := Lib.hid hb3
  clear hown2 hg2 hown hb1 hl3 hn3 hsz hb3
  go_wp2_with fail
  refine (HP1.out _).mono ?_
  rintro e w' ⟨rfl, rfl⟩
  go_wp2_with fail
  refine (HP2.out _).mono ?_
  rintro e w' ⟨rfl, rfl⟩
  go_wp2_with fail
  refine (HCo.out A3 c3 _ HN3.out HL3.out).mono ?_
  rintro e w4 ⟨A4, c4, rfl, _, hl4, _, _, hb4⟩
  rw [HNL.out]
  have HL4 := Lib.hid hl4
  have HB4 := Lib.hid (chain HB3.out hb4)
  have HA4 := Lib.hid (HL3.out.on hb4)
  clear hl4 hb4
  go_wp2_with fail
  refine (HRm.out A4 c4 _ HL4.out).mono ?_
  unfold GivesTab
  rintro e w5 ⟨A5, rs, c5, rfl, hG5, hT5, _, hb5⟩
  have HG5 := Lib.hid hG5
  have HT5 := Lib.hid hT5
  have HB5 := Lib.hid (chain HB4.out hb5)
  have HA5 := Lib.hid (HA4.out.on hb5)
  clear hG5 hT5 hb5
  go_wp2_with fail
  refine (HCo.out A3 c3 _ HN3.out HA5.out).mono ?_
  rintro e w6 ⟨A6, c6, rfl, _, hl6, _, _, hb6⟩
  rw [HNL.out]
  have HL6 := Lib.hid hl6
  have HG6 := Lib.hid (HG5.out.on hb6)
  have HB6 := Lib.hid (chain HB5.out hb6)
  have HA6 := Lib.hid (HA5.out.on hb6)
  clear hl6 hb6
  go_wp2_with fail
  refine (HRt.out A6 c6 A5 rs c5 _ HL6.out HG6.out HT5.out).mono ?_
  unfold Answers
  rintro e w7 ⟨rfl, hb7⟩
  have HB7 := Lib.hid (chain HB6.out hb7)
  have HA7 := Lib.hid (HA6.out.on hb7)
  clear hb7
  go_wp2_with fail
  refine (HCo.out A3 c3 _ HN3.out HA7.out).mono ?_
  rintro e w8 ⟨A8, c8, rfl, _, hl8, _, _, hb8⟩
  rw [HNL.out]
  have HL8 := Lib.hid hl8
  have HB8 := Lib.hid (chain HB7.out hb8)
  have HA8 := Lib.hid (HA7.out.on hb8)
  clear hl8 hb8
  go_wp2_with fail
  refine (HMk.out A8 c8 _ HL8.out).mono ?_
  unfold GivesWave
  rintro e w9 ⟨A9, vs, c9, rfl, hmade, _, hmat, _, _, hb9⟩
  rw [HN.out] at hmade
  have hV := HMW.out vs hmade
  have hvl := HML.out vs hmade
  have hkv := HKv.out vs hmade
  rw [hkm] at hkv
  have hKt : ∀ W, Mat W W.heap.size A9 vs → Calls Try.prog 25 #[.agg #[.slice A9 8 c9], .int .i64 i, .int .i64 ((k : Int) + 1), .int .i64 m] W fun e w' => e = .returned (.tuple #[.int .i64 (M : Nat), .int .i64 0]) ∧ Below W.heap.size W w' := fun W hW => by
    have h := wkt_in n A9 vs c9 i (k + 1) m W hV hW (by omega) (by omega)
    rw [hvl, hkv, show ((k + 1 : Nat) : Int) = (k : Int) + 1 by omega] at h
    exact h
  have HKt := Lib.hid hKt
  clear hmade hV hvl hkv hKt
  go_wp2_with fail
  have HMat := Lib.hid (hmat.alloc (.cells #[.slice A9 8 c9] 25))
  have HB9 := Lib.hid (chain (chain HB8.out hb9) (bnew w9 (.cells #[.slice A9 8 c9] 25)))
  have HA9 := Lib.hid ((HA8.out.on hb9).alloc (.cells #[.slice A9 8 c9] 25))
  have hX := Blk.new w9 25 [.slice A9 8 c9]
  clear hmat hb9
  generalize w9.alloc (.cells #[.slice A9 8 c9] 25) = w10 at *
  refine (HKt.out _ (by exact HMat.out)).mono ?_
  rintro e w11 ⟨rfl, hb11⟩
  have HB11 := Lib.hid (chain HB9.out hb11)
  have HA11 := Lib.hid (HA9.out.on hb11)
  clear hb11 hX
  go_wp2_with fail
  go_loopw [18, 19] (fun s18 s19 w' => ∃ q : Nat, q ≤ n ∧ s19 = .int .i64 q ∧ w'.ownsRow w11.heap.size 3 1 s18 q ((Lw.take q).map (.int .i64)) ∧ Below w11.heap.size w11 w') (fun _ s19 _ => n - (intOf s19).toNat)
  case atStart => exact ⟨0, Nat.zero_le _, rfl, World.ownsRow_nil _ _ _ _, Below.refl _ _⟩
  case round =>
    obtain ⟨q, hq, rfl, hown, hbl⟩ := hrel
    have hsz := hbl.size
    by_cases hlt : q < n
    · obtain ⟨b, o, x, rfl, hb, hx, hc⟩ := (HA11.out.on hbl).at_ (l := ns) (f := fun x : Nat => Value.int .i64 (x : Int)) (k := q) (by rw [HN.out]; exact hlt)
      have hx200 := HX.out q x hx
      have hLx := HLw.out q x hx
      have HSt := Lib.hid (show (Lw.take (q + 1)).map (Value.int .i64) = (Lw.take q).map (.int .i64) ++ [.int .i64 (-(x : Int))] by rw [List.take_add_one, hLx]; simp)
      clear hx hLx
      go_wp2_with (at_builtin; go_loud (refine append_one _ rfl (.tmp 77) (.tmp 83) 22 rfl w11.heap.size 3 (.int .i64 0) 8 Try.underlying22 int_info rfl u18 q _ rfl (hown.alloc _) wr.heap.size 1 (.int .i64 (-(x : Int))) rfl (by simp) rfl (by simp only [maxLen]; omega) (by omega) (by simp; omega) ?_))
      intro v5 w12 hown5 hg5
      go_wp2_with fail
      go_roundw
      case rel => exact ⟨q + 1, by omega, by go_num, by rw [HSt.out, List.map_take]; exact hown5, (hbl.alloc hsz _).grown hg5 (by simp; omega) (fun y hy => (hown.lt y hy).1)⟩
      case measure => simp [intOf]; omega
    · obtain rfl : n = q := by omega
      have hT : Lw.take n = Lw := List.take_of_length_le (by rw [HLwl.out]; exact Nat.le_refl _)
      rw [hT] at hown
      obtain ⟨A12, c12, rfl, hle12, _, hl12, _, _⟩ := own_slice hown
      have HLo := Lib.hid (hl12.alloc (.cells #[.int .i64 3, .int .i64 i, .int .i64 k, .int .i64 0] 58))
      have HOp := Lib.hid (show Lies (wr.alloc (.cells #[.int .i64 3, .int .i64 i, .int .i64 k, .int .i64 0] 58)) (wr.alloc (.cells #[.int .i64 3, .int .i64 i, .int .i64 k, .int .i64 0] 58)).heap.size (some ⟨wr.heap.size, 0, none⟩) (opsC [⟨3, i, k, 0⟩]) from (Blk.new wr 58 [.int .i64 3, .int .i64 i, .int .i64 k, .int .i64 0]).lies)
      have HAr := Lib.hid ((HA11.out.on hbl).alloc (.cells #[.int .i64 3, .int .i64 i, .int .i64 k, .int .i64 0] 58))
      have HBr := Lib.hid (chain (chain HB11.out hbl) (bnew wr (.cells #[.int .i64 3, .int .i64 i, .int .i64 k, .int .i64 0] 58)))
      clear hT hown hl12 hbl
      go_wp2_with fail
      refine (HPl.out A12 _ c12 1 _ hle12 (by exact HLo.out) (by exact HOp.out)).mono ?_
      unfold Played
      rintro e w13 ⟨A13, c13, A14, c14, rfl, hr13, _, _, hb13⟩
      obtain ⟨b13, o13, rfl, hb13l, hc13⟩ := hr13 (by intro e; cases e)
      have g1 : w13.cell? ⟨b13, o13 + 1, none⟩ = some (.int .i64 (reps Lw [⟨3, i, k, 0⟩] 1)) := hc13 1 _ rfl
      rw [HRep.out] at g1
      obtain ⟨b, o, x, rfl, hb, hx, hc⟩ := (HAr.out.on hb13).at_ (l := ns) (f := fun x : Nat => Value.int .i64 (x : Int)) (k := t) (by rw [HN.out]; omega)
      rw [HM.out] at hx
      obtain rfl := Option.some.inj hx
      have HB13 := Lib.hid (chain HBr.out hb13)
      have e1 : ((M : Int) == (M : Int)) = true := by simp
      have e2 : (-(M : Int) == -(M : Int)) = true := by simp
      have e3 : decide (i ≤ t) = true := by simpa using ht1
      have e4 : decide (t ≤ k) = true := by simpa using ht2
      have htn : t < n := by omega
      clear hr13 hc13 hx hb13
      simp only [List.length_cons, List.length_nil]
      go_wp2_with fail
      go_ret
      exact ⟨rfl, HB13.out⟩

set_option maxRecDepth 100000 in
theorem lifted (os : Os) (started : os.Started) (H : Type) (enc : TypeId × Value → H) :
    ReturnsInHanded {} Try.checked os 13 .any (Rows.topMaxSpec.pre6 enc Try.prog Try.f13 Rows.topMaxRow.domain false) (Rows.topMaxSpec.post enc Try.prog Try.f13 false true false false) := by
  refine returnsInHanded_of_change_sized (C := Try.checked) own started (by kernel_rfl) Try.func13
    (ChangeSpec.witness6 (enc := enc) (C := Try.checked) false ⟨#[], #[.slice none 0 0, .int .i64 0, .int .i64 0], []⟩ 8 (by kernel_rfl) (by kernel_rfl) (by kernel_rfl) (by kernel_rfl)) ?_
  intro W base args ds gs before hval0 hW hcnd hsz0 _
  have hval : ∀ (j : Nat) t v, Try.f13.params[j]? = some t → args[j]? = some v → Value.okWide Try.prog W .any base t v := hval0
  have hW' := hW
  obtain ⟨p, q, hA0, hV, rfl, hfz, hnd⟩ := hW
  have hA : DataW.TrodAll enc Try.prog W 0 (fun _ => true) true Try.f13.params.toList args.toList ds p := hA0
  have hsz : (DataW.weightsEach Try.prog (Try.f13.params.toList ++ Rows.topMaxSpec.plain.varTypes Try.prog) (ds ++ gs)).all (· ≤ reachBytes) = true := hsz0
  rw [Try.params13] at hA hval hsz
  obtain ⟨v0, vs0, d0, ds0, p0, q0, hargs, rfl, rfl, h0, r0⟩ := trodAll_cons hA
  obtain ⟨v1, vs1, d1, ds1, p1, q1, rfl, rfl, rfl, h1, r1⟩ := trodAll_cons r0
  obtain ⟨v2, vs2, d2, ds2, p2, q2, rfl, rfl, rfl, h2, r2⟩ := trodAll_cons r1
  obtain ⟨rfl, rfl, rfl⟩ := trodAll_nil r2
  obtain rfl : args = #[v0, v1, v2] := by cases args; simp_all
  obtain ⟨rfl, rfl⟩ := trodVars_none hV
  obtain ⟨A0, n0, c0, rfl⟩ := okWide_slice Try.underlying22 (hval 0 22 v0 rfl rfl)
  have k0 := h0
  have lt0 : ∀ x ∈ p0, x.block < W.heap.size := by obtain ⟨m, hm⟩ := k0; exact DataW.trod_lt m _ _ _ hm
  obtain ⟨fuel0, hf0⟩ := h0
  obtain ⟨A0_, l0, c0_, hcs0, hle0, hcap0, hnil0, w0⟩ := rd_ints Try.underlying22 Try.underlying3 (by kernel_rfl) (by kernel_rfl) hf0 (weight_arg hsz (j := 0) (t := 22) rfl rfl)
  have hcs0_ : [Value.slice A0 n0 c0] = [.slice A0_ l0.length c0_] := hcs0
  simp only [List.cons.injEq, Value.slice.injEq, and_true] at hcs0_
  obtain ⟨rfl, rfl, rfl⟩ := hcs0_
  clear hcs0
  obtain ⟨a1, rfl, rfl, rfl, w1⟩ := open_int Try.underlying3 (hval 1 3 v1 rfl rfl) h1
  obtain ⟨a2, rfl, rfl, rfl, w2⟩ := open_int Try.underlying3 (hval 2 3 v2 rfl rfl) h2
  clear hA0 hval0
  refine (walk A0 l0 c0 a1 a2 W hle0 hcap0 hnil0 w0 w1 w2).mono fun e W' ⟨he, bel⟩ => ?_
  subst he
  exact ⟨_, rfl, _, _, _, [], _, [], hW', trodAll_mk1 (shut_bool Try.underlying4 _), (trodAll_cons_mk (Below.trod laidOut (by kernel_rfl) (of_decide_eq_true (by kernel_rfl)) k0 bel lt0) (trodAll_cons_mk (shut_int Try.underlying3 w1) (trodAll_cons_mk (shut_int Try.underlying3 w2) trodAll_mk0))), rfl, bel.frame _, fun h => by cases h⟩

theorem over : Rows.topMaxRow.holds Try.pinned (OpenSpec.ofChange Rows.topMaxSpec) :=
  OpenClaim.holds_of_wide 13 Try.f13 rfl rfl rfl rfl rfl rfl rfl ⟨rfl, rfl, rfl, rfl, rfl⟩ rfl rfl rfl rfl rfl (by kernel_rfl) Try.func13 (by kernel_rfl)
    (of_decide_eq_true (by kernel_rfl)) (by unfold Func.isWrapper; first | (rw [if_pos (by decide +kernel)]; kernel_rfl) | (rw [if_neg (by decide +kernel)]; exact ⟨rfl, rfl⟩))
    (fun os started H enc _ => lifted os started H enc)

/-- THE STATEMENT. -/
theorem proved : Rows.TopMaxSaid := over
#print axioms proved
end Go.Proofs.Ytefgfkicacbmeaa.topMax
