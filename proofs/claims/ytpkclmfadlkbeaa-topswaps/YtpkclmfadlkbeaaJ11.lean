/-
  What slices.Grow of a nil slice of int and slices.Concat of slices of int return: contracts, walked over the translated text. No condition but what each theorem names.
-/
import Derived.Test.YtpkclmfadlkbeaaJ03
import Derived.Test.YtpkclmfadlkbeaaJ01
import Derived.Test.YtpkclmfadlkbeaaJ02
import Derived.IntWalk
import Derived.Lib.AppendZerosOnto
namespace Go.Proofs.Ytpkclmfadlkbeaa
open Go.RowKit Words

theorem cint_info : (Try.prog.info? 3).map (fun i => (i.zero, i.size, i.bytes)) = some (some (.int .i64 0), 1, 8) := by kernel_rfl

/-- What a call that returns a new row of int, its caller's own, leaves. -/
def GivesOwnC (w : World) (l : List Int) (e : Ending) (w' : World) : Prop := ∃ v, e = .returned v ∧ w'.ownsRow w.heap.size 3 1 v l.length (l.map (.int .i64)) ∧ Below w.heap.size w w'

theorem grow_zeros (n : Nat) (h0 : 0 < n) (hn : n ≤ 4096) (ty : TypeId) (w : World) :
    (Builtin.append_ #[31, 3] ty #[.slice none 0 0, .int .i64 (n : Int)]).run Try.prog w =
      .ok (.slice (some ⟨w.heap.size, 0, none⟩) n (grownCap w n 0 3)) (w.drew.alloc (.cells (Builtin.zeroCells (Value.int .i64 0).cells n ++ Builtin.zeroCells (Value.int .i64 0).cells (grownCap w n 0 3 - n)) 3)) := by
  obtain ⟨i, hi, hz0, hz1, hz2⟩ := info_parts cint_info
  have hfit : Builtin.nextslicecap (0 + n) 0 * i.bytes ≤ 281474976710656 := by
    rw [hz2]
    exact growslice_fits (by omega) (by omega)
  have h := Lib.run_append_grow_zeros (P := Try.prog) w 31 3 ty 3 i (.int .i64 0) .i64 .i64 Try.underlying31 Try.underlying3 hi hz0 none 0 0 [] (run_firstCells_none w.drew i.size 0 0 0) n h0 (by omega) (by omega) (by omega) (by rw [hz2]; omega) hfit
  simp only [Nat.zero_add] at h
  rw [h]
  simp

theorem grow_step (w : World) {ops : Array Oper} {rest : List Oper} {o : Oper} {a : Act} {Q : Exit → Act → World → Prop} (hgd : o.guard = none) (s x : Operand) (n : Nat) (h0 : 0 < n) (hn : n ≤ 4096)
    (ho : o.op = .call { callee := .builtin .append, args := #[s, x], argTypes := #[31, 3] }) (hs : a.eval s = .slice none 0 0) (hx : a.eval x = .int .i64 (n : Int))
    (h : wpList Try.prog ops Q rest (a.put o.dst (.slice (some ⟨w.heap.size, 0, none⟩) n (grownCap w n 0 3))) (w.drew.alloc (.cells (Builtin.zeroCells (Value.int .i64 0).cells n ++ Builtin.zeroCells (Value.int .i64 0).cells (grownCap w n 0 3 - n)) 3))) : wpList Try.prog ops Q (o :: rest) a w := by
  refine wpList_plain hgd fun K hK => ?_
  unfold Oper.wp execOp
  simp only [ho, resolve, invoke, builtin, Sem.run_bind, Sem.run_pure, Result.andThen_ok, List.map_toArray, List.map_cons, List.map_nil, hs, hx, grow_zeros n h0 hn]
  exact hK _ _ h

set_option maxHeartbeats 1000000 in
/-- slices.Grow of a nil slice. -/
theorem grow_nil (n : Nat) (w : World) (hn : n ≤ 4096) :
    Calls Try.prog 72 #[.slice none 0 0, .int .i64 n] w (GivesOwnC w []) := by
  have hd : decide ((n : Int) < 0) = false := by simp
  rcases Nat.eq_zero_or_pos n with h | h
  · subst h
    go_enter Try.func72, Try.ntmps72
    go_wp2_with fail
    go_ret
    exact ⟨_, rfl, World.ownsRow_nil _ _ _ _, Below.refl _ _⟩
  · have hge := grownCap_ge w n 0 3
    have hle := grownCap_le_maxLen w n 0 3 (by simp only [maxLen]; omega)
    simp only [maxLen] at hle
    have hG0 : (0 : Int) ≤ (grownCap w n 0 3 : Int) := by omega
    go_enter Try.func72, Try.ntmps72
    go_wp2_with (at_builtin; go_loud (refine grow_step _ rfl (.tmp 20) (.tmp 21) n h hn rfl rfl rfl ?_))
    generalize grownCap w n 0 3 = G at *
    go_wp2_with fail
    go_ret
    refine ⟨_, rfl, ⟨rfl, .inr ⟨w.heap.size, G, _, rfl, Nat.le_refl _, heap_alloc_new w.drew _, Nat.zero_le _, by simp only [maxLen]; omega, ?_, by simp⟩⟩, (Below.refl _ _).drew.alloc (Nat.le_refl _) _⟩
    rw [Array.size_append, size_zeroCells, size_zeroCells]
    simp
    omega

/-- The numbers of all rows, one row behind the other. -/
def flat (rs : List Row) : List Int := (rs.map Row.nums).flatten
theorem flat_succ (rs : List Row) (i : Nat) (r : Row) (h : rs[i]? = some r) : flat (rs.take (i + 1)) = flat (rs.take i) ++ r.nums := by
  unfold flat
  rw [List.take_add_one, h]
  simp
theorem flat_all (rs : List Row) : flat (rs.take rs.length) = flat rs := by rw [List.take_length]
theorem flat_le (rs : List Row) (i : Nat) : (flat (rs.take i)).length ≤ (flat rs).length := by
  have h : flat rs = flat (rs.take i) ++ flat (rs.drop i) := by unfold flat; rw [← List.flatten_append, ← List.map_append, List.take_append_drop]
  rw [h, List.length_append]
  omega
theorem cells_one_c (l : List Int) : ∀ u ∈ l.map (Value.int .i64), u.oneCell' = true := by
  intro u hu
  obtain ⟨_, _, rfl⟩ := List.mem_map.1 hu
  rfl

set_option maxHeartbeats 2000000 in
/-- slices.Concat. -/
theorem concat_any (A : Option Addr) (rs : List Row) (c : Nat) (w : World) (hG : Grid w w.heap.size A rs) (hk : rs.length ≤ 1000) (hf : (flat rs).length ≤ 4096) (hnil : ∀ r ∈ rs, r.adr = none → r.cap = 0) :
    Calls Try.prog 57 #[.slice A rs.length c] w (GivesOwnC w (flat rs)) := by
  have HG := Lib.hid hG
  have HNil := Lib.hid hnil
  have HFl := Lib.hid (fun i r h => flat_succ rs i r h)
  have HFa := Lib.hid (flat_all rs)
  have HLe := Lib.hid (fun i => flat_le rs i)
  have HGr := Lib.hid (fun n W hn => grow_nil n W hn)
  clear hG hnil
  generalize hkk : rs.length = k at *
  have HK := Lib.hid hkk
  clear hkk
  generalize hss : (flat rs).length = s at *
  have HS := Lib.hid hss
  clear hss
  go_enter Try.func57, Try.ntmps57
  go_wp2_with fail
  go_loop [3, 11] (fun s3 s11 => ∃ i : Nat, i ≤ k ∧ s11 = .int .i64 i ∧ s3 = .int .i64 (flat (rs.take i)).length) (fun _ s11 => k - (intOf s11).toNat)
  case atStart => exact ⟨0, Nat.zero_le _, rfl, by simp [flat]⟩
  case round =>
    obtain ⟨i, hi, rfl, rfl⟩ := hrel
    by_cases hlt : i < k
    · obtain ⟨b, o, r, rfl, hb, hr, hc, hl⟩ := HG.out.at_ (k := i) (by rw [HK.out]; exact hlt)
      have h1 := HFl.out i r hr
      have h2 := HLe.out (i + 1)
      have h3 := congrArg List.length h1
      rw [List.length_append] at h3
      obtain ⟨m2, hm2⟩ : ∃ m2, (flat (rs.take (i + 1))).length = m2 := ⟨_, rfl⟩
      obtain ⟨m1, hm1⟩ : ∃ m1, (flat (rs.take i)).length = m1 := ⟨_, rfl⟩
      rw [hm1]
      rw [hm2, hm1] at h3
      rw [hm2] at h2
      have HM2 := Lib.hid hm2
      generalize r.nums.length = m at *
      have hm : (m1 : Int) + (m : Int) = (m2 : Int) := by omega
      have hm0 : decide ((m2 : Int) < 0) = false := by simp
      have hm4 : m2 ≤ 4096 := by omega
      clear h1 h2 h3 hr hl hm1 hm2
      go_wp2_with fail
      go_round
      case rel => exact ⟨i + 1, by omega, by go_num, by rw [HM2.out]⟩
      case measure => simp [intOf]; omega
    · obtain rfl : k = i := by omega
      have hfa := HFa.out
      rw [hfa]
      rw [HS.out]
      clear hfa
      go_wp2_with fail
      refine (HGr.out s w hf).mono ?_
      rintro e w1 ⟨v0, rfl, hown0, hb0⟩
      have HG1 := Lib.hid (HG.out.on hb0)
      have HO0 := Lib.hid hown0
      have HB0 := Lib.hid hb0
      clear hown0 hb0
      go_wp2_with fail
      go_loopw [6, 27] (fun s6 s27 w' => ∃ i : Nat, i ≤ k ∧ s27 = .int .i64 i ∧ w'.ownsRow w.heap.size 3 1 s6 (flat (rs.take i)).length ((flat (rs.take i)).map (.int .i64)) ∧ Below w.heap.size w w') (fun _ s27 _ => k - (intOf s27).toNat)
      case atStart => exact ⟨0, Nat.zero_le _, rfl, HO0.out, HB0.out⟩
      case round =>
        obtain ⟨i, hi, rfl, hown, hbl⟩ := hrel
        have hsz := hbl.size
        by_cases hlt : i < k
        · obtain ⟨b, o, r, rfl, hb, hr, hc, hl⟩ := (HG.out.on hbl).at_ (k := i) (by rw [HK.out]; exact hlt)
          have h1 := HFl.out i r hr
          have h2 := HLe.out (i + 1)
          have hrn := HNil.out r (List.mem_of_getElem? hr)
          have h3 := congrArg List.length h1
          rw [List.length_append] at h3
          have H1 := Lib.hid h1
          have H3 := Lib.hid h3
          have HL := Lib.hid hl
          have HRN := Lib.hid hrn
          clear h1 hr hl hrn
          have hm4 : (flat (rs.take i)).length + r.nums.length ≤ 4096 := by omega
          clear h2 h3
          go_wp2_with (at_builtin; go_loud (refine append_from _ rfl (.tmp 31) (.tmp 32) 31 rfl w.heap.size 3 (.int .i64 0) 8 Try.underlying31 cint_info rfl u6 (flat (rs.take i)).length _ rfl hown r.adr r.nums.length r.cap (r.nums.map (.int .i64)) rfl (by rw [List.length_map]) HRN.out HL.out (cells_one_c _) (by simp only [maxLen]; omega) (by omega) hsz ?_))
          intro v1 w2 hown1 hg1
          go_wp2_with fail
          go_roundw
          case rel => exact ⟨i + 1, by omega, by go_num, by rw [H3.out, H1.out, List.map_append]; exact hown1, hbl.grown hg1 (by omega) (fun q hq => (hown.lt q hq).1)⟩
          case measure => simp [intOf]; omega
        · obtain rfl : k = i := by omega
          have hfa := HFa.out
          have HFA := Lib.hid hfa
          clear hfa
          go_wp2_with fail
          go_ret
          exact ⟨_, rfl, by rw [← HFA.out]; exact hown, hbl⟩
end Go.Proofs.Ytpkclmfadlkbeaa
