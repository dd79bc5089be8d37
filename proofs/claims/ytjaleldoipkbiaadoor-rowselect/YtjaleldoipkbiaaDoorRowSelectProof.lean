/-
  For every list l of bools, either kind of bit and every number k: in the vector of its first 500, bits.Select finds a bit of the kind whose rank (for zero bits: its place less its rank) is the number asked for, and finds none at their number itself.
  The card is tied: the library's table math/bits.deBruijn64tab holds, when the call begins, what the program's own text lays (the tie is given with the seat; that nothing else writes the table is the translator's report).
-/
import Derived.Test.YtjaleldoipkbiaaDoorRows
import Derived.Test.YtjaleldoipkbiaaDoorTie
import Derived.Test.YtjaleldoipkbiaaDoorCards
import Derived.Test.YtjaleldoipkbiaaDoorFrame
import Derived.Test.YtjaleldoipkbiaaDoorBitsSel
import Derived.Test.YtjaleldoipkbiaaDoorBitsAt
import Derived.Test.YtjaleldoipkbiaaDoorKeep1
import Derived.Test.YtjaleldoipkbiaaDoorKeep2
import Derived.WalkKit
import Derived.ProofKit
import Derived.OpenShut
import Derived.ChangeOld
import Derived.Below
import Derived.Carry
import Derived.SizedLaws
import Derived.Deep.RegionWith
import Derived.Deep.RegionHeld3
import Derived.LaidMore
import Derived.Stop.Joined
import Derived.Lib.LaidTab
import Derived.SevenTiedAt
namespace Go.Proofs.YtjaleldoipkbiaaDoor.rowSelect
open Go.ChangeShapes Go.WideShapes Go.ChangeAt Go.RowKit Words
set_option linter.unusedVariables false

theorem own : ownKnob Tryd.prog.godebug = none := by kernel_rfl
theorem laidOut : laidOutB Tryd.prog = true := by kernel_rfl

set_option maxHeartbeats 1000000 in
/-- The walk: the Go text returns true, and writes nothing that was there. -/
theorem walk (A0 : Option Addr) (l0 : List Bool) (c0 : Nat) (a1 : Bool) (a2 : Int) (w : World) (hT : Tab w) (hle0 : l0.length ≤ c0) (hcap0 : c0 ≤ 140737488351232) (hnil0 : A0 = none → c0 = 0) (w0 : Lies w w.heap.size A0 (l0.map .bool)) (w2 : (Lit.int .i64 a2).wf = true) :
    Calls Tryd.prog 4 #[.slice A0 l0.length c0, .bool a1, .int .i64 a2] w fun e w' => e = .returned (.bool true) ∧ Below w.heap.size w w' := by
  have HF := Lib.hid (flags_any A0 l0 c0 500 w hle0 hcap0 (by omega) hnil0 w0)
  have hfl : (l0.take 500).length ≤ 500 := by simp; omega
  generalize l0.take 500 = fs at *
  have hV := rowOf_valid fs (by omega)
  have hbits := rowOf_bit fs
  have hrl := rowOf_length fs
  have HR := Lib.hid (fun A c W h1 h2 => row_any A fs c W (by omega) h1 h2)
  generalize rowOf fs = ws at *
  have HB := Lib.hid (fun i (h : i < fs.length) => hbits i (by omega))
  have hlm : (fs.map Value.bool).length = fs.length := by simp
  have HT := Lib.hid hT
  clear hbits hrl w0 hnil0 hT
  generalize hm : fs.length = m at *
  have HMM := Lib.hid hm
  clear hm
  have HK := Lib.hid (fun i A c W (h : Words64 W W.heap.size A ws) (hi : i ≤ m) => brank_in m i A ws c W hV h hi)
  have htb := tally_le (bit ws) m
  have hmany : ∃ many : Nat, many = tally (kind ws m a1) m := ⟨_, rfl⟩
  obtain ⟨many, hmany⟩ := hmany
  have hmm : many ≤ m := by rw [hmany]; exact tally_le _ _
  have HN := Lib.hid (fun A c W (h : Words64 W W.heap.size A ws) => bsel_none m many a1 A ws c W hV h (by omega) (by omega))
  have hmt : a1 = true → many = tally (bit ws) m := fun e => by rw [hmany, e]; exact tally_kind_true ws m m (Nat.le_refl _)
  have hmf : a1 = false → many = m - tally (bit ws) m := fun e => by have := tally_kind_false ws m m (Nat.le_refl _); rw [hmany, e]; omega
  have hmf2 : a1 = false → (m : Int) - ((tally (bit ws) m : Nat) : Int) = (many : Int) := fun e => by rw [hmf e]; omega
  by_cases hz : many = 0
  · cases a1
    · skip
      have hsub := hmf2 rfl
      have HKm := Lib.hid (fun A c W (h : Words64 W W.heap.size A ws) => HK.out m A c W h (Nat.le_refl _))
      have hul : tally (bit ws) m ≤ m := htb
      clear hmt hmf hmf2 htb hmany
      generalize tally (bit ws) m = u at *
      subst hz
      clear hV w2
      go_enter Tryd.func4, Tryd.ntmps4
      go_wp2_with fail
      refine HF.out.mono ?_
      rintro e w1 ⟨A1, c1, rfl, hle1, hl1, hn1, _, hb1⟩
      rw [hlm]
      rw [hlm] at hle1
      have HL1 := Lib.hid hl1
      have HN1 := Lib.hid hn1
      clear hl1 hn1
      go_wp2_with fail
      refine (HR.out A1 c1 _ HN1.out HL1.out).mono ?_
      rintro e w2 ⟨A2, c2, rfl, hW2, _, hb2⟩
      have HW2 := Lib.hid hW2
      clear hW2
      go_wp2_with fail
      refine (HKm.out A2 c2 _ (by exact HW2.out.alloc _)).mono ?_
      rintro e w3 ⟨rfl, hb3⟩
      have hbox : Blk w3 w2.heap.size 24 [.int .i64 m, .slice A2 ws.length c2] := (Blk.new w2 24 [.int .i64 m, .slice A2 ws.length c2]).below hb3 (by simp)
      have HW3 := Lib.hid ((HW2.out.alloc _).on hb3)
      have HL3 := Lib.hid (((HL1.out.on hb2).alloc _).on hb3)
      have HT3 := Lib.hid ((((HT.out.on hb1).on hb2).alloc _).on hb3)
      have HB3 := Lib.hid (chain (chain (chain hb1 hb2) (bnew _ _)) hb3)
      clear hb1 hb2 hb3 HW2 HL1 hlm
      generalize w2.heap.size = g at *
      have hq0 : w3.cell? ⟨g, 0, none⟩ = some (.int .i64 m) := hbox.cell 0
      have hq1 : w3.cell? ⟨g, 1, none⟩ = some (.slice A2 ws.length c2) := hbox.cell 1
      go_wp2_with fail
      refine (HN.out A2 c2 _ HW3.out).mono ?_
      rintro e w4 ⟨rfl, hb4⟩
      go_wp2
      go_ret
      exact ⟨rfl, chain HB3.out hb4⟩
    · skip
      have hM := hmt rfl
      have HKm := Lib.hid (fun A c W (h : Words64 W W.heap.size A ws) => HK.out m A c W h (Nat.le_refl _))
      rw [← hM] at HKm
      clear hM hmt hmf hmf2 htb hmany
      subst hz
      clear hV w2
      go_enter Tryd.func4, Tryd.ntmps4
      go_wp2_with fail
      refine HF.out.mono ?_
      rintro e w1 ⟨A1, c1, rfl, hle1, hl1, hn1, _, hb1⟩
      rw [hlm]
      rw [hlm] at hle1
      have HL1 := Lib.hid hl1
      have HN1 := Lib.hid hn1
      clear hl1 hn1
      go_wp2_with fail
      refine (HR.out A1 c1 _ HN1.out HL1.out).mono ?_
      rintro e w2 ⟨A2, c2, rfl, hW2, _, hb2⟩
      have HW2 := Lib.hid hW2
      clear hW2
      go_wp2_with fail
      refine (HKm.out A2 c2 _ (by exact HW2.out.alloc _)).mono ?_
      rintro e w3 ⟨rfl, hb3⟩
      have hbox : Blk w3 w2.heap.size 24 [.int .i64 m, .slice A2 ws.length c2] := (Blk.new w2 24 [.int .i64 m, .slice A2 ws.length c2]).below hb3 (by simp)
      have HW3 := Lib.hid ((HW2.out.alloc _).on hb3)
      have HL3 := Lib.hid (((HL1.out.on hb2).alloc _).on hb3)
      have HT3 := Lib.hid ((((HT.out.on hb1).on hb2).alloc _).on hb3)
      have HB3 := Lib.hid (chain (chain (chain hb1 hb2) (bnew _ _)) hb3)
      clear hb1 hb2 hb3 HW2 HL1 hlm
      generalize w2.heap.size = g at *
      have hq0 : w3.cell? ⟨g, 0, none⟩ = some (.int .i64 m) := hbox.cell 0
      have hq1 : w3.cell? ⟨g, 1, none⟩ = some (.slice A2 ws.length c2) := hbox.cell 1
      go_wp2_with fail
      refine (HN.out A2 c2 _ HW3.out).mono ?_
      rintro e w4 ⟨rfl, hb4⟩
      go_wp2
      go_ret
      exact ⟨rfl, chain HB3.out hb4⟩
  · cases a1
    · skip
      obtain ⟨j, hj, hP⟩ := picked_all a2 many (by omega) (by omega) w2
      obtain ⟨p, hp, hpb, hpc⟩ := tally_hit (kind ws m false) j m (by omega)
      rw [kind_in ws m false hp] at hpb
      have hpb : bit ws p = false := by simpa using hpb
      have HX : Hid (∀ x, fs[p]? = some x → false = x) := Lib.hid (fun x hx => by
        have h1 := HB.out p hp
        rw [hpb, List.getD, hx] at h1
        exact h1)
      have HP := Lib.hid hP
      have HS := Lib.hid (fun A c W (hT : Tab W) (h : Words64 W W.heap.size A ws) => bsel_some m j p false A ws c W hT hV h hp hpb hpc)
      have HKp := Lib.hid (fun A c W (h : Words64 W W.heap.size A ws) => HK.out p A c W h (by omega))
      have hsub := hmf2 rfl
      have HKm := Lib.hid (fun A c W (h : Words64 W W.heap.size A ws) => HK.out m A c W h (Nat.le_refl _))
      have hul : tally (bit ws) m ≤ m := htb
      clear hmt hmf hmf2 htb hmany
      generalize tally (bit ws) m = u at *
      have hpf := tally_kind_false ws m p (by omega)
      have hfin : ((p : Int) - ((tally (bit ws) p : Nat) : Int) == (j : Int)) = true := by simp; omega
      have hpl : tally (bit ws) p ≤ p := tally_le _ _
      clear hpf
      generalize tally (bit ws) p = v at *
      have hz0 : ((many : Int) == 0) = false := by simp; omega
      have hpm : decide (m ≤ p) = false := by simp; omega
      have hp0 : decide ((p : Int) < 0) = false := by simp
      clear hV hP hpb hpc hz w2 HB
      go_enter Tryd.func4, Tryd.ntmps4
      go_wp2_with fail
      refine HF.out.mono ?_
      rintro e w1 ⟨A1, c1, rfl, hle1, hl1, hn1, _, hb1⟩
      rw [hlm]
      rw [hlm] at hle1
      have HL1 := Lib.hid hl1
      have HN1 := Lib.hid hn1
      clear hl1 hn1
      go_wp2_with fail
      refine (HR.out A1 c1 _ HN1.out HL1.out).mono ?_
      rintro e w2 ⟨A2, c2, rfl, hW2, _, hb2⟩
      have HW2 := Lib.hid hW2
      clear hW2
      go_wp2_with fail
      refine (HKm.out A2 c2 _ (by exact HW2.out.alloc _)).mono ?_
      rintro e w3 ⟨rfl, hb3⟩
      have hbox : Blk w3 w2.heap.size 24 [.int .i64 m, .slice A2 ws.length c2] := (Blk.new w2 24 [.int .i64 m, .slice A2 ws.length c2]).below hb3 (by simp)
      have HW3 := Lib.hid ((HW2.out.alloc _).on hb3)
      have HL3 := Lib.hid (((HL1.out.on hb2).alloc _).on hb3)
      have HT3 := Lib.hid ((((HT.out.on hb1).on hb2).alloc _).on hb3)
      have HB3 := Lib.hid (chain (chain (chain hb1 hb2) (bnew _ _)) hb3)
      clear hb1 hb2 hb3 HW2 HL1 hlm
      generalize w2.heap.size = g at *
      have hq0 : w3.cell? ⟨g, 0, none⟩ = some (.int .i64 m) := hbox.cell 0
      have hq1 : w3.cell? ⟨g, 1, none⟩ = some (.slice A2 ws.length c2) := hbox.cell 1
      go_wp2_with fail
      refine (HN.out A2 c2 _ HW3.out).mono ?_
      rintro e w4 ⟨rfl, hb4⟩
      have hbox4 := hbox.below hb4 hbox.lt
      have hq40 : w4.cell? ⟨g, 0, none⟩ = some (.int .i64 m) := hbox4.cell 0
      have hq41 : w4.cell? ⟨g, 1, none⟩ = some (.slice A2 ws.length c2) := hbox4.cell 1
      go_wp2_with fail
      refine (HP.out _).mono ?_
      rintro e w' ⟨rfl, rfl⟩
      go_wp2_with fail
      refine (HS.out A2 c2 _ (by exact HT3.out.on hb4) (by exact HW3.out.on hb4)).mono ?_
      rintro e w5 ⟨rfl, hb5⟩
      have hb45 := chain hb4 hb5
      have hbox5 := hbox.below hb45 hbox.lt
      have hq50 : w5.cell? ⟨g, 0, none⟩ = some (.int .i64 m) := hbox5.cell 0
      have hq51 : w5.cell? ⟨g, 1, none⟩ = some (.slice A2 ws.length c2) := hbox5.cell 1
      go_wp2_with fail
      refine (HKp.out A2 c2 _ (by exact HW3.out.on hb45)).mono ?_
      rintro e w6 ⟨rfl, hb6⟩
      have hb46 := chain hb45 hb6
      obtain ⟨b, o, x, rfl, hb, hx, hc⟩ := (HL3.out.on hb46).at_ (k := p) (by rw [HMM.out]; exact hp)
      obtain rfl := HX.out x hx
      clear hx
      go_wp2
      go_ret
      exact ⟨rfl, chain HB3.out hb46⟩
    · skip
      obtain ⟨j, hj, hP⟩ := picked_all a2 many (by omega) (by omega) w2
      obtain ⟨p, hp, hpb, hpc⟩ := tally_hit (kind ws m true) j m (by omega)
      rw [kind_in ws m true hp] at hpb
      have hpb : bit ws p = true := by simpa using hpb
      have HX : Hid (∀ x, fs[p]? = some x → true = x) := Lib.hid (fun x hx => by
        have h1 := HB.out p hp
        rw [hpb, List.getD, hx] at h1
        exact h1)
      have HP := Lib.hid hP
      have HS := Lib.hid (fun A c W (hT : Tab W) (h : Words64 W W.heap.size A ws) => bsel_some m j p true A ws c W hT hV h hp hpb hpc)
      have HKp := Lib.hid (fun A c W (h : Words64 W W.heap.size A ws) => HK.out p A c W h (by omega))
      have hM := hmt rfl
      have HKm := Lib.hid (fun A c W (h : Words64 W W.heap.size A ws) => HK.out m A c W h (Nat.le_refl _))
      rw [← hM] at HKm
      clear hM hmt hmf hmf2 htb hmany
      rw [tally_kind_true ws m p (by omega)] at hpc
      rw [hpc] at HKp
      have hjj : ((j : Int) == (j : Int)) = true := by simp
      have hz0 : ((many : Int) == 0) = false := by simp; omega
      have hpm : decide (m ≤ p) = false := by simp; omega
      have hp0 : decide ((p : Int) < 0) = false := by simp
      clear hV hP hpb hpc hz w2 HB
      go_enter Tryd.func4, Tryd.ntmps4
      go_wp2_with fail
      refine HF.out.mono ?_
      rintro e w1 ⟨A1, c1, rfl, hle1, hl1, hn1, _, hb1⟩
      rw [hlm]
      rw [hlm] at hle1
      have HL1 := Lib.hid hl1
      have HN1 := Lib.hid hn1
      clear hl1 hn1
      go_wp2_with fail
      refine (HR.out A1 c1 _ HN1.out HL1.out).mono ?_
      rintro e w2 ⟨A2, c2, rfl, hW2, _, hb2⟩
      have HW2 := Lib.hid hW2
      clear hW2
      go_wp2_with fail
      refine (HKm.out A2 c2 _ (by exact HW2.out.alloc _)).mono ?_
      rintro e w3 ⟨rfl, hb3⟩
      have hbox : Blk w3 w2.heap.size 24 [.int .i64 m, .slice A2 ws.length c2] := (Blk.new w2 24 [.int .i64 m, .slice A2 ws.length c2]).below hb3 (by simp)
      have HW3 := Lib.hid ((HW2.out.alloc _).on hb3)
      have HL3 := Lib.hid (((HL1.out.on hb2).alloc _).on hb3)
      have HT3 := Lib.hid ((((HT.out.on hb1).on hb2).alloc _).on hb3)
      have HB3 := Lib.hid (chain (chain (chain hb1 hb2) (bnew _ _)) hb3)
      clear hb1 hb2 hb3 HW2 HL1 hlm
      generalize w2.heap.size = g at *
      have hq0 : w3.cell? ⟨g, 0, none⟩ = some (.int .i64 m) := hbox.cell 0
      have hq1 : w3.cell? ⟨g, 1, none⟩ = some (.slice A2 ws.length c2) := hbox.cell 1
      go_wp2_with fail
      refine (HN.out A2 c2 _ HW3.out).mono ?_
      rintro e w4 ⟨rfl, hb4⟩
      have hbox4 := hbox.below hb4 hbox.lt
      have hq40 : w4.cell? ⟨g, 0, none⟩ = some (.int .i64 m) := hbox4.cell 0
      have hq41 : w4.cell? ⟨g, 1, none⟩ = some (.slice A2 ws.length c2) := hbox4.cell 1
      go_wp2_with fail
      refine (HP.out _).mono ?_
      rintro e w' ⟨rfl, rfl⟩
      go_wp2_with fail
      refine (HS.out A2 c2 _ (by exact HT3.out.on hb4) (by exact HW3.out.on hb4)).mono ?_
      rintro e w5 ⟨rfl, hb5⟩
      have hb45 := chain hb4 hb5
      have hbox5 := hbox.below hb45 hbox.lt
      have hq50 : w5.cell? ⟨g, 0, none⟩ = some (.int .i64 m) := hbox5.cell 0
      have hq51 : w5.cell? ⟨g, 1, none⟩ = some (.slice A2 ws.length c2) := hbox5.cell 1
      go_wp2_with fail
      refine (HKp.out A2 c2 _ (by exact HW3.out.on hb45)).mono ?_
      rintro e w6 ⟨rfl, hb6⟩
      have hb46 := chain hb45 hb6
      obtain ⟨b, o, x, rfl, hb, hx, hc⟩ := (HL3.out.on hb46).at_ (k := p) (by rw [HMM.out]; exact hp)
      obtain rfl := HX.out x hx
      clear hx
      go_wp2
      go_ret
      exact ⟨rfl, chain HB3.out hb46⟩

theorem gTab : Tryd.prog.globalNamed "math/bits.deBruijn64tab" = some 0 := by kernel_rfl
theorem tTab : (Tryd.prog.globals[0]?).map (·.type) = some 48 := by kernel_rfl
/-- The door's own heap meets the condition. -/
theorem door_met (os : Os) (args : Array Value) : laidMetH Tryd.prog Rows.rowSelectRow.laid ((World.doorLaid Tryd.prog 14 os).forCall (fun _ _ => 0) ⟨#[], args, []⟩).memory :=
  laidMetH_of_parts3 (fuel := 8) (laidMet_of_run' 8 (by kernel_rfl) (by kernel_rfl)) (by kernel_rfl) (by kernel_rfl)

/-- What the condition gives the walk: the table's cells. -/
theorem tab_of {W : World} (h : laidMetH Tryd.prog Rows.rowSelectRow.laid W) : Tab W := by
  rw [MakeChecks.laidMetH_plain _ _ _ (by kernel_rfl)] at h
  have h2 : laidMet Tryd.prog [("math/bits.deBruijn64tab", Lib.tabData .u8 (Lib.deBruijn64tab.map fun n : Nat => (n : Int)))] W := h
  have ht := Lib.tabIs_of_head gTab tTab Tryd.underlying48 Tryd.underlying5 (by kernel_rfl) (by kernel_rfl) h2
  intro j hj
  have hc := ht.cell gTab j (by simpa [Lib.deBruijn64tab] using hj)
  rw [hc]
  congr 2
  simp only [List.getD, List.getElem?_map]
  cases Lib.deBruijn64tab[j]? <;> rfl

set_option maxRecDepth 100000 in
theorem lifted (os : Os) (started : os.Started) (H : Type) (enc : TypeId × Value → H) :
    ReturnsInHanded {} Tryd.checked os 4 .any (fun w args => (Rows.rowSelectSpec.pre enc Tryd.prog Tryd.f4 [] false w args ∧ laidMetH Tryd.prog Rows.rowSelectRow.laid w) ∧ sizedMet enc Tryd.prog Tryd.f4 (OpenSpec.ofChange Rows.rowSelectSpec) false w args)
      (Rows.rowSelectSpec.post enc Tryd.prog Tryd.f4 false true false false) := by
  refine returnsInHanded_of_change_and (C := Tryd.checked) (X := fun w _ => laidMetH Tryd.prog Rows.rowSelectRow.laid w) (fun _ _ _ hh h => h.of_heap hh) own started (by kernel_rfl) Tryd.func4
    (ChangeSpec.witness_shaped (enc := enc) (C := Tryd.checked) (os := os) (X := fun w _ => laidMetH Tryd.prog Rows.rowSelectRow.laid w) false (World.doorLaid Tryd.prog 14 os) #[.slice none 0 0, .bool false, .int .i64 0] 8 rfl (World.shaped_of_RefB (by kernel_rfl) (by kernel_rfl)) (by kernel_rfl) (by kernel_rfl) (by kernel_rfl) (door_met os _)) ?_
  intro W base args ds gs before hval0 hW _ hsz0 hL _
  have hval : ∀ (j : Nat) t v, Tryd.f4.params[j]? = some t → args[j]? = some v → Value.okWide Tryd.prog W .any base t v := hval0
  have hW' := hW
  obtain ⟨p, q, hA0, hV, rfl, hfz, hnd⟩ := hW
  have hA : DataW.TrodAll enc Tryd.prog W 0 (fun _ => true) true Tryd.f4.params.toList args.toList ds p := hA0
  have hsz : (DataW.weightsEach Tryd.prog (Tryd.f4.params.toList ++ Rows.rowSelectSpec.plain.varTypes Tryd.prog) (ds ++ gs)).all (· ≤ reachBytes) = true := hsz0
  rw [Tryd.params4] at hA hval hsz
  obtain ⟨v0, vs0, d0, ds0, p0, q0, hargs, rfl, rfl, h0, r0⟩ := trodAll_cons hA
  obtain ⟨v1, vs1, d1, ds1, p1, q1, rfl, rfl, rfl, h1, r1⟩ := trodAll_cons r0
  obtain ⟨v2, vs2, d2, ds2, p2, q2, rfl, rfl, rfl, h2, r2⟩ := trodAll_cons r1
  obtain ⟨rfl, rfl, rfl⟩ := trodAll_nil r2
  obtain rfl : args = #[v0, v1, v2] := by cases args; simp_all
  obtain ⟨rfl, rfl⟩ := trodVars_none hV
  obtain ⟨A0, n0, c0, rfl⟩ := okWide_slice Tryd.underlying29 (hval 0 29 v0 rfl rfl)
  have k0 := h0
  have lt0 : ∀ x ∈ p0, x.block < W.heap.size := by obtain ⟨m, hm⟩ := k0; exact DataW.trod_lt m _ _ _ hm
  obtain ⟨fuel0, hf0⟩ := h0
  obtain ⟨A0_, l0, c0_, hcs0, hle0, hcap0, hnil0, w0⟩ := rd_bools Tryd.underlying29 Tryd.underlying4 (by kernel_rfl) (by kernel_rfl) hf0 (weight_arg hsz (j := 0) (t := 29) rfl rfl)
  have hcs0_ : [Value.slice A0 n0 c0] = [.slice A0_ l0.length c0_] := hcs0
  simp only [List.cons.injEq, Value.slice.injEq, and_true] at hcs0_
  obtain ⟨rfl, rfl, rfl⟩ := hcs0_
  clear hcs0
  obtain ⟨a1, rfl, rfl, rfl⟩ := open_bool Tryd.underlying4 (hval 1 4 v1 rfl rfl) h1
  obtain ⟨a2, rfl, rfl, rfl, w2⟩ := open_int Tryd.underlying3 (hval 2 3 v2 rfl rfl) h2
  clear hA0 hval0
  refine (walk A0 l0 c0 a1 a2 W (tab_of hL) hle0 hcap0 hnil0 w0 w2).mono fun e W' ⟨he, bel⟩ => ?_
  subst he
  exact ⟨_, rfl, _, _, _, [], _, [], hW', trodAll_mk1 (shut_bool Tryd.underlying4 _), (trodAll_cons_mk (Below.trod laidOut (by kernel_rfl) (of_decide_eq_true (by kernel_rfl)) k0 bel lt0) (trodAll_cons_mk (shut_bool Tryd.underlying4 _) (trodAll_cons_mk (shut_int Tryd.underlying3 w2) trodAll_mk0))), rfl, bel.frame _, fun h => by cases h⟩

theorem over : Rows.RowSelectSaid :=
  OpenClaim.holds_of_wide 4 Tryd.f4 rfl rfl rfl rfl rfl rfl rfl ⟨rfl, rfl, rfl, rfl, rfl⟩ rfl rfl rfl rfl rfl (by kernel_rfl) Tryd.func4 (by kernel_rfl)
    (of_decide_eq_true (by kernel_rfl)) (by unfold Func.isWrapper; first | (rw [if_pos (by decide +kernel)]; kernel_rfl) | (rw [if_neg (by decide +kernel)]; exact ⟨rfl, rfl⟩))
    (fun os started H enc _ => lifted os started H enc)

/-- THE STATEMENT: the tied card. -/
theorem proved : Rows.RowSelectCardSaid :=
  Claim7.holds_tied_plain_at .later [] [.data] true (true, "1f2c0e77f9958e90b66a2d44aec9a9b6ba4816cfb20debf5887efc1c1fc8a8c0") false
    over (fun _ h => by cases h) (by kernel_rfl) (fun _ h => by cases h) rowSelect_row_tie rfl ⟨rfl, rfl⟩ (by kernel_rfl) rfl
    (fun f fn hf hfn => by
      obtain rfl : f = 4 := Option.some.inj ((show Tryd.prog.funcNamed "damask/damaskkeep.RowSelect" = some 4 by kernel_rfl).symm.trans hf) |>.symm
      obtain rfl : fn = Tryd.f4 := (Option.some.inj (Tryd.func4.symm.trans hfn)).symm
      exact ⟨by kernel_rfl, fun j t ht => by
        rw [Tryd.params4] at ht
        have hm : t ∈ [29, 4, 3] := by simpa using Array.mem_of_getElem? ht
        have hall : ([29, 4, 3].all fun u => !Tryd.prog.wantsStandIn u) = true := by kernel_rfl
        exact (show Tryd.prog.wantsStandIn t = false by simpa using List.all_eq_true.1 hall t hm)⟩)
    (by kernel_rfl)
#print axioms proved
end Go.Proofs.YtjaleldoipkbiaaDoor.rowSelect
