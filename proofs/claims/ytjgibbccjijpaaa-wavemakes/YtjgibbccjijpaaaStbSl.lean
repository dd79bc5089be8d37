/-
  What sort.SliceStable does to a row of numbers with the document's closure of WaveMake: contracts, walked over the translated text. No condition but what each theorem names.
-/
import Derived.Test.YtjgibbccjijpaaaStbSo
import Derived.Deep.QuietTactic
namespace Go.Proofs.Ytjgibbccjijpaaa
open Go.Shelf Go.RowKit Go.Lib Go.Sort

/-- The bit of weight p. -/
def bitP (p x : Nat) : Bool := decide (x / p % 2 = 1)
def keyP (p x : Nat) : Bool := bitP p (x % 4194304)
theorem klt_bit (p x y : Nat) : klt (keyP p) x y = decide (x % 4194304 / p % 2 < y % 4194304 / p % 2) := by
  unfold klt keyP bitP
  generalize x % 4194304 = x
  generalize y % 4194304 = y
  have h1 := Nat.mod_two_eq_zero_or_one (x / p)
  have h2 := Nat.mod_two_eq_zero_or_one (y / p)
  rcases h1 with h1 | h1 <;> rcases h2 with h2 | h2 <;> rw [h1, h2] <;> rfl

set_option maxHeartbeats 2000000 in
/-- The document's closure: is the bit of the one less than the bit of the other? -/
theorem rl_less (blk off c Bs Ps size p : Nat) (W : World) (G : Nat → Nat) (hs : W.cell? ⟨Bs, 0, none⟩ = some (.slice (some ⟨blk, off, none⟩) size c)) (hp : W.cell? ⟨Ps, 0, none⟩ = some (.int .i64 p)) (hp0 : 0 < p) (hpb : p ≤ 2097152)
    (hc : ∀ t, t < size → W.cell? ⟨blk, off + t, none⟩ = some (encN (G t))) (i j : Nat) (hi : i < size) (hj : j < size) :
    Calls Try.prog 42 #[.int .i64 i, .int .i64 j, .pointer (some ⟨Bs, 0, none⟩), .pointer (some ⟨Ps, 0, none⟩)] W fun e w' => e = .returned (.bool (klt (keyP p) (G i) (G j))) ∧ ∃ q, w' = W.drewN q := by
  have ci := hc i hi
  have cj := hc j hj
  rw [klt_bit]
  unfold encN at ci cj
  have hgi : G i % 4194304 ≤ 4194304 := Nat.le_of_lt (Nat.mod_lt _ (by decide))
  have hgj : G j % 4194304 ≤ 4194304 := Nat.le_of_lt (Nat.mod_lt _ (by decide))
  generalize G i % 4194304 = x at *
  generalize G j % 4194304 = y at *
  have hp1 : ¬ (p : Int) = 0 := by omega
  have hx1 : (x : Int).tdiv (p : Int) = ((x / p : Nat) : Int) := by rw [← Int.ofNat_tdiv]
  have hy1 : (y : Int).tdiv (p : Int) = ((y / p : Nat) : Int) := by rw [← Int.ofNat_tdiv]
  have hxb : x / p ≤ 4194304 := Nat.le_trans (Nat.div_le_self _ _) hgi
  have hyb : y / p ≤ 4194304 := Nat.le_trans (Nat.div_le_self _ _) hgj
  generalize x / p = u at *
  generalize y / p = v at *
  have hu1 : (u : Int).tmod 2 = ((u % 2 : Nat) : Int) := by rw [show (2 : Int) = ((2 : Nat) : Int) from rfl, ← Int.ofNat_tmod]
  have hv1 : (v : Int).tmod 2 = ((v % 2 : Nat) : Int) := by rw [show (2 : Int) = ((2 : Nat) : Int) from rfl, ← Int.ofNat_tmod]
  generalize u % 2 = a at *
  generalize v % 2 = b at *
  clear hc
  go_enter Try.func42, Try.ntmps42
  go_wp2
  go_quiet (fail)
  go_wp2
  go_ret
  exact ⟨rfl, nq, rfl⟩

noncomputable def siT : TypeInfo := (Try.prog.info? 22).get (by kernel_rfl)
noncomputable def siE : TypeInfo := (Try.prog.info? 3).get (by kernel_rfl)
theorem siK (n : Nat) (h2 : 2 ≤ n) : Lib.swapperK n siE 2 = 5 := by
  have a : siE.hasPointers = false := by kernel_rfl
  have b : siE.bytes = 8 := by kernel_rfl
  have c : (n == 0) = false := by simp; omega
  have d : (n == 1) = false := by simp; omega
  simp [Lib.swapperK, a, b, c, d]

set_option maxRecDepth 100000 in
/-- sort.SliceStable with a closure whose key is yes or no. -/
theorem stab_two (g : Nat) (lb : Array Value) (key : Nat → Bool) (blk c : Nat) (d : Array Nat) (w : World)
    (eg : ∀ args w, (callFunc g args).run Try.prog w = .ok (.enter g args) w) (hR : Rdy g lb key blk 0 d w) (h2 : 2 ≤ d.size) (hsz : d.size ≤ 1000000) :
    Calls Try.prog 41 #[.iface 22 (.slice (some ⟨blk, 0, none⟩) d.size c), .func (.func g) #[] lb] w (Mrg key blk 0 d 0 d.size w) := by
  have h := Any.sort_SliceStable_of_stable Try.laysGt8 22 3 siT siE (by kernel_rfl) (by kernel_rfl) (by kernel_rfl) (by kernel_rfl) 2 (fun _ => by kernel_rfl) (some ⟨blk, 0, none⟩) d.size c (by omega) 94 (by rw [siK _ h2]; kernel_rfl) (.func g) #[] lb w
    (fun w' => ∃ d' : Array Nat, d'.size = d.size ∧ SW encN w blk 0 d' w' ∧ Kept key (rowF d) (rowF d') 0 d.size ∧ Asc key (rowF d') 0 d.size) ?_
  · exact h
  have hB : sliceBound Try.prog 3 siE 2 (some ⟨blk, 0, none⟩) d.size c = #[.slice (some ⟨blk, 0, none⟩) d.size c, typeHandle Try.prog 3] := by
    unfold sliceBound; rw [if_neg (swapperK_gt _ _ _ h2)]
  rw [hB]
  have hW : ∃ os0, stableWorld Try.prog Try.laysGt8_ren 22 (some ⟨blk, 0, none⟩) d.size c w = grow w os0 := ⟨_, by unfold stableWorld; rw [alloc_eq_grow, alloc_eq_grow, grow_grow]⟩
  obtain ⟨os0, hW⟩ := hW
  rw [hW]
  have hS0 : SW encN w blk 0 d (grow w os0) := ⟨0, os0, by unfold sortWorld; rw [show putRow encN (Sort.ahead w 0) blk 0 d = w from putRow_self encN w blk 0 d hR.hH]⟩
  have hsw : SwapSwaps Try.prog 94 #[.slice (some ⟨blk, 0, none⟩) d.size c, typeHandle Try.prog 3] encN blk 0 d.size :=
    swapSwaps_of_literal true 94 (fun args W => run_callFunc_extern Try.func94 (by kernel_rfl) (by kernel_rfl) (by kernel_rfl) (e := Extern.ReflectliteSwapper.swap true) (by kernel_rfl) args W) 3 siE (by kernel_rfl) (by kernel_rfl) (fun _ => by kernel_rfl) encN (fun _ => rfl) blk 0 d.size c
  refine (stable_any g lb 94 _ key blk 0 d.size d (grow w os0) eg hsw (hR.on rfl hS0) rfl hsz).mono ?_
  rintro e w' ⟨rfl, d', hd', hsw', hK, hA⟩
  exact ⟨rfl, d', hd', sw_trans hS0 hR.hblk hsw' hd', hK, hA⟩

set_option maxRecDepth 100000 in
/-- .. and of a row of one number or none. -/
theorem stab_tiny (g : Nat) (lb : Array Value) (p : Option Addr) (n c : Nat) (w : World) (hn : n ≤ 1) :
    Calls Try.prog 41 #[.iface 22 (.slice p n c), .func (.func g) #[] lb] w fun e w' => e = .returned (.tuple #[]) ∧ ∃ os, w' = grow w os := by
  rcases Nat.lt_or_eq_of_le hn with h | rfl
  · obtain rfl : n = 0 := by omega
    exact Any.sort_SliceStable_tiny Try.laysGt8 22 3 siT siE (by kernel_rfl) (by kernel_rfl) (by kernel_rfl) (by kernel_rfl) 2 (fun _ => by kernel_rfl) p 0 c (by omega) 90 (by kernel_rfl) (.func g) #[] lb w
  · exact Any.sort_SliceStable_tiny Try.laysGt8 22 3 siT siE (by kernel_rfl) (by kernel_rfl) (by kernel_rfl) (by kernel_rfl) 2 (fun _ => by kernel_rfl) p 1 c (by omega) 91 (by kernel_rfl) (.func g) #[] lb w
end Go.Proofs.Ytjgibbccjijpaaa
