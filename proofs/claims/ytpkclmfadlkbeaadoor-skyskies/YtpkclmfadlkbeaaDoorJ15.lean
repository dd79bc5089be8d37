/-
  sort.SliceStable of a row of the call's own, of numbers below a bound, by whatever order: contracts; the closure's contract is a premise. No condition but what each theorem names.
-/
import Derived.Test.YtpkclmfadlkbeaaDoorJ14
import Derived.Test.YtpkclmfadlkbeaaDoorJ05
import Derived.Test.YtpkclmfadlkbeaaDoorJ01
import Derived.Deep.QuietTactic
namespace Go.Proofs.YtpkclmfadlkbeaaDoor
open Go.Shelf Go.RowKit Go.Lib Go.Sort

noncomputable def siT : TypeInfo := (Tryd.prog.info? 23).get (by kernel_rfl)
noncomputable def siE : TypeInfo := (Tryd.prog.info? 3).get (by kernel_rfl)
theorem siK (n : Nat) (h2 : 2 ≤ n) : Lib.swapperK n siE 2 = 5 := by
  have a : siE.hasPointers = false := by kernel_rfl
  have b : siE.bytes = 8 := by kernel_rfl
  have c : (n == 0) = false := by simp; omega
  have d : (n == 1) = false := by simp; omega
  simp [Lib.swapperK, a, b, c, d]

set_option maxRecDepth 100000 in
/-- sort.SliceStable of two or more. -/
theorem stab_two (enc : Nat → Value) (h1 : ∀ x, (enc x).oneCell' = true) (g : Nat) (lb : Array Value) (lt : Nat → Nat → Bool) (blk c : Nat) (d : Array Nat) (w : World)
    (eg : ∀ args w, (callFunc g args).run Tryd.prog w = .ok (.enter g args) w) (hO : SWO lt) (hR : Rdy g lb enc lt blk 0 d w) (h2 : 2 ≤ d.size) (hsz : d.size ≤ 1000000) :
    Calls Tryd.prog 24 #[.iface 23 (.slice (some ⟨blk, 0, none⟩) d.size c), .func (.func g) #[] lb] w (Mrg enc lt blk 0 d 0 d.size w) := by
  have h := Any.sort_SliceStable_of_stable Tryd.laysGt8 23 3 siT siE (by kernel_rfl) (by kernel_rfl) (by kernel_rfl) (by kernel_rfl) 2 (fun _ => by kernel_rfl) (some ⟨blk, 0, none⟩) d.size c (by omega) 46 (by rw [siK _ h2]; kernel_rfl) (.func g) #[] lb w
    (fun w' => ∃ d' : Array Nat, d'.size = d.size ∧ SW enc w blk 0 d' w' ∧ Kept lt (rowF d) (rowF d') 0 d.size ∧ Asc lt (rowF d') 0 d.size) ?_
  · exact h
  have hB : sliceBound Tryd.prog 3 siE 2 (some ⟨blk, 0, none⟩) d.size c = #[.slice (some ⟨blk, 0, none⟩) d.size c, typeHandle Tryd.prog 3] := by
    unfold sliceBound; rw [if_neg (swapperK_gt _ _ _ h2)]
  rw [hB]
  have hW : ∃ os0, stableWorld Tryd.prog Tryd.laysGt8_ren 23 (some ⟨blk, 0, none⟩) d.size c w = grow w os0 := ⟨_, by unfold stableWorld; rw [alloc_eq_grow, alloc_eq_grow, grow_grow]⟩
  obtain ⟨os0, hW⟩ := hW
  rw [hW]
  have hS0 : SW enc w blk 0 d (grow w os0) := ⟨0, os0, by unfold sortWorld; rw [show putRow enc (Sort.ahead w 0) blk 0 d = w from putRow_self enc w blk 0 d hR.hH]⟩
  have hsw : SwapSwaps Tryd.prog 46 #[.slice (some ⟨blk, 0, none⟩) d.size c, typeHandle Tryd.prog 3] enc blk 0 d.size :=
    swapSwaps_of_literal true 46 (fun args W => run_callFunc_extern Tryd.func46 (by kernel_rfl) (by kernel_rfl) (by kernel_rfl) (e := Extern.ReflectliteSwapper.swap true) (by kernel_rfl) args W) 3 siE (by kernel_rfl) (by kernel_rfl) (fun _ => by kernel_rfl) enc h1 blk 0 d.size c
  refine (stable_any g lb 46 _ lt blk 0 d.size d (grow w os0) eg hO hsw (hR.on rfl hS0) rfl hsz).mono ?_
  rintro e w' ⟨rfl, d', hd', hsw', hK, hA⟩
  exact ⟨rfl, d', hd', sw_trans hS0 hR.hblk hsw' hd', hK, hA⟩

set_option maxRecDepth 100000 in
/-- .. and of a row of one number or none. -/
theorem stab_tiny (g : Nat) (lb : Array Value) (p : Option Addr) (n c : Nat) (w : World) (hn : n ≤ 1) :
    Calls Tryd.prog 24 #[.iface 23 (.slice p n c), .func (.func g) #[] lb] w fun e w' => e = .returned (.tuple #[]) ∧ ∃ os, w' = grow w os := by
  rcases Nat.lt_or_eq_of_le hn with h | rfl
  · obtain rfl : n = 0 := by omega
    exact Any.sort_SliceStable_tiny Tryd.laysGt8 23 3 siT siE (by kernel_rfl) (by kernel_rfl) (by kernel_rfl) (by kernel_rfl) 2 (fun _ => by kernel_rfl) p 0 c (by omega) 42 (by kernel_rfl) (.func g) #[] lb w
  · exact Any.sort_SliceStable_tiny Tryd.laysGt8 23 3 siT siE (by kernel_rfl) (by kernel_rfl) (by kernel_rfl) (by kernel_rfl) 2 (fun _ => by kernel_rfl) p 1 c (by omega) 43 (by kernel_rfl) (.func g) #[] lb w

/-- A number as a value: kept below np. -/
def encB (np x : Nat) : Value := .int .i64 ((x % np : Nat) : Int)
theorem putCells_b (np off : Nat) (d : Array Nat) (cur : Array Value) : putCells (encB np) off d cur = putCells (Value.int .i64) off (d.map fun x : Nat => ((x % np : Nat) : Int)) cur := by
  unfold putCells
  apply Array.ext_getElem?
  intro k
  rw [Array.getElem?_mapIdx, Array.getElem?_mapIdx]
  cases cur[k]? with
  | none => rfl
  | some v =>
    simp only [Option.map_some, Array.size_map]
    split
    · rename_i h
      have h2 : k - off < d.size := by omega
      rw [getElem!_pos d _ h2, getElem!_pos (d.map fun x : Nat => ((x % np : Nat) : Int)) _ (by rw [Array.size_map]; exact h2), Array.getElem_map]
      rfl
    · rfl
theorem natC_intsB (l : List Nat) : natC l = (l.map fun x : Nat => (x : Int)).map (Value.int .i64) := by unfold natC; rw [List.map_map]; rfl
theorem sw_ownB {np : Nat} {w w' : World} {base g cap : Nat} {e : TypeId} {ns : List Nat} {d : Array Nat} (hown : w.ownsRow base e 1 (.slice (some ⟨g, 0, none⟩) ns.length cap) ns.length (natC ns)) (hs : d.size = ns.length) (h : SW (encB np) w g 0 d w') :
    w'.ownsRow base e 1 (.slice (some ⟨g, 0, none⟩) ns.length cap) ns.length (natC (d.toList.map (· % np))) ∧ w.grownBy w' (some g) := by
  obtain ⟨n, os, rfl⟩ := h
  have h1 := put_own (xs := ns.map fun x : Nat => (x : Int)) (d := (d.toList.map (· % np)).map fun x : Nat => (x : Int)) (g := g) (cap := cap) (w := w) (base := base) (e := e) (by rw [List.length_map, ← natC_intsB]; exact hown) (by simp [hs]) n os
  rw [List.length_map, ← natC_intsB] at h1
  have h2 : putRow (encB np) (Sort.ahead w n) g 0 d = putRow (Value.int .i64) (Sort.ahead w n) g 0 ((d.toList.map (· % np)).map fun x : Nat => (x : Int)).toArray := by
    unfold putRow
    congr 1
    funext cur
    rw [putCells_b]
    congr 1
    apply Array.ext'
    simp
  unfold sortWorld
  rw [h2]
  exact h1
theorem holds_b {np : Nat} {w : World} {base : Nat} {e : TypeId} {g cap : Nat} {ns : List Nat} (hown : w.ownsRow base e 1 (.slice (some ⟨g, 0, none⟩) ns.length cap) ns.length (natC ns)) (hx : ∀ x ∈ ns, x < np) : Holds (encB np) w g 0 ns.toArray := by
  intro j hj
  have hj2 : j < ns.length := by simpa using hj
  rw [Nat.zero_add]
  refine ⟨?_, hown.frozenAt j⟩
  rw [hown.cellAt j (by omega), natC, List.getElem?_map, List.getElem?_eq_getElem hj2, getElem!_pos ns.toArray j hj]
  have := hx _ (List.getElem_mem hj2)
  simp [encB, Nat.mod_eq_of_lt this]
theorem sgF_rowB (d : Array Nat) : sgF (rowF d) 0 d.size = d.toList := by
  refine List.ext_getElem? fun k => ?_
  unfold sgF rowF
  rw [List.getElem?_map, Array.getElem?_toList (xs := d)]
  rcases Nat.lt_or_ge k d.size with h | h
  · rw [List.getElem?_range' (by omega), Array.getElem?_eq_getElem h]
    simp only [Option.map_some, Nat.zero_add, Nat.one_mul]
    rw [getElem!_pos d k h]
  · rw [List.getElem?_eq_none (by rw [List.length_range']; omega), Array.getElem?_eq_none h]
    rfl

/-- The order of what is kept below np. -/
def ltB (np : Nat) (lt : Nat → Nat → Bool) (x y : Nat) : Bool := lt (x % np) (y % np)
theorem ltB_swo {np : Nat} {lt : Nat → Nat → Bool} (h : SWO lt) : SWO (ltB np lt) := ⟨fun _ => h.irrefl _, fun _ _ _ => h.trans _ _ _, fun _ _ _ => h.ntrans _ _ _⟩
theorem sins_congr {lt lt' : Nat → Nat → Bool} (x : Nat) : ∀ (l : List Nat), (∀ y ∈ l, lt y x = lt' y x) → sins lt x l = sins lt' x l
  | [], _ => rfl
  | y :: l, h => by
    unfold sins
    rw [h y (List.mem_cons_self ..), sins_congr x l fun z hz => h z (List.mem_cons_of_mem _ hz)]
theorem ssort_congr {lt lt' : Nat → Nat → Bool} : ∀ (l : List Nat), (∀ x ∈ l, ∀ y ∈ l, lt x y = lt' x y) → ssort lt l = ssort lt' l
  | [], _ => rfl
  | x :: l, h => by
    unfold ssort
    rw [ssort_congr l fun a ha b hb => h a (List.mem_cons_of_mem _ ha) b (List.mem_cons_of_mem _ hb)]
    exact sins_congr x _ fun y hy => h y (List.mem_cons_of_mem _ ((ssort_perm lt' l).mem_iff.1 hy)) x (List.mem_cons_self ..)
theorem ltB_ssort {np : Nat} {lt : Nat → Nat → Bool} {ns : List Nat} (hx : ∀ x ∈ ns, x < np) : ssort (ltB np lt) ns = ssort lt ns :=
  ssort_congr ns fun x h1 y h2 => by unfold ltB; rw [Nat.mod_eq_of_lt (hx x h1), Nat.mod_eq_of_lt (hx y h2)]

/-- New blocks, and draws, alone. -/
def Grown (W w' : World) : Prop := ∃ q os, w' = grow (Sort.ahead W q) os
theorem Grown.refl (W : World) : Grown W W := ⟨0, #[], by simp⟩
theorem Grown.drewN {W w' : World} (h : Grown W w') (n : Nat) : Grown W (w'.drewN n) := by
  obtain ⟨q, os, rfl⟩ := h
  exact ⟨q + n, os, by show Sort.ahead (grow (Sort.ahead W q) os) n = _; rw [ahead_grow, ahead_ahead]⟩
theorem Grown.alloc {W w' : World} (h : Grown W w') (o : Obj) : Grown W (w'.alloc o) := by
  obtain ⟨q, os, rfl⟩ := h
  exact ⟨q, os ++ #[o], by rw [alloc_eq_grow, grow_grow]⟩
theorem Grown.trans {W w1 w2 : World} (h : Grown W w1) (k : Grown w1 w2) : Grown W w2 := by
  obtain ⟨q, os, rfl⟩ := k
  obtain ⟨n, os2, e⟩ := h.drewN q
  exact ⟨n, os2 ++ os, by rw [← grow_grow, ← e]; rfl⟩
theorem Grown.below {W w' : World} (h : Grown W w') : Below W.heap.size W w' := by
  obtain ⟨q, os, rfl⟩ := h
  exact ⟨rfl, rfl, rfl, by rw [size_grow]; show W.heap.size ≤ W.heap.size + _; omega, fun k hk => heap_grow_old (Sort.ahead W q) os hk⟩
theorem sw_grown {enc : Nat → Value} {w0 W w' : World} {blk off : Nat} {dk : Array Nat} (h : SW enc w0 blk off dk W) (k : Grown W w') : SW enc w0 blk off dk w' := by
  obtain ⟨q, os, rfl⟩ := k
  obtain ⟨n, os2, e⟩ := h.drewN q
  exact ⟨n, os2 ++ os, by unfold sortWorld at e ⊢; rw [← grow_grow, ← e]; rfl⟩

/-- What is asked of the closure: at whatever world in which the row's block holds numbers below np and all else reads as it did; it may lay new blocks. -/
def LessAt (g : Nat) (lb : Array Value) (np n q : Nat) (lt : Nat → Nat → Bool) (w : World) : Prop :=
  ∀ (W : World) (F : Nat → Nat), (∀ t, t < n → W.cell? ⟨q, t, none⟩ = some (.int .i64 ((F t % np : Nat) : Int))) → (∀ b o u, b ≠ q → w.cell? ⟨b, o, none⟩ = some u → W.cell? ⟨b, o, none⟩ = some u) →
    ∀ i j, i < n → j < n → Calls Tryd.prog g (#[.int .i64 i, .int .i64 j] ++ lb) W fun e w' => e = .returned (.bool (lt (F i % np) (F j % np))) ∧ Grown W w'

/-- sort.SliceStable of a row of the call's own, of numbers below np. -/
theorem stable_own (base : Nat) (v : Value) (ns : List Nat) (np g : Nat) (lb : Array Value) (lt : Nat → Nat → Bool) (w : World) (hown : w.ownsRow base 3 1 v ns.length (natC ns)) (hn : ns.length ≤ 1000000) (hx : ∀ x ∈ ns, x < np)
    (eg : ∀ args w, (callFunc g args).run Tryd.prog w = .ok (.enter g args) w) (hO : SWO lt) (hl : ∀ q, v.ownBlock = some q → LessAt g lb np ns.length q lt w) :
    Calls Tryd.prog 24 #[.iface 23 v, .func (.func g) #[] lb] w fun e w' => e = .returned (.tuple #[]) ∧ w'.ownsRow base 3 1 v ns.length (natC (ssort lt ns)) ∧ w.grownBy w' v.ownBlock := by
  have hlt := fun q hq => own_lt hown (q := q) hq
  rcases hown.2 with ⟨rfl, h0⟩ | ⟨gb, cap, cur, rfl, _⟩
  · have hz : ns = [] := List.eq_nil_of_length_eq_zero h0
    subst hz
    refine (stab_tiny g lb none 0 0 w (by omega)).mono ?_
    rintro e w' ⟨rfl, os, rfl⟩
    exact ⟨rfl, ⟨rfl, .inl ⟨rfl, rfl⟩⟩, rfl, rfl, rfl, by rw [size_grow]; omega, fun k hk _ => heap_grow_old _ _ hk⟩
  · have hHo := holds_b hown hx
    have hmod : ∀ l : List Nat, (∀ x ∈ l, x ∈ ns) → l.map (· % np) = l := fun l hl => by
      conv => rhs; rw [← List.map_id l]
      exact List.map_congr_left fun x hxl => Nat.mod_eq_of_lt (hx x (hl x hxl))
    have hg : gb < w.heap.size := hlt gb rfl
    rcases Nat.lt_or_ge ns.length 2 with h2 | h2
    · refine (stab_tiny g lb (some ⟨gb, 0, none⟩) ns.length cap w (by omega)).mono ?_
      rintro e w' ⟨rfl, os, rfl⟩
      have hsw : SW (encB np) w gb 0 ns.toArray (grow w os) := ⟨0, os, by unfold sortWorld; rw [show putRow (encB np) (Sort.ahead w 0) gb 0 ns.toArray = w from putRow_self (encB np) w gb 0 _ hHo]⟩
      have h := sw_ownB hown (by simp) hsw
      have e1 : ssort lt ns = ns := by
        match ns, h2 with
        | [], _ => rfl
        | [x], _ => rfl
      rw [e1]
      rw [hmod _ (fun x hx => by simpa using hx)] at h
      exact ⟨rfl, h.1, h.2⟩
    · have hR : Rdy g lb (encB np) (ltB np lt) gb 0 ns.toArray w := by
        refine ⟨fun W dk hs hsw i j hi hj => ?_, hHo, hg⟩
        have hHk : Holds (encB np) W gb 0 dk := hsw.holds hg hHo hs
        refine (hl gb rfl W (fun t => dk[t]!) (fun t ht => ?_) (fun b o u hne hu => sw_at hsw b o u hne (cell_lt hu) hu) i j (by simpa using hi) (by simpa using hj)).mono fun e w' ⟨he, hgr⟩ => ⟨he, sw_grown (SW.start hHk) hgr⟩
        have := (hHk t (by rw [hs]; simpa using ht)).1
        rwa [Nat.zero_add] at this
      have h := stab_two (encB np) (fun _ => rfl) g lb (ltB np lt) gb cap ns.toArray w eg (ltB_swo hO) hR (by simpa using h2) (by simp; omega)
      rw [show ns.toArray.size = ns.length by simp] at h
      refine h.mono ?_
      rintro e w' ⟨rfl, d', hd', hsw, hK, hA⟩
      have h3 := sw_ownB hown (by simpa using hd') hsw
      have h4 := hK.is (ltB_swo hO) hA
      have e1 : sgF (rowF d') 0 ns.length = d'.toList := by rw [show ns.length = d'.size by simpa using hd'.symm]; exact sgF_rowB d'
      have e2 : sgF (rowF ns.toArray) 0 ns.length = ns := by have := sgF_rowB ns.toArray; simpa using this
      rw [e1, e2, ltB_ssort hx] at h4
      rw [h4, hmod _ fun x hx => (ssort_perm lt ns).mem_iff.1 hx] at h3
      exact ⟨rfl, h3.1, h3.2⟩
end Go.Proofs.YtpkclmfadlkbeaaDoor
