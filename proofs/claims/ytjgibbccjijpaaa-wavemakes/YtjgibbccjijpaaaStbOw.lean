/-
  sort.SliceStable, with the document's closure of WaveMake, of a row of the call's own. No condition but what each theorem names.
-/
import Derived.Test.YtjgibbccjijpaaaStbSl
import Derived.Test.YtjgibbccjijpaaaSrtRow
import Derived.Test.YtjgibbccjijpaaaNatC
namespace Go.Proofs.Ytjgibbccjijpaaa
open Go.Shelf Go.RowKit Go.Lib Go.Sort

theorem putCells_nat (off : Nat) (d : Array Nat) (cur : Array Value) : putCells encN off d cur = putCells (Value.int .i64) off (d.map fun x : Nat => ((x % 4194304 : Nat) : Int)) cur := by
  unfold putCells
  apply Array.ext_getElem?
  intro k
  rw [Array.getElem?_mapIdx, Array.getElem?_mapIdx]
  cases cur[k]? with
  | none => rfl
  | some v =>
    simp only [Option.map_some, Array.size_map]
    split
    · rename_i h
      have h2 : k - off < d.size := by omega
      rw [getElem!_pos d _ h2, getElem!_pos (d.map fun x : Nat => ((x % 4194304 : Nat) : Int)) _ (by rw [Array.size_map]; exact h2), Array.getElem_map]
      rfl
    · rfl
theorem natC_ints10 (l : List Nat) : natC l = (l.map fun x : Nat => (x : Int)).map (Value.int .i64) := by unfold natC; rw [List.map_map]; rfl
theorem sw_own {w w' : World} {base g cap : Nat} {e : TypeId} {ns : List Nat} {d : Array Nat} (hown : w.ownsRow base e 1 (.slice (some ⟨g, 0, none⟩) ns.length cap) ns.length (natC ns)) (hs : d.size = ns.length) (h : SW encN w g 0 d w') :
    w'.ownsRow base e 1 (.slice (some ⟨g, 0, none⟩) ns.length cap) ns.length (natC (d.toList.map (· % 4194304))) ∧ w.grownBy w' (some g) := by
  obtain ⟨n, os, rfl⟩ := h
  have h1 := put_own (xs := ns.map fun x : Nat => (x : Int)) (d := (d.toList.map (· % 4194304)).map fun x : Nat => (x : Int)) (g := g) (cap := cap) (w := w) (base := base) (e := e) (by rw [List.length_map, ← natC_ints10]; exact hown) (by simp [hs]) n os
  rw [List.length_map, ← natC_ints10] at h1
  have h2 : putRow encN (Sort.ahead w n) g 0 d = putRow (Value.int .i64) (Sort.ahead w n) g 0 ((d.toList.map (· % 4194304)).map fun x : Nat => (x : Int)).toArray := by
    unfold putRow
    congr 1
    funext cur
    rw [putCells_nat]
    congr 1
    apply Array.ext'
    simp
  unfold sortWorld
  rw [h2]
  exact h1
theorem holds_nat {w : World} {base : Nat} {e : TypeId} {g cap : Nat} {ns : List Nat} (hown : w.ownsRow base e 1 (.slice (some ⟨g, 0, none⟩) ns.length cap) ns.length (natC ns)) (hx : ∀ x ∈ ns, x ≤ 2097152) : Holds encN w g 0 ns.toArray := by
  intro j hj
  have hj2 : j < ns.length := by simpa using hj
  rw [Nat.zero_add]
  refine ⟨?_, hown.frozenAt j⟩
  rw [hown.cellAt j (by omega), natC, List.getElem?_map, List.getElem?_eq_getElem hj2, getElem!_pos ns.toArray j hj]
  have := hx _ (List.getElem_mem hj2)
  simp [encN, Nat.mod_eq_of_lt (show ns[j] < 4194304 by omega)]
theorem sgF_row (d : Array Nat) : sgF (rowF d) 0 d.size = d.toList := by
  refine List.ext_getElem? fun k => ?_
  unfold sgF rowF
  rw [List.getElem?_map, Array.getElem?_toList (xs := d)]
  rcases Nat.lt_or_ge k d.size with h | h
  · rw [List.getElem?_range' (by omega), Array.getElem?_eq_getElem h]
    simp only [Option.map_some, Nat.zero_add, Nat.one_mul]
    rw [getElem!_pos d k h]
  · rw [List.getElem?_eq_none (by rw [List.length_range']; omega), Array.getElem?_eq_none h]
    rfl

/-- The document's sort of a level. -/
theorem rstable_any (base : Nat) (v : Value) (ns : List Nat) (p Bs Ps : Nat) (w : World) (hown : w.ownsRow base 3 1 v ns.length (natC ns)) (hn : ns.length ≤ 300) (hx : ∀ x ∈ ns, x ≤ 2097152) (hp0 : 0 < p) (hpb : p ≤ 2097152)
    (hB : w.cell? ⟨Bs, 0, none⟩ = some v) (hP : w.cell? ⟨Ps, 0, none⟩ = some (.int .i64 p)) (hBl : Bs < w.heap.size) (hPl : Ps < w.heap.size) (hBv : v.ownBlock ≠ some Bs) (hPv : v.ownBlock ≠ some Ps) :
    Calls Try.prog 41 #[.iface 22 v, .func (.func 42) #[] #[.pointer (some ⟨Bs, 0, none⟩), .pointer (some ⟨Ps, 0, none⟩)]] w fun e w' =>
      e = .returned (.tuple #[]) ∧ w'.ownsRow base 3 1 v ns.length (natC (ns.filter (fun x => !bitP p x) ++ ns.filter (bitP p))) ∧ w.grownBy w' v.ownBlock := by
  have hlt := fun q hq => own_lt hown (q := q) hq
  rcases hown.2 with ⟨rfl, h0⟩ | ⟨g, cap, cur, rfl, _⟩
  · have hz : ns = [] := List.eq_nil_of_length_eq_zero h0
    subst hz
    refine (stab_tiny 42 _ none 0 0 w (by omega)).mono ?_
    rintro e w' ⟨rfl, os, rfl⟩
    exact ⟨rfl, ⟨rfl, .inl ⟨rfl, rfl⟩⟩, rfl, rfl, rfl, by rw [size_grow]; omega, fun k hk _ => heap_grow_old _ _ hk⟩
  · have hHo := holds_nat hown hx
    have hmod : ∀ l : List Nat, (∀ x ∈ l, x ∈ ns) → l.map (· % 4194304) = l := fun l hl => by
      conv => rhs; rw [← List.map_id l]
      exact List.map_congr_left fun x hxl => Nat.mod_eq_of_lt (by have := hx x (hl x hxl); omega)
    have hkey : ∀ x ∈ ns, keyP p x = bitP p x := fun x hxn => by unfold keyP; rw [Nat.mod_eq_of_lt (by have := hx x hxn; omega)]
    have hg : g < w.heap.size := hlt g rfl
    rcases Nat.lt_or_ge ns.length 2 with h2 | h2
    · refine (stab_tiny 42 _ (some ⟨g, 0, none⟩) ns.length cap w (by omega)).mono ?_
      rintro e w' ⟨rfl, os, rfl⟩
      have hsw : SW encN w g 0 ns.toArray (grow w os) := ⟨0, os, by unfold sortWorld; rw [show putRow encN (Sort.ahead w 0) g 0 ns.toArray = w from putRow_self encN w g 0 _ hHo]⟩
      have h := sw_own hown (by simp) hsw
      have e1 : ns.filter (fun x => !bitP p x) ++ ns.filter (bitP p) = ns := by
        match ns, h2 with
        | [], _ => rfl
        | [x], _ => cases hb : bitP p x <;> simp [hb]
      rw [e1]
      rw [hmod _ (fun x hx => by simpa using hx)] at h
      exact ⟨rfl, h.1, h.2⟩
    · have hR : Rdy 42 #[.pointer (some ⟨Bs, 0, none⟩), .pointer (some ⟨Ps, 0, none⟩)] (keyP p) g 0 ns.toArray w := by
        refine ⟨?_, hHo, hg⟩
        intro m os dk hs i j hi hj
        have e0 : sortWorld encN w g 0 m dk os = putRow encN (grow (Sort.ahead w m) os) g 0 dk := by
          unfold sortWorld; rw [putRow_grow _ (Sort.ahead w m) _ g 0 _ hg]
        have hHg : Holds encN (grow (Sort.ahead w m) os) g 0 ns.toArray := holds_grow _ _ _ g 0 _ hg (holds_ahead _ _ _ _ _ _ hHo)
        have far : ∀ q u, some g ≠ some q → q < w.heap.size → w.cell? ⟨q, 0, none⟩ = some u → (sortWorld encN w g 0 m dk os).cell? ⟨q, 0, none⟩ = some u := fun q u hne hq hu => sw_at (X := dk) ⟨m, os, rfl⟩ q 0 u (fun e => hne (by rw [e])) hq hu
        refine rl_less g 0 cap Bs Ps ns.length p _ (fun t => dk[t]!) (far Bs _ hBv hBl hB) (far Ps _ hPv hPl hP) hp0 hpb (fun t ht => ?_) i j (by simpa using hi) (by simpa using hj)
        rw [e0]
        exact cell?_putRow _ _ g 0 ns.toArray dk hHg hs t (by rw [hs]; simpa using ht)
      have h := stab_two 42 _ (keyP p) g cap ns.toArray w (enters_of Try.func42 (by kernel_rfl) rfl) hR (by simpa using h2) (by simp; omega)
      rw [show ns.toArray.size = ns.length by simp] at h
      refine h.mono ?_
      rintro e w' ⟨rfl, d', hd', hsw, hK, hA⟩
      have h3 := sw_own hown (by simpa using hd') hsw
      have h4 := hK.is hA
      have e1 : sgF (rowF d') 0 ns.length = d'.toList := by rw [show ns.length = d'.size by simpa using hd'.symm]; exact sgF_row d'
      have e2 : sgF (rowF ns.toArray) 0 ns.length = ns := by have := sgF_row ns.toArray; simpa using this
      rw [e1, e2] at h4
      rw [List.filter_congr (fun x hxn => by rw [hkey x hxn]), List.filter_congr (q := bitP p) (fun x hxn => hkey x hxn)] at h4
      rw [h4, hmod _ (fun x hx => by
        rcases List.mem_append.1 hx with h | h
        · exact (List.mem_filter.1 h).1
        · exact (List.mem_filter.1 h).1)] at h3
      exact ⟨rfl, h3.1, h3.2⟩
end Go.Proofs.Ytjgibbccjijpaaa
