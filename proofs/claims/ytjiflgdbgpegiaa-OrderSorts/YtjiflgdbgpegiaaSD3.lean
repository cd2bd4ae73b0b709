import Derived.Test.YtjiflgdbgpegiaaShelf
import Derived.Test.YtjiflgdbgpegiaaSD2
set_option linter.unusedVariables false
set_option linter.unusedSimpArgs false
namespace Go.Proofs.Ytjiflgdbgpegiaa
open Go.RowKit Go.Shelf Go.Sort
/-- A number as it lies in a row, out of its bits. -/
def eF (x : UInt64) : Value := .float .f64 x.toNat
def cF (x y : UInt64) : Int := cmpV (key x.toNat) (key y.toNat)
theorem ltF (x y : UInt64) : ltOf cF x y = decide (key x.toNat < key y.toNat) := by
  unfold ltOf cF
  rw [cmpI_lt]
  unfold kI
  by_cases h : key x.toNat < key y.toNat
  · rw [decide_eq_true h, decide_eq_true (by omega)]
  · rw [decide_eq_false h, decide_eq_false (by omega)]
theorem swoF : SWO (ltOf cF) := ⟨fun x => by rw [ltF]; simp, fun x y z h1 h2 => by rw [ltF] at *; simp at *; omega, fun x y z h1 h2 => by rw [ltF] at *; simp at *; omega⟩
/-- Numbers below 2^64 as words and back. -/
theorem back64 {l : List Nat} (h : F64 l) : (l.map UInt64.ofNat).map UInt64.toNat = l := by
  rw [List.map_map]
  conv => rhs; rw [← List.map_id l]
  refine List.map_congr_left fun x hx => ?_
  show (UInt64.ofNat x).toNat = x
  rw [UInt64.toNat_ofNat']
  exact Nat.mod_eq_of_lt (h x hx)
theorem sorted_block {w : World} {g k : Nat} {os : Array Obj} {cur : Array Value} (d : Array UInt64) (hb : w.heap[g]? = some (.cells cur 23 (0, 0))) : (sortWorld eF w g 0 k d os).heap[g]? = some (.cells (putCells eF 0 d cur) 23 (0, 0)) := by
  have hg : g < w.heap.size := (Array.getElem?_eq_some_iff.1 hb).1
  unfold sortWorld
  rw [heap_grow_old _ _ (by simpa using hg)]
  simp [putRow, mapBlock, Sort.ahead, Array.getElem?_modify, hb, onCells]
theorem sorted_grown (w : World) (g k : Nat) (os : Array Obj) (d : Array UInt64) : w.grownBy (sortWorld eF w g 0 k d os) (some g) := by
  refine ⟨rfl, rfl, rfl, by simp [sortWorld], fun j hj hne => ?_⟩
  unfold sortWorld
  rw [heap_grow_old _ _ (by simpa using hj)]
  have : g ≠ j := fun e => hne (by rw [e])
  simp [putRow, mapBlock, Sort.ahead, Array.getElem?_modify, this]
theorem sorted_take (cur : Array Value) (d : Array UInt64) (h : d.size ≤ cur.size) : (putCells eF 0 d cur).toList.take d.size = d.toList.map eF := by
  apply List.ext_getElem?
  intro j
  by_cases hj : j < d.size
  · rw [List.getElem?_take_of_lt hj, Array.getElem?_toList]
    simp [putCells, hj, show j < cur.size by omega]
  · rw [List.getElem?_take_eq_none (by omega), List.getElem?_eq_none (by simp; omega)]
/-- The library's sort. -/
theorem sortC : SortC := by
  intro B g cap n l w hF hn hl hown
  obtain ⟨d, hd⟩ : ∃ d : Array UInt64, d = (l.map UInt64.ofNat).toArray := ⟨_, rfl⟩
  have hds : d.size = n := by rw [hd]; simp [hn]
  have hdl : d.toList.map UInt64.toNat = l := by rw [hd]; exact back64 hF
  obtain ⟨cur, hh, hB, hnc, hcm, hcs, htk⟩ : ∃ cur : Array Value, w.heap[g]? = some (.cells cur 23 (0, 0)) ∧ B ≤ g ∧ n ≤ cap ∧ cap ≤ maxLen ∧ cur.size = cap ∧ cur.toList.take n = UF l := by
    rcases hown.2 with ⟨h1, _⟩ | ⟨g', cap', cur, hv, hg, hh, r1, r2, r3, r4⟩
    · cases h1
    · injection hv with e1 e2 e3
      injection e1 with e1
      injection e1 with e1
      subst e1
      subst e3
      exact ⟨cur, hh, hg, r1, r2, by omega, by rw [Nat.mul_one] at r4; exact r4⟩
  have hblk : g < w.heap.size := (Array.getElem?_eq_some_iff.1 hh).1
  have hA : Arr w g l := ⟨cur, hh, by rw [hn]; exact htk⟩
  have hH : Holds eF w g 0 d := by
    intro j hj
    have hjl : j < l.length := by omega
    refine ⟨?_, hA.frozen (0 + j)⟩
    rw [Nat.zero_add, hA.cell hjl]
    have e : l.getD j 0 = (d[j]!).toNat := by
      have : (d.toList.map UInt64.toNat)[j]? = l[j]? := by rw [hdl]
      rw [List.getD, ← this]
      simp [hj]
    rw [e]
    rfl
  have eg : ∀ args w, (callFunc 18 args).run Try.prog w = .ok (.enter 18 args) w := enters_of Try.func18 (by kernel_rfl) rfl
  have hcmp : CmpReads Try.prog 18 #[] eF cF g 0 d.size w := by
    intro m os dk hs x y
    have := Compare_any x.toNat y.toNat (sortWorld eF w g 0 m dk os) x.toNat_lt y.toNat_lt
    exact this.mono fun e w' ⟨h1, h2⟩ => ⟨h1, 0, h2⟩
  have hcon := Any.slices_SortFunc Try.sortF eF (fun _ => rfl) cF swoF 18 #[] g 0 cap d w eg hcmp.lays hH hblk (by omega)
  change Calls Try.prog 67 _ _ _ at hcon
  rw [hds] at hcon
  refine hcon.mono ?_
  rintro e w' ⟨rfl, d', k, os, hp, hs, rfl⟩
  have hd's : d'.size = n := by rw [hp.1, hds]
  have hperm : d'.toList.Perm d.toList := by
    have h3 := hp.2.2
    have e1 : d'.extract 0 n = d' := by rw [← hd's]; exact Array.extract_size
    have e2 : d.extract 0 n = d := by rw [← hds]; exact Array.extract_size
    rw [e1, e2] at h3
    exact h3
  refine ⟨⟨_, rfl⟩, ⟨d'.toList.map UInt64.toNat, ?_, ?_, ?_⟩, sorted_grown _ _ _ _ _⟩
  · have := hperm.map UInt64.toNat
    rw [hdl] at this
    exact this
  · rw [List.pairwise_map, List.pairwise_iff_getElem]
    intro i j hi hj hij
    have := hs i j (Nat.zero_le _) hij (by simpa [hd's] using hj)
    rw [ltF] at this
    have hi2 : i < d'.size := by simpa using hi
    have hj2 : j < d'.size := by simpa using hj
    simp [hi2, hj2] at this
    simpa using this
  · have hu : UF (d'.toList.map UInt64.toNat) = d'.toList.map eF := by unfold UF; rw [List.map_map]; rfl
    rw [hu]
    refine ⟨by simp [hd's], .inr ⟨g, cap, _, rfl, hB, sorted_block d' hh, hnc, hcm, by simp [putCells, hcs], ?_⟩⟩
    rw [Nat.mul_one, ← hd's]
    exact sorted_take cur d' (by omega)
theorem Distinct_any (p : Option Addr) (c n : Nat) (l : List Nat) (w : World) (hF : F64 l) (hn : l.length = n) (hl : n ≤ 17592186044414) (hL : RdV w p l) :
    Calls Try.prog 42 #[.slice p n c] w fun e w' => ∃ g cap D, e = .returned (.slice (some ⟨g, 0, none⟩) D.length cap) ∧ Dst l D ∧ w'.ownsRow w.heap.size 23 1 (.slice (some ⟨g, 0, none⟩) D.length cap) D.length (UF D) ∧ Keep w w' := Distinct_of sortC p c n l w hF hn hl hL
end Go.Proofs.Ytjiflgdbgpegiaa
