import Derived.Test.YtgciimjcdhallaaDoorB0
import Derived.Lib.Bytealg
set_option linter.unusedVariables false
set_option linter.unusedSimpArgs false
namespace Go.Proofs.YtgciimjcdhallaaDoor
open Go.RowKit Go.Shelf
/-- All but one block as it was. -/
structure Oth (g : Nat) (w w' : World) : Prop where
  os : w'.os = w.os
  tape : w'.tape = w.tape
  output : w'.output = w.output
  size : w'.heap.size = w.heap.size
  block : ∀ k, k ≠ g → w'.heap[k]? = w.heap[k]?
theorem Oth.refl (g : Nat) (w : World) : Oth g w w := ⟨rfl, rfl, rfl, rfl, fun _ _ => rfl⟩
theorem Oth.trans {g : Nat} {a b c : World} (h : Oth g a b) (k : Oth g b c) : Oth g a c := ⟨k.os.trans h.os, k.tape.trans h.tape, k.output.trans h.output, k.size.trans h.size, fun j hj => (k.block j hj).trans (h.block j hj)⟩
theorem Oth.set {g : Nat} {a b : World} (h : Oth g a b) (j : Nat) (v : Value) : Oth g a (b.setCell ⟨g, j, none⟩ v) := ⟨h.os, h.tape, h.output, by rw [World.size_setCell]; exact h.size, fun k hk => (Below.heap_setCell _ _ _ _ (by simpa using hk)).trans (h.block k hk)⟩
theorem Oth.drewN {g : Nat} {a b : World} (h : Oth g a b) (n : Nat) : Oth g a (b.drewN n) := ⟨h.os, h.tape, h.output, h.size, h.block⟩
/-- A reader: its text and how far it has come. -/
def Rr (w : World) (b : Nat) (s : List UInt8) (k : Nat) : Prop := w.heap[b]? = some (.cells #[.string ⟨s.toArray⟩, .int .i64 (k : Int)] 28 (0, 0))
theorem Rr.c0 {w : World} {b k : Nat} {s : List UInt8} (h : Rr w b s k) : w.cell? ⟨b, 0, none⟩ = some (.string ⟨s.toArray⟩) := by rw [cell_of_row w b 0 _ 28 (0, 0) h]; rfl
theorem Rr.c1 {w : World} {b k : Nat} {s : List UInt8} (h : Rr w b s k) : w.cell? ⟨b, 1, none⟩ = some (.int .i64 (k : Int)) := by rw [cell_of_row w b 1 _ 28 (0, 0) h]; rfl
theorem Rr.f1 {w : World} {b k : Nat} {s : List UInt8} (h : Rr w b s k) (j : Nat) : w.frozen? ⟨b, j, none⟩ = false := frozen_of_row w b j _ 28 h
theorem Rr.set {w : World} {b k : Nat} {s : List UInt8} (h : Rr w b s k) (j : Nat) : Rr (w.setCell ⟨b, 1, none⟩ (.int .i64 (j : Int))) b s j := by
  have := heap_setCell_same w b 1 _ 28 (.int .i64 (j : Int)) h
  unfold Rr
  rw [this]
  rfl
theorem Rr.drewN {w : World} {b k : Nat} {s : List UInt8} (h : Rr w b s k) (n : Nat) : Rr (w.drewN n) b s k := h
theorem Rr.lt {w : World} {b k : Nat} {s : List UInt8} (h : Rr w b s k) : b < w.heap.size := (Array.getElem?_eq_some_iff.1 h).1
theorem ixB (l : List UInt8) (c : UInt8) : (Lib.indexByte l c < 0) ↔ c ∉ l := by
  induction l with
  | nil => simp [Lib.indexByte]
  | cons b l ih =>
    have hge := Lib.indexByte_ge l c
    unfold Lib.indexByte
    by_cases h : b = c
    · subst h; simp
    · have hb : (b == c) = false := by simpa using h
      rw [hb]
      simp only [Bool.false_eq_true, if_false]
      by_cases h2 : Lib.indexByte l c = -1
      · rw [h2]
        have : c ∉ l := ih.1 (by omega)
        simp [this, Ne.symm h]
      · have h3 : (Lib.indexByte l c == -1) = false := by simpa using h2
        rw [h3]
        simp only [Bool.false_eq_true, if_false]
        have : c ∈ l := by
          refine Classical.byContradiction fun q => ?_
          have := ih.2 q
          omega
        simp [this]
        omega
/-- Whether the next byte is one of these. -/
def tk (s ts : List UInt8) (k : Nat) : Bool := decide (k < s.length ∧ s.getD k 0 ∈ ts)
set_option maxRecDepth 100000 in
set_option maxHeartbeats 2000000 in
theorem takes_any (b k : Nat) (s ts : List UInt8) (w : World) (hs : s.length ≤ 4096) (hk : k ≤ s.length) (h : Rr w b s k)
    (hI : ∀ (c : UInt8) wx, Calls Tryd.prog 43 #[.string ⟨ts.toArray⟩, .int .u8 (c.toNat : Int)] wx fun e w' => e = .returned (.int .i64 (Lib.indexByte ts c)) ∧ w' = wx) :
    Calls Tryd.prog 26 #[.pointer (some ⟨b, 0, none⟩), .string ⟨ts.toArray⟩] w fun e w' => e = .returned (.bool (tk s ts k)) ∧ Rr w' b s (if tk s ts k then k + 1 else k) ∧ Oth b w w' := by
  have c0 := h.c0
  have c1 := h.c1
  have f1 := h.f1 1
  have HR : Hid (Rr w b s k) := h
  obtain ⟨L, hL⟩ : ∃ L, s.length = L := ⟨_, rfl⟩
  have hsz : (ByteArray.mk s.toArray).size = L := by rw [sz_mk]; exact hL
  rw [hL] at hs hk
  clear h
  by_cases hkl : k < L
  · have hne : ¬ ((k : Int) = (L : Int)) := by omega
    have hneb : ((k : Int) == (L : Int)) = false := by simpa using hne
    have hix := fun wx => run_ix s k (by omega) wx
    obtain ⟨c, hc⟩ : ∃ c, s.getD k 0 = c := ⟨_, rfl⟩
    rw [hc] at hix
    have hIc := hI c
    by_cases hm : c ∈ ts
    · have ht : tk s ts k = true := by unfold tk; rw [hc]; exact decide_eq_true ⟨by omega, hm⟩
      have hlt : ¬ Lib.indexByte ts c < 0 := fun q => (ixB ts c).1 q hm
      generalize Lib.indexByte ts c = r at hIc hlt
      rw [ht]
      clear hI hc hm ht
      go_enter Tryd.func26, Tryd.ntmps26
      go_wp2_with fail
      refine wp_region_quiet_lit (by kernel_rfl) (by kernel_rfl) ?_
      iterate 24
        with_reducible refine wpQuiet_step ?_
        intro K hK
        go_simp
        first
          | (with_reducible refine hK _ ?_; clear hK K)
          | (with_reducible refine (if_neg ?_).mpr (hK _ ?_)
             · decide
             clear hK K)
          | (with_reducible refine ⟨.int .i64 r, fun aw => (hIc _).mono ?_, hK _ ?_⟩
             · rintro e w' ⟨rfl, rfl⟩; exact ⟨rfl, _, rfl⟩
             clear hK K)
          | (apply Exists.intro
             refine ⟨fun _ => ?_, hK _ ?_⟩
             · with_reducible rfl
             clear hK K)
      refine wpQuiet_nil ?_
      rintro _ ⟨nq, rfl⟩
      have hR2 := HR.out.drewN nq
      have fz := hR2.f1 1
      have cz := hR2.c1
      have q1 := hR2.set (k + 1)
      have q2 := (Oth.refl b w).drewN nq
      have q3 := q2.set 1 (.int .i64 ((k + 1 : Nat) : Int))
      generalize w.drewN nq = wv at fz cz q1 q3 ⊢
      have hcast : ((k + 1 : Nat) : Int) = (k : Int) + 1 := by omega
      rw [hcast] at q1 q3
      clear hR2 q2 hcast c0 c1 f1
      go_wp2_with fail
      go_ret
      exact ⟨rfl, q1, q3⟩
    · have ht : tk s ts k = false := by unfold tk; rw [hc]; exact decide_eq_false (fun q => hm q.2)
      have hlt : Lib.indexByte ts c < 0 := (ixB ts c).2 hm
      generalize Lib.indexByte ts c = r at hIc hlt
      rw [ht]
      clear hI hc hm ht
      go_enter Tryd.func26, Tryd.ntmps26
      go_wp2_with fail
      refine wp_region_quiet_lit (by kernel_rfl) (by kernel_rfl) ?_
      iterate 24
        with_reducible refine wpQuiet_step ?_
        intro K hK
        go_simp
        first
          | (with_reducible refine hK _ ?_; clear hK K)
          | (with_reducible refine (if_neg ?_).mpr (hK _ ?_)
             · decide
             clear hK K)
          | (with_reducible refine ⟨.int .i64 r, fun aw => (hIc _).mono ?_, hK _ ?_⟩
             · rintro e w' ⟨rfl, rfl⟩; exact ⟨rfl, _, rfl⟩
             clear hK K)
          | (apply Exists.intro
             refine ⟨fun _ => ?_, hK _ ?_⟩
             · with_reducible rfl
             clear hK K)
      refine wpQuiet_nil ?_
      rintro _ ⟨nq, rfl⟩
      go_wp2_with fail
      go_ret
      exact ⟨rfl, HR.out.drewN nq, (Oth.refl b w).drewN nq⟩
  · obtain rfl : k = L := by omega
    have ht : tk s ts k = false := by unfold tk; exact decide_eq_false (fun q => by omega)
    rw [ht]
    clear hI ht
    go_enter Tryd.func26, Tryd.ntmps26
    go_wp2_with fail
    refine wp_region_quiet_lit (by kernel_rfl) (by kernel_rfl) ?_
    iterate 24
      with_reducible refine wpQuiet_step ?_
      intro K hK
      go_simp
      first
        | (with_reducible refine hK _ ?_; clear hK K)
        | (with_reducible refine (if_neg ?_).mpr (hK _ ?_)
           · decide
           clear hK K)
        | (apply Exists.intro
           refine ⟨fun _ => ?_, hK _ ?_⟩
           · with_reducible rfl
           clear hK K)
    refine wpQuiet_nil ?_
    rintro _ ⟨nq, rfl⟩
    go_wp2_with fail
    go_ret
    exact ⟨rfl, HR.out.drewN nq, (Oth.refl b w).drewN nq⟩
end Go.Proofs.YtgciimjcdhallaaDoor
set_option linter.unusedVariables false
set_option linter.unusedSimpArgs false
namespace Go.Proofs.YtgciimjcdhallaaDoor
open Go.RowKit Go.Shelf
def tenD : List UInt8 := [48, 49, 50, 51, 52, 53, 54, 55, 56, 57]
theorem mem_tenD (b : UInt8) : b ∈ tenD ↔ isD b = true := by
  unfold isD
  rw [decide_eq_true_iff]
  constructor
  · intro h
    unfold tenD at h
    simp only [List.mem_cons, List.not_mem_nil, or_false] at h
    rcases h with h | h | h | h | h | h | h | h | h | h <;> (rw [h]; decide)
  · intro h
    have h2 : b.toNat = 48 ∨ b.toNat = 49 ∨ b.toNat = 50 ∨ b.toNat = 51 ∨ b.toNat = 52 ∨ b.toNat = 53 ∨ b.toNat = 54 ∨ b.toNat = 55 ∨ b.toNat = 56 ∨ b.toNat = 57 := by omega
    have e : ∀ c : UInt8, b.toNat = c.toNat → b = c := fun c h => UInt8.toNat_inj.1 h
    unfold tenD
    rcases h2 with h | h | h | h | h | h | h | h | h | h
    · rw [e 48 h]; decide
    · rw [e 49 h]; decide
    · rw [e 50 h]; decide
    · rw [e 51 h]; decide
    · rw [e 52 h]; decide
    · rw [e 53 h]; decide
    · rw [e 54 h]; decide
    · rw [e 55 h]; decide
    · rw [e 56 h]; decide
    · rw [e 57 h]; decide
/-- The digits from a place on, not more than so many. -/
def dg (s : List UInt8) (k most : Nat) : List UInt8 := ((s.drop k).takeWhile isD).take most
theorem dg_le (s : List UInt8) (k most : Nat) : (dg s k most).length ≤ s.length - k := by
  unfold dg
  rw [List.length_take]
  have := (List.takeWhile_prefix (p := isD) (l := s.drop k)).length_le
  rw [List.length_drop] at this
  omega
theorem tw_more {p : UInt8 → Bool} : ∀ (l : List UInt8) (j : Nat), j < (l.takeWhile p).length ↔ j < l.length ∧ ∀ i, i ≤ j → p (l.getD i 0) = true
  | [], j => by simp
  | b :: l, j => by
    by_cases h : p b = true
    · rw [List.takeWhile_cons_of_pos h]
      cases j with
      | zero =>
        simp [h]
      | succ j =>
        rw [List.length_cons, List.length_cons, Nat.add_lt_add_iff_right, tw_more l j]
        constructor
        · rintro ⟨h1, h2⟩
          refine ⟨by omega, fun i hi => ?_⟩
          cases i with
          | zero => simpa using h
          | succ i => simpa using h2 i (by omega)
        · rintro ⟨h1, h2⟩
          exact ⟨by omega, fun i hi => by simpa using h2 (i + 1) (by omega)⟩
    · rw [List.takeWhile_cons_of_neg h]
      simp
      intro _
      exact ⟨0, by omega, by simpa using h⟩
theorem tw_eq {p : UInt8 → Bool} (l : List UInt8) : l.takeWhile p = l.take (l.takeWhile p).length := by
  have := List.prefix_iff_eq_take.1 (List.takeWhile_prefix (p := p) (l := l))
  exact this
/-- Where the digits end. -/
theorem dg_end (s : List UInt8) (k most j : Nat) (hj : j ≤ most) (h1 : ∀ i, i < j → k + i < s.length ∧ isD (s.getD (k + i) 0) = true) (h2 : j = most ∨ ¬ (k + j < s.length ∧ isD (s.getD (k + j) 0) = true)) : dg s k most = (s.take (k + j)).drop k ∧ (dg s k most).length = j := by
  have hget : ∀ i, (s.drop k).getD i 0 = s.getD (k + i) 0 := fun i => by simp [List.getD, List.getElem?_drop]
  have hge : j ≤ ((s.drop k).takeWhile isD).length := by
    cases j with
    | zero => omega
    | succ j =>
      have := (tw_more (p := isD) (s.drop k) j).2 ⟨by rw [List.length_drop]; have := (h1 j (by omega)).1; omega, fun i hi => by rw [hget]; exact (h1 i (by omega)).2⟩
      omega
  have hlen : (dg s k most).length = j := by
    unfold dg
    rw [List.length_take]
    rcases h2 with h2 | h2
    · omega
    · have : ¬ j < ((s.drop k).takeWhile isD).length := by
        intro q
        obtain ⟨a1, a2⟩ := (tw_more (p := isD) (s.drop k) j).1 q
        rw [List.length_drop] at a1
        exact h2 ⟨by omega, by rw [← hget]; exact a2 j (Nat.le_refl _)⟩
      omega
  refine ⟨?_, hlen⟩
  have e1 : dg s k most = (s.drop k).take j := by
    have : dg s k most = ((s.drop k).takeWhile isD).take (dg s k most).length := by
      unfold dg
      rw [List.length_take, ← List.take_take, List.take_length]
    rw [this, hlen, tw_eq (s.drop k), List.take_take, Nat.min_eq_left hge]
  rw [e1, List.drop_take]
  congr 1
  omega
end Go.Proofs.YtgciimjcdhallaaDoor
set_option linter.unusedVariables false
set_option linter.unusedSimpArgs false
namespace Go.Proofs.YtgciimjcdhallaaDoor
open Go.RowKit Go.Shelf
theorem run_cut (l : List UInt8) (f i : Nat) (h : f ≤ i) (h2 : i ≤ l.length) (w : World) : (Instr.slice 9 (.string ⟨l.toArray⟩) (some (.int .i64 (f : Int))) (some (.int .i64 (i : Int))) none).run Tryd.prog w = .ok (.string ⟨((l.take i).drop f).toArray⟩) w := by
  rw [run_slice_string w 9 _ .i64 .i64 (f : Int) (i : Int) Tryd.underlying9 (by omega) (by omega) (by rw [sz_mk]; omega)]
  rw [ext_mk]; rfl
theorem ms_lt {most m k j : Nat} (h1 : m - k = j) (h2 : m + 1 - k = j + 1) (h : j < most) : most - (m + 1 - k) < most - (m - k) := by
  rw [h1, h2]
  omega
/-- What is asked of strings.IndexByte. -/
def IxC : Prop := ∀ (ts : List UInt8) (c : UInt8) (wx : World), Calls Tryd.prog 43 #[.string ⟨ts.toArray⟩, .int .u8 (c.toNat : Int)] wx fun e w' => e = .returned (.int .i64 (Lib.indexByte ts c)) ∧ w' = wx
set_option maxRecDepth 100000 in
set_option maxHeartbeats 2000000 in
theorem digits_any (hI : IxC) (b k most : Nat) (s : List UInt8) (w : World) (hs : s.length ≤ 4096) (hk : k ≤ s.length) (hm : most ≤ 4096) (h : Rr w b s k) :
    Calls Tryd.prog 27 #[.pointer (some ⟨b, 0, none⟩), .int .i64 (most : Int)] w fun e w' => e = .returned (.string ⟨(dg s k most).toArray⟩) ∧ Rr w' b s (k + (dg s k most).length) ∧ Oth b w w' := by
  have c0 := h.c0
  have c1 := h.c1
  have HR : Hid (Rr w b s k) := h
  clear h
  go_enter Tryd.func27, Tryd.ntmps27
  go_wp2_with fail
  go_loopw [21] (fun _ wr => ∃ j : Nat, j ≤ most ∧ Hid (∀ i, i < j → k + i < s.length ∧ isD (s.getD (k + i) 0) = true) ∧ Hid (Rr wr b s (k + j)) ∧ Oth b w wr) (fun _ wr => most - ((match wr.cell? ⟨b, 1, none⟩ with | some (.int _ x) => x.toNat | _ => 0) - k))
  case atStart => exact ⟨0, by omega, fun i hi => by omega, HR, Oth.refl _ _⟩
  case round =>
    obtain ⟨j, hj, hd, hR, ho⟩ := hrel
    obtain ⟨m, hm2⟩ : ∃ m, k + j = m := ⟨_, rfl⟩
    have hR0 : Hid (Rr wr b s m) := by rw [← hm2]; exact hR
    have hms : m ≤ s.length := by
      rw [← hm2]
      cases j with
      | zero => exact hk
      | succ j => have := (hd.out j (by omega)).1; omega
    have cx := hR0.out.c1
    have cy := hR0.out.c0
    have hsub : (m : Int) - (k : Int) = (j : Int) := by omega
    have hjm : IntKind.i64.wrap ((m : Int) - (k : Int)) = (j : Int) := by rw [IntWalk.i64_left, hsub]; exact IntWalk.wrap64_in _ (by omega)
    have HM : Hid (k + j = m) := hm2
    clear c0 c1
    by_cases hjm2 : j < most
    · have hjc : (j : Int) < (most : Int) := by omega
      have hT := takes_any b m s tenD wr hs hms hR0.out (fun c wx => hI tenD c wx)
      unfold tenD at hT
      by_cases ht : tk s [48, 49, 50, 51, 52, 53, 54, 55, 56, 57] m = true
      · rw [ht] at hT
        simp only [if_true] at hT
        have hdm : m < s.length ∧ isD (s.getD m 0) = true := by
          have := of_decide_eq_true ht
          exact ⟨this.1, (mem_tenD _).1 this.2⟩
        have HD : Hid (∀ i, i < j + 1 → k + i < s.length ∧ isD (s.getD (k + i) 0) = true) := by
          intro i hi
          by_cases e : i = j
          · rw [e, HM.out]; exact hdm
          · exact hd.out i (by omega)
        have HDM : Hid (m < s.length) := hdm.1
        clear ht hdm hm2 hsub
        go_wp2_with (go_at_call 26; refine hT.mono ?_; rintro e w2 ⟨rfl, r2, o2⟩; replace r2 : Hid (Rr w2 b s (m + 1)) := r2)
        have hx1 := r2.out.c1
        have hx0 := hR0.out.c1
        refine ⟨⟨j + 1, by omega, HD, ?_, ho.trans o2⟩, ?_⟩
        · show Rr _ _ _ _
          rw [show k + (j + 1) = m + 1 by have := HM.out; omega]
          exact r2.out
        · simp only [hx1, hx0, Int.toNat_natCast]
          have h1 : m - k = j := by have := HM.out; omega
          have h2 : m + 1 - k = j + 1 := by have := HM.out; omega
          exact ms_lt h1 h2 hjm2
      · have ht2 : tk s [48, 49, 50, 51, 52, 53, 54, 55, 56, 57] m = false := by simpa using ht
        rw [ht2] at hT
        simp only [Bool.false_eq_true, if_false] at hT
        have HE : Hid (dg s k most = (s.take m).drop k ∧ (dg s k most).length = j) := by
          have := dg_end s k most j (by omega) hd.out (.inr (by
            rintro ⟨a1, a2⟩
            rw [HM.out] at a1 a2
            apply ht
            unfold tk
            exact decide_eq_true ⟨a1, (mem_tenD _).2 a2⟩))
          rw [HM.out] at this
          exact this
        have hcut := fun wx => run_cut s k m (by omega) hms wx
        rw [← HE.out.1] at hcut
        clear ht ht2 hm2 hsub
        go_wp2_with (go_at_call 26; refine hT.mono ?_; rintro e w2 ⟨rfl, r2, o2⟩; replace r2 : Hid (Rr w2 b s m) := r2; have cx2 := r2.out.c1; have cy2 := r2.out.c0)
        refine wp_region_quiet_lit (by kernel_rfl) (by kernel_rfl) ?_
        iterate 11
          with_reducible refine wpQuiet_step ?_
          intro K hK
          go_simp
          first
            | (with_reducible refine hK _ ?_; clear hK K)
            | (with_reducible refine (if_neg ?_).mpr (hK _ ?_)
               · decide
               clear hK K)
            | (apply Exists.intro
               refine ⟨fun _ => ?_, hK _ ?_⟩
               · with_reducible rfl
               clear hK K)
        refine wpQuiet_nil ?_
        rintro _ ⟨nq, rfl⟩
        go_wp2_with fail
        go_ret
        refine ⟨rfl, ?_, (ho.trans o2).drewN nq⟩
        rw [HE.out.2, HM.out]
        exact r2.out.drewN nq
    · have hjc : ¬ (j : Int) < (most : Int) := by omega
      have HE : Hid (dg s k most = (s.take m).drop k ∧ (dg s k most).length = j) := by
        have := dg_end s k most j (by omega) hd.out (.inl (by omega))
        rw [HM.out] at this
        exact this
      have hcut := fun wx => run_cut s k m (by omega) hms wx
      rw [← HE.out.1] at hcut
      clear hm2 hsub
      go_wp2_with fail
      refine wp_region_quiet_lit (by kernel_rfl) (by kernel_rfl) ?_
      iterate 11
        with_reducible refine wpQuiet_step ?_
        intro K hK
        go_simp
        first
          | (with_reducible refine hK _ ?_; clear hK K)
          | (with_reducible refine (if_neg ?_).mpr (hK _ ?_)
             · decide
             clear hK K)
          | (apply Exists.intro
             refine ⟨fun _ => ?_, hK _ ?_⟩
             · with_reducible rfl
             clear hK K)
      refine wpQuiet_nil ?_
      rintro _ ⟨nq, rfl⟩
      go_wp2_with fail
      go_ret
      refine ⟨rfl, ?_, ho.drewN nq⟩
      rw [HE.out.2, HM.out]
      exact hR0.out.drewN nq
end Go.Proofs.YtgciimjcdhallaaDoor
