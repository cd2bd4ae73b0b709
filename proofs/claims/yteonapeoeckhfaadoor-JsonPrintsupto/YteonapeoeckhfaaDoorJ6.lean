import Derived.Test.YteonapeoeckhfaaDoorJ5
import Derived.Lib.ConvBytes
set_option linter.unusedVariables false
set_option linter.unusedSimpArgs false
namespace Go.Proofs.YteonapeoeckhfaaDoor
open Go.RowKit Go.Shelf
/-- []byte(s). -/
theorem bytes_of (l : List UInt8) (w : World) : ∃ c wz, (convert 9 22 (.string ⟨l.toArray⟩)).run Tryd.prog w = .ok (.slice (some ⟨w.heap.size, 0, none⟩) l.length c) wz ∧ Keep w wz ∧ wz.heap.size = w.heap.size + 1 ∧ RdB wz (some ⟨w.heap.size, 0, none⟩) l ∧ l.length ≤ c := by
  have h := Lib.run_convert_string_bytes (P := Tryd.prog) w 9 22 5 ⟨l.toArray⟩ Tryd.underlying9 Tryd.underlying22 Tryd.underlying5
  rw [sz_mk] at h
  refine ⟨_, _, h, ?_, Lib.bytesWorld_size _ _ _, ?_, ?_⟩
  · refine ⟨?_, ?_, ?_, ?_, fun k hk => Lib.bytesWorld_at_old w 5 _ k hk⟩
    · simp [Lib.bytesWorld, World.freeze, World.alloc, World.drew, -World.alloc_eq, -World.drew_eq]
    · simp [Lib.bytesWorld, World.freeze, World.alloc, World.drew, -World.alloc_eq, -World.drew_eq]
    · simp [Lib.bytesWorld, World.freeze, World.alloc, World.drew, -World.alloc_eq, -World.drew_eq]
    · rw [Lib.bytesWorld_size]; omega
  · intro j hj
    refine ⟨_, 0, rfl, ?_⟩
    have := Lib.bytesWorld_cell w 5 ⟨l.toArray⟩ j (by rw [sz_mk]; exact hj)
    simpa using this
  · exact grownCap_ge _ _ _ _
theorem beqNat (a b : Nat) : ((a : Int) == (b : Int)) = (a == b) := by
  rw [Bool.eq_iff_iff, beq_iff_eq, beq_iff_eq]
  omega
/-- Whether a text is a number's. -/
def isNm (s : List UInt8) : Bool := (num s 0).1 && (num s 0).2 == s.length
def RN (g : Nat) (ta : Option Addr) (c : Nat) (s : List UInt8) (k : Nat) (wx w' : World) : Prop := Rp w' g ta c s k ∧ Kb g wx w'
theorem do83_ok (hI : IxC) (g c : Nat) (ta : Option Addr) (s : List UInt8) (w : World) (hs : s.length ≤ 140737488355328) (hc : s.length ≤ c) (h : Rp w g ta c s 0) (hn : (num s 0).1 = true) :
    DoOk 83 #[.pointer (some ⟨g, 0, none⟩)] w (RN g ta c s (num s 0).2) := by
  intro wx kx
  have hN := number_ok hI g c 0 ta s wx hs hc (Nat.zero_le _) (h.keep kx) hn
  clear hn
  go_enter Tryd.func83, Tryd.ntmps83
  go_wp2_with (go_at_call 78; refine hN.mono ?_; clear hN; rintro e w1 ⟨rfl, r1, o1⟩)
  go_end0
  exact ⟨rfl, r1, o1⟩
theorem do83_bad (hI : IxC) (g c : Nat) (ta : Option Addr) (s : List UInt8) (w : World) (hs : s.length ≤ 140737488355328) (hc : s.length ≤ c) (h : Rp w g ta c s 0) (hn : (num s 0).1 = false) :
    DoBad 83 #[.pointer (some ⟨g, 0, none⟩)] w 100 (num s 0).2 (Kb g) := by
  intro wx kx
  have hN := number_bad hI g c 0 ta s wx hs (Nat.zero_le _) (h.keep kx) hn
  clear hn
  go_enter Tryd.func83, Tryd.ntmps83
  go_wp2_with (go_at_call 78; refine hN.mono ?_; clear hN; rintro e w1 ⟨rfl, o1⟩)
  exact ⟨rfl, rfl, o1⟩
set_option maxRecDepth 100000 in
set_option maxHeartbeats 4000000 in
theorem isNumber_any (hI : IxC) (s : List UInt8) (w : World) (hs : s.length ≤ 140737488355328) :
    Calls Tryd.prog 69 #[.string ⟨s.toArray⟩] w fun e w' => e = .returned (.bool (isNm s)) ∧ Keep w w' := by
  have hmf : ∀ (fn : Fn) (first cap : Array Value) (w : World), (Instr.makeFunc fn first cap).run Tryd.prog w = .ok (.func fn first cap) w := fun _ _ _ _ => rfl
  have hE : ∀ (cap : Array Value) wx, (callFunc 83 cap).run Tryd.prog wx = .ok (.enter 83 cap) wx := fun _ _ => by kernel_rfl
  obtain ⟨c, wz, hconv, kz, sz, hrd, hc⟩ := bytes_of s w
  obtain ⟨ta, hta⟩ : ∃ ta, (some ⟨w.heap.size, 0, none⟩ : Option Addr) = ta := ⟨_, rfl⟩
  rw [hta] at hconv hrd
  obtain ⟨L, hL⟩ : ∃ L, s.length = L := ⟨_, rfl⟩
  have hsz : (ByteArray.mk s.toArray).size = L := by rw [sz_mk]; exact hL
  obtain ⟨w3, hw3⟩ : ∃ w3, wz.alloc (Obj.cells #[.slice ta L c, .int .i64 0] 48) = w3 := ⟨_, rfl⟩
  have k3 : Keep wz w3 := by rw [← hw3]; exact (Keep.refl _).alloc _
  have b3 : w3.heap[wz.heap.size]? = some (.cells #[.slice ta L c, .int .i64 0] 48 (0, 0)) := by rw [← hw3]; exact heap_alloc_new _ _
  have hR3 : Hid (Rp w3 wz.heap.size ta c s 0) := ⟨by rw [hL]; exact b3, fun j hj => by
    obtain ⟨tb, o, e, h⟩ := hrd j hj
    exact ⟨tb, o, e, k3.cell h⟩⟩
  have hz3 : wz.heap.size < w3.heap.size := (Array.getElem?_eq_some_iff.1 b3).1
  rw [hL] at hconv
  clear sz hta
  replace hw3 : Hid (wz.alloc (Obj.cells #[.slice ta L c, .int .i64 0] 48) = w3) := hw3
  cases hn : (num s 0).1 with
  | true =>
    have hD := do83_ok hI wz.heap.size c ta s w3 hs hc hR3.out hn
    have hC := caught_ok 83 _ w3 _ (hE _) hD (fun wx w' _ hlt _ hR => hR.2.block _ hlt (by omega))
    obtain ⟨K, hK⟩ : ∃ K, (num s 0).2 = K := ⟨_, rfl⟩
    obtain ⟨ANS, hA⟩ : ∃ ANS, isNm s = ANS := ⟨_, rfl⟩
    have hA2 : ((K : Int) == (L : Int)) = ANS := by
      rw [← hA]
      unfold isNm
      rw [hn, hK, hL, Bool.true_and]
      exact beqNat K L
    rw [hA]
    rw [hK] at hC
    clear hn hD hK hA hI hrd hL
    go_enter Tryd.func69, Tryd.ntmps69
    go_wp2_with fail
    rw [hw3.out]
    go_wp2_with (go_at_call 22; refine hC.mono ?_; clear hC; rintro e w4 ⟨rfl, w1, w2, k1, ⟨r2, o2⟩, o4⟩; have x1 := o4.cell r2.c1 (by show wz.heap.size ≠ w3.heap.size; omega); have kk : Hid (Keep w w4) := Kb.keep (Kb.keep ((kz.trans k3).trans k1) o2 kz.le) o4 ((kz.trans k3).le); have hlt4 : wz.heap.size < w4.heap.size := World.block_lt_of_cell? w4 _ x1; clear r2 o2 o4)
    go_ret
    exact ⟨rfl, kk.out.alloc _⟩
  | false =>
    have hD := do83_bad hI wz.heap.size c ta s w3 hs hc hR3.out hn
    have hC := caught_bad 83 _ w3 _ _ _ (hE _) hD (fun wx w' _ hlt _ hR => hR.block _ hlt (by omega))
    have hA : isNm s = false := by unfold isNm; rw [hn]; rfl
    rw [hA]
    generalize (num s 0).2 = K at hC
    clear hn hD hA hI hrd hL
    go_enter Tryd.func69, Tryd.ntmps69
    go_wp2_with fail
    rw [hw3.out]
    go_wp2_with (go_at_call 22; refine hC.mono ?_; clear hC; rintro e w4 ⟨rfl, w1, w2, k1, o2, o4⟩; have kk : Hid (Keep w w4) := Kb.keep (Kb.keep ((kz.trans k3).trans k1) o2 kz.le) o4 ((kz.trans k3).le); clear o2 o4)
    go_ret
    exact ⟨rfl, kk.out.alloc _⟩
end Go.Proofs.YteonapeoeckhfaaDoor
