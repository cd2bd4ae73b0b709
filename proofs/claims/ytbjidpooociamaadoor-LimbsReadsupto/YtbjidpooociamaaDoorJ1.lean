import Derived.Test.YtbjidpooociamaaDoorF9
namespace Go.Proofs.YtbjidpooociamaaDoor
open Go.RowKit Lb
theorem decode_high (s : ByteArray) (pos : Nat) (h : 128 ≤ (s.get! pos).toNat) : 128 ≤ (Utf8.decode s pos).1 := by
  have hb : ∀ k, (s.get! (pos + k)).toNat < 256 := fun k => (s.get! (pos + k)).toNat_lt
  have h0 := hb 0; have h1 := hb 1; have h2 := hb 2; have h3 := hb 3
  simp only [Utf8.decode]
  repeat' split
  all_goals simp_all [Utf8.runeError]
  all_goals omega
theorem S8_get! (cs : List Nat) (k : Nat) (hk : k < cs.length) (hx : cs.getD k 0 < 256) : ((S8 cs).get! k).toNat = cs.getD k 0 := by
  have h : k < (S8 cs).size := by rw [S8_size]; exact hk
  have := S8_get cs k h hx
  rw [← this]
  congr 1
  show (S8 cs).data[k]! = (S8 cs).data[k]'_
  exact getElem!_pos _ _ _
/-- A byte that is no digit, as a rune: no digit. -/
theorem rune_bad (cs : List Nat) (p : Nat) (hp : p < cs.length) (hb : cs.getD p 0 < 256) (hx : cs.getD p 0 < 48 ∨ 58 ≤ cs.getD p 0) : (Utf8.decode (S8 cs) p).1 < 48 ∨ 58 ≤ (Utf8.decode (S8 cs) p).1 := by
  have hg := S8_get! cs p hp hb
  have hs : p < (S8 cs).size := by rw [S8_size]; exact hp
  by_cases h : cs.getD p 0 < 128
  · have := decode_ascii (S8 cs) p hs (by rw [S8_get cs p hs hb]; exact h)
    rw [this, S8_get cs p hs hb]
    exact hx
  · have := decode_high (S8 cs) p (by rw [hg]; omega)
    omega
set_option maxRecDepth 100000 in
set_option maxHeartbeats 400000 in
theorem Read_none (w : World) : Calls Tryd.prog 27 #[.string (S8 [])] w fun e w' => e = .returned (.tuple #[.slice none 0 0, .int .i64 10, .int .i64 0]) ∧ Keep w w' := by
  have hne : (S8 []).toList.isEmpty = true := by rw [ByteArray.toList_eq]; rfl
  go_enter Tryd.func27, Tryd.ntmps27
  go_wp2_with fail
  go_ret3
  exact ⟨rfl, Keep.refl _⟩
set_option maxRecDepth 100000 in
set_option maxHeartbeats 400000 in
theorem Read_bad (cs : List Nat) (p : Nat) (w : World) (hb : ∀ x ∈ cs, x < 256) (hp : p < cs.length) (hd : ∀ i, i < p → 48 ≤ cs.getD i 0 ∧ cs.getD i 0 < 58) (hx : cs.getD p 0 < 48 ∨ 58 ≤ cs.getD p 0) (_hl : cs.length ≤ 1099511627776) :
    Calls Tryd.prog 27 #[.string (S8 cs)] w fun e w' => e = .returned (.tuple #[.slice none 0 0, .int .i64 10, .int .i64 (p : Nat)]) ∧ Keep w w' := by
  have hsz := S8_size cs
  have hne : (S8 cs).toList.isEmpty = false := by
    rw [ByteArray.toList_eq]
    simp [S8]
    intro h; simp [h] at hp
  have hru := rune_bad cs p hp (hb _ (by simp [List.getD, hp])) hx
  go_enter Tryd.func27, Tryd.ntmps27
  go_wp2_with fail
  have hit0 : (w.iter (S8 cs) 0).heap[w.heap.size]? = some (.stringIter (S8 cs) 0) := World.iter_heap w _ 0
  have hk0 : Keep w (w.iter (S8 cs) 0) := (Keep.refl w).alloc _
  generalize w.iter (S8 cs) 0 = w2 at hit0 hk0 ⊢
  go_loopw [] (fun wr => ∃ k : Nat, k ≤ p ∧ wr.heap[w.heap.size]? = some (.stringIter (S8 cs) k) ∧ Keep w wr) (fun wr => cs.length - wr.iterPos w.heap.size)
  case atStart => exact ⟨0, by omega, hit0, hk0⟩
  case round =>
    obtain ⟨k, hk, hit, hkp⟩ := hrel
    have hkl : k < cs.length := by omega
    have hks : k < (S8 cs).size := by rw [hsz]; exact hkl
    by_cases hkp' : k < p
    · obtain ⟨x, hx⟩ : ∃ x, cs.getD k 0 = x := ⟨_, rfl⟩
      obtain ⟨hx1, hx2⟩ := hd k hkp'
      rw [hx] at hx1 hx2
      have hb : ((S8 cs)[k]'hks).toNat = x := by rw [S8_get cs k hks (by omega)]; exact hx
      have hnx := fun ty => Lib.run_next_ascii_at (P := Tryd.prog) wr w.heap.size (S8 cs) k ty hit hks (by omega)
      rw [hb] at hnx
      have hit1 := Lib.iterAt_heap wr w.heap.size (S8 cs) k (k + 1) hit
      have hkp1 : Keep w (wr.iterAt w.heap.size (S8 cs) (k + 1)) := iterAt_keep hkp (by omega) _ _
      have Hit := hit
      have hd1 : decide ((x : Int) < 48) = false := by simp; omega
      clear hb hx hit hkp hks
      generalize wr.iterAt w.heap.size (S8 cs) (k + 1) = w3 at hnx hit1 hkp1
      go_wp2_with fail
      go_roundw
      case rel => exact ⟨k + 1, by omega, hit1, hkp1⟩
      case measure => rw [iterPos_of hit1, iterPos_of Hit]; omega
    · obtain rfl : k = p := by omega
      have hnx := fun ty => Lib.run_next_any_at (P := Tryd.prog) wr w.heap.size (S8 cs) k ty hit hks
      generalize (Utf8.decode (S8 cs) k).2 = sz at hnx
      generalize (Utf8.decode (S8 cs) k).1 = d at hnx hru
      have hkp1 : Keep w (wr.iterAt w.heap.size (S8 cs) (k + sz)) := iterAt_keep hkp (by omega) _ _
      generalize wr.iterAt w.heap.size (S8 cs) (k + sz) = w3 at hnx hkp1
      clear hit hkp hks hx hd hb
      by_cases hlow : d < 48
      · have hd1 : decide ((d : Int) < 48) = true := by simp; omega
        go_wp2_with fail
        go_ret3
        exact ⟨rfl, hkp1⟩
      · have hd1 : decide ((d : Int) < 48) = false := by simp; omega
        have hd2 : decide ((57 : Int) < (d : Int)) = true := by simp; omega
        go_wp2_with fail
        go_ret3
        exact ⟨rfl, hkp1⟩
end Go.Proofs.YtbjidpooociamaaDoor
