import Derived.Test.YtpdjpjkieafnbaaGreatDoorProg
import Derived.Test.YtpdjpjkieafnbaaGreatDoorLE7
import Derived.Test.YtpdjpjkieafnbaaGreatDoorLF10
import Derived.Test.YtpdjpjkieafnbaaGreatDoorMC15
import Derived.WalkKit
import Derived.WalkSpells
import Derived.WalkLawsBesides
import Derived.Laws.CopyOwn
import Derived.Deep.Draws
import Derived.Deep.QuietTactic
import Derived.BigQuiet
import Derived.Laws.MathBits
import Derived.Laws.BytesArg
import Derived.Lib.OthersKept
set_option linter.unusedVariables false
set_option linter.unusedSimpArgs false
namespace Go.Proofs.YtpdjpjkieafnbaaGreatDoor.Li
open Go.RowKit Lb
def numv (l : List Nat) : Nat := l.foldl (fun a x => a * 10 + (x - 48)) 0
theorem numv_snoc (l : List Nat) (x : Nat) : numv (l ++ [x]) = numv l * 10 + (x - 48) := by simp [numv, List.foldl_append]
theorem S8_get (cs : List Nat) (k : Nat) (h : k < (S8 cs).size) (hx : cs.getD k 0 < 256) : ((S8 cs)[k]'h).toNat = cs.getD k 0 := by
  have hk : k < cs.length := by rw [S8_size] at h; exact h
  have e : (S8 cs)[k]'h = UInt8.ofNat (cs.getD k 0) := by
    show (S8 cs).data[k]'_ = _
    simp [S8, List.getD, hk]
  rw [e]
  exact UInt8.toNat_ofNat_of_lt hx
theorem iterAt_keep {a w : World} (h : Keep a w) {k : Nat} (hk : a.heap.size ≤ k) (s : ByteArray) (pos : Nat) : Keep a (w.iterAt k s pos) := Lib.below_iterAt h hk s pos
theorem Row.iterAt {w : World} {g k : Nat} {l : List Nat} (h : Row w g l) (hne : g ≠ k) (s : ByteArray) (pos : Nat) : Row (w.iterAt k s pos) g l := by
  unfold Row; rw [Lib.iterAt_other w k g s pos hne]; exact h
theorem iter_gr {w w' : World} {g k : Nat} {o : Obj} (h : w.heap[k]? = some o) (hg : Gr g w w') (hne : k ≠ g) : w'.heap[k]? = some o := by
  rw [hg.block k (Array.getElem?_eq_some_iff.1 h).1 hne]; exact h
theorem Keep.trans_gr {a b c : World} {g : Nat} (h : Keep a b) (k : Gr g b c) (hg : a.heap.size ≤ g) : Keep a c :=
  ⟨k.os.trans h.os, k.tape.trans h.tape, k.output.trans h.output, Nat.le_trans h.size k.size, fun i hi => (k.block i (Nat.lt_of_lt_of_le hi h.size) (by omega)).trans (h.block i hi)⟩
set_option maxRecDepth 100000 in
set_option maxHeartbeats 800000 in
theorem joinedChunks_any (cs : List Nat) (w : World) (hcs : ∀ x ∈ cs, 48 ≤ x ∧ x < 58) (hl : cs.length ≤ 140737488355328) :
    Calls Tryz.prog 117 #[.string (S8 cs)] w fun e w' => ∃ v, e = .returned v ∧ NatR w.heap.size w' v (numv cs) ∧ Keep w w' := by
  have hsz := S8_size cs
  have hcap : cs.length / 9 + 1 ≤ 70368744177664 := by omega
  go_enter Tryz.func117, Tryz.ntmps117
  go_wp2_with (at_make; refine wpList_make32_0 _ rfl _ _ rfl _ _ _ (cs.length / 9 + 1) rfl rfl ?_ hcap ?_; rotate_left; intro w1 hrow hk hsz1)
  · have hrow0 : Row (w1.iter (S8 cs) 0) w.heap.size (List.replicate (cs.length / 9 + 1) 0) := by
      have : Keep w1 (w1.iter (S8 cs) 0) := (Keep.refl w1).alloc _
      exact hrow.keep this
    have hit0 : (w1.iter (S8 cs) 0).heap[w.heap.size + 1]? = some (.stringIter (S8 cs) 0) := by rw [← hsz1]; exact World.iter_heap w1 _ 0
    have hk0 : Keep w (w1.iter (S8 cs) 0) := hk.alloc _
    generalize w1.iter (S8 cs) 0 = w2 at hrow0 hit0 hk0 ⊢
    clear hrow hk hsz1
    go_loopw [3, 4, 5] (fun vo vc vf wr => ∃ (k m C F p : Nat) (r : List Nat), k ≤ cs.length ∧ wr.heap[w.heap.size + 1]? = some (.stringIter (S8 cs) k) ∧ vo = .slice (some ⟨w.heap.size, 0, none⟩) m (cs.length / 9 + 1) ∧ vc = .int .u32 (C : Nat) ∧ vf = .int .u32 (F : Nat) ∧ C < F ∧ F ≤ 100000000 ∧ p ≤ 8 ∧ Hid (F ≤ 10 ^ p) ∧ Hid ((cs.length - k + p) % 9 = 0) ∧ Hid (9 * m + (cs.length - k) + p ≤ cs.length + 8) ∧ Row wr w.heap.size r ∧ Hid (r.length = cs.length / 9 + 1) ∧ Lim r ∧ Hid (val (r.take m) * F + C = numv (cs.take k)) ∧ Keep w wr) (fun _ _ _ wr => cs.length - wr.iterPos (w.heap.size + 1))
    case atStart => exact ⟨0, 0, 0, 1, (9 - cs.length % 9) % 9, _, by omega, hit0, rfl, rfl, rfl, by omega, by omega, by omega, Nat.one_le_pow _ _ (by omega), by show _ = _; omega, by show _ ≤ _; omega, hrow0, by show _ = _; simp, by intro x hx; simp at hx; omega, by show _ = _; simp [val, numv], hk0⟩
    case round =>
      obtain ⟨k, m, C, F, p, r, hk, hit, rfl, rfl, rfl, hCF, hF, hp, hFp, hmod, hsize, hrow, hrl, hmr, hval, hkp⟩ := hrel
      by_cases hkl : k < cs.length
      · obtain ⟨x, hx⟩ : ∃ x, cs.getD k 0 = x := ⟨_, rfl⟩
        have hxm : x ∈ cs := by rw [← hx]; simp [List.getD, hkl]
        have hxr := hcs x hxm
        obtain ⟨hx1, hx2⟩ := hxr
        have hks : k < (S8 cs).size := by rw [hsz]; exact hkl
        have hb : ((S8 cs)[k]'hks).toNat = x := by rw [S8_get cs k hks (by omega)]; exact hx
        have hnx := fun ty => Lib.run_next_ascii_at (P := Tryz.prog) wr (w.heap.size + 1) (S8 cs) k ty hit hks (by omega)
        rw [hb] at hnx
        have hit1 := Lib.iterAt_heap wr (w.heap.size + 1) (S8 cs) k (k + 1) hit
        have hrow1 : Row (wr.iterAt (w.heap.size + 1) (S8 cs) (k + 1)) w.heap.size r := hrow.iterAt (by omega) _ _
        have hkp1 : Keep w (wr.iterAt (w.heap.size + 1) (S8 cs) (k + 1)) := iterAt_keep hkp (by omega) _ _
        have Htk : Hid (numv (cs.take (k + 1)) = numv (cs.take k) * 10 + (x - 48)) := by show _ = _; rw [take_snoc cs k hkl, hx, numv_snoc]
        have Hit := hit
        clear hb hx hxm hcs hit hrow hkp hks
        generalize wr.iterAt (w.heap.size + 1) (S8 cs) (k + 1) = w3 at hnx hit1 hrow1 hkp1
        by_cases h9 : (cs.length - 1 - k) % 9 = 0
        · have h9' : (((cs.length : Int) - 1 - (k : Int)) % 9 == 0) = true := by simp; omega
          have hF9 : F * 10 < 4294967296 := by omega
          have hC9 : C * 10 + (x - 48) < F * 10 := by omega
          have hmm : m < cs.length / 9 + 1 := by have h1 := hmod.out; have h2 := hsize.out; omega
          have hP := pushChunk_any w.heap.size m (F * 10) (C * 10 + (x - 48)) r w3 (by rw [hrl.out]; omega) (by rw [hrl.out]; exact hmm) hrow1 hmr hF9 (by omega)
          rw [show ((F * 10 : Nat) : Int) = (F : Int) * 10 from by omega, show ((C * 10 + (x - 48) : Nat) : Int) = (C : Int) * 10 + ((x : Int) - 48) from by omega, hrl.out] at hP
          go_wp2_with fail
          refine hP.mono ?_
          rintro e w4 ⟨m', r', rfl, hm1, hm2, hrow4, hrl4, hmr4, hval4, hgr4⟩
          have hit4 := iter_gr hit1 hgr4 (by omega)
          have hkp4 : Keep w w4 := hkp1.trans_gr hgr4 (Nat.le_refl _)
          clear hP hnx hit1 hrow1
          go_wp2_with fail
          go_roundw
          case rel =>
            refine ⟨k + 1, m', 0, 1, 0, r', by omega, hit4, rfl, rfl, rfl, by omega, by omega, by omega, by show _ ≤ _; simp, by show _ = _; omega, ?_, hrow4, hrl4, hmr4, ?_, hkp4⟩
            · show _ ≤ _
              have h1 := hmod.out
              have h2 := hsize.out
              omega
            · show _ = _
              rw [hval4, Htk.out, ← hval.out]
              grind
          case measure => rw [iterPos_of hit4, iterPos_of Hit]; omega
        · have h9' : (((cs.length : Int) - 1 - (k : Int)) % 9 == 0) = false := by simp; omega
          have hp7 : p ≤ 7 := by have h1 := hmod.out; omega
          have hF7 : F * 10 ≤ 10 ^ (p + 1) := by have h1 : F ≤ 10 ^ p := hFp; rw [Nat.pow_succ]; omega
          have hF8 : F * 10 ≤ 100000000 := Nat.le_trans hF7 (Nat.pow_le_pow_right (by omega) (show p + 1 ≤ 8 by omega))
          have HF7 : Hid (F * 10 ≤ 10 ^ (p + 1)) := hF7
          clear hF7
          go_wp2_with fail
          go_roundw
          case rel =>
            refine ⟨k + 1, m, C * 10 + (x - 48), F * 10, p + 1, r, by omega, hit1, rfl, by go_num, by go_num, by omega, hF8, by omega, HF7, by show _ = _; have h1 := hmod.out; omega, by show _ ≤ _; have h2 := hsize.out; omega, hrow1, hrl, hmr, ?_, hkp1⟩
            show _ = _
            rw [Htk.out, ← hval.out]
            grind
          case measure => rw [iterPos_of hit1, iterPos_of Hit]; omega
      · have hke : k = cs.length := by omega
        have hnx := fun ty => Lib.run_next_end_at (P := Tryz.prog) wr (w.heap.size + 1) (S8 cs) k ty hit (by rw [hsz]; omega)
        have hp0 : p = 0 := by have h1 := hmod.out; omega
        have hF1 : F ≤ 1 := by have h1 : F ≤ 10 ^ p := hFp; rw [hp0] at h1; simpa using h1
        have hml : m ≤ cs.length / 9 + 1 := by have h2 := hsize.out; omega
        have hlm : (r.take m).length = m := by rw [List.length_take, hrl.out]; omega
        have hT := trim_any (some ⟨w.heap.size, 0, none⟩) (cs.length / 9 + 1) (r.take m) wr (by omega) (by omega) (by have := hrow.rd 0 m (by rw [hrl.out]; omega); simpa using this)
        rw [hlm] at hT
        have hvv : val (r.take m) = numv cs := by
          have h1 := hval.out
          rw [hke, List.take_of_length_le (Nat.le_refl _), show F = 1 by omega, show C = 0 by omega] at h1
          omega
        have Hv : Hid (val (r.take m) = numv cs) := hvv
        clear hvv
        go_wp2_with fail
        refine hT.mono ?_
        rintro e w5 ⟨rfl, rfl⟩
        go_wp2_with fail
        go_ret
        refine ⟨_, rfl, ?_, hkp⟩
        have hres : Res w.heap.size w5 (.slice (some ⟨w.heap.size, 0, none⟩) m (cs.length / 9 + 1)) (r.take m) := by
          have := (hrow.res (Nat.le_refl w.heap.size)).cut (show m ≤ r.length by rw [hrl.out]; exact hml)
          rw [hrl.out] at this
          exact this
        rw [← Hv.out]
        exact NatR.of_trim hres (Lim_take hmr m)
  · simp
end Go.Proofs.YtpdjpjkieafnbaaGreatDoor.Li
