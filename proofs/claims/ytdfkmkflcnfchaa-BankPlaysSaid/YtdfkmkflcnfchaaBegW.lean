/- cell's beginWrite. Own work. -/
import Derived.Test.YtdfkmkflcnfchaaAt
namespace Go.Proofs.Ytdfkmkflcnfchaa
open Go.ChangeShapes Go.WideShapes Go.ChangeAt Go.RowKit CellM

/-- The blocks F, and new ones. -/
def More (w : World) (F : Nat → Prop) : Nat → Prop := fun b => F b ∨ w.heap.size ≤ b
theorem more_more {w w' : World} {F : Nat → Prop} (h : w.heap.size ≤ w'.heap.size) (b : Nat) (hb : More w F b ∨ w'.heap.size ≤ b) : More w F b := by
  rcases hb with hb | hb
  · exact hb
  · exact .inr (Nat.le_trans h hb)
theorem Over.step {w w' : World} {kind v : Int} {g o : Nat} {a : CellM.Acc} {V V' : Value} {p p' : Pl} (h : Over w w' kind v g o a V p V' p') {F : Nat → Prop} (hg : F g) (hp : kind = 2 → F p.h) : Step F w w' :=
  ⟨h.kept.mono (fun q hq => by
    rcases hq with rfl | rfl | ⟨h2, _, rfl⟩
    · exact hg
    · exact hg
    · exact hp h2), fun B hB hw => h.below B (hB _ hg) (fun h2 => hB _ (hp h2)) hw, fun b hb hf => h.block b hb (fun e => hf (e ▸ hg)) (fun h2 e => hf (e ▸ hp h2))⟩
set_option maxHeartbeats 2000000 in
theorem beginWrite_is (w : World) (cb : Nat) (S : St) (F : Nat → Prop) (n t : Nat) (v : Int) (H : PAt w cb S F) (hG : CellM.Good S n) (hn : n ≤ 90000) (ht : t < 8) :
    Calls Try.prog 42 #[.pointer (some ⟨cb, 0, none⟩), .int .i64 t, .int .i64 v] w fun e w' => e = .returned (.tuple #[]) ∧ PAt w' cb (begW S t v) (More w F) ∧ Step F w w' := by
  have HH := Lib.hid (And.intro H hG); clear H hG
  go_enter Try.func42, Try.ntmps42
  go_wp2_with fail
  go_loopw [7] (fun i wr => ∃ k : Nat, k ≤ 8 ∧ i = .int .i64 k ∧ Hid (PAt wr cb (meet S v k) (More w F) ∧ Step F w wr)) (fun i _ => 8 - (intOf i).toNat)
  case atStart => exact ⟨0, by omega, rfl, Lib.hid ⟨by rw [meet_zero]; exact HH.out.1.mono (fun b hb => .inl hb), .refl _ _⟩⟩
  case round =>
    obtain ⟨k, hk, rfl, HR⟩ := hrel
    by_cases hlt : k < 8
    · have hd : (meet S v k).d k = S.d k := by simp [meet]
      obtain ⟨rb, V, pl, hD⟩ := HR.out.1
      have hA := hD.acc k hlt
      rw [hd] at hA
      have c0 := hA.k.1
      by_cases h1 : (S.d k).k = 1
      · have d1 : ((S.d k).k == 1) = true := by simp [h1]
        have HD := Lib.hid hD; have HA := Lib.hid hA; clear hD hA
        go_wp2_with fail
        have hGk : CellM.Good (meet S v k) (n + 1) := meet_good HH.out.2 v k
        have hk1 : ((meet S v k).d k).k = 1 := by rw [hd]; exact h1
        refine (overlap_is wr cb cb (3 + k * 4) S.kind v (S.d k) (V k) (pl k) HD.out.kind HA.out (fun h2 => ?_) ?_).mono ?_
        · have hne : ((meet S v k).d k).c ≠ [] := hGk.r k h2 hk1
          have h3 := HD.out.cand k hlt hne
          rw [hd] at h3
          exact ⟨h3, (HD.out.place k hlt hne).1⟩
        · have := HH.out.2.n k; omega
        · rintro e w' ⟨rfl, V', p', hO⟩
          have hO' : Over wr w' (meet S v k).kind v cb (3 + k * 4) ((meet S v k).d k) (V k) (pl k) V' p' := by rw [hd]; exact hO
          have hnew := HD.out.over (F' := More w F) hlt hGk hk1 hO' (more_more HR.out.2.kept.size)
          rw [meet_one h1] at hnew
          have hst : Step F w w' := HR.out.2.trans' (hO'.step (F := More w F) HD.out.cF (fun h2 => HD.out.pF k hlt (hGk.r k h2 hk1))) (fun _ hb => hb)
          have HN := Lib.hid (And.intro (show PAt w' cb (meet S v (k + 1)) (More w F) from ⟨rb, _, _, hnew⟩) hst); clear hnew hst hO hO' hGk hk1
          clear hd
          go_wp2_with fail
          go_roundw
          case rel => exact ⟨k + 1, by omega, by go_num, HN⟩
          case measure => simp [intOf]; omega
      · have d1 : ((S.d k).k == 1) = false := by simp [h1]
        have HN : Hid (PAt wr cb (meet S v (k + 1)) (More w F) ∧ Step F w wr) := Lib.hid (by rw [← meet_none h1]; exact HR.out)
        clear hD hA hd
        go_wp2_with fail
        go_roundw
        case rel => exact ⟨k + 1, by omega, by go_num, HN⟩
        case measure => simp [intOf]; omega
    · obtain rfl : k = 8 := by omega
      obtain ⟨rb, V, pl, hD⟩ := HR.out.1
      have hA := hD.acc t ht
      have c0 := hA.k.1
      have f0 := hA.k.2
      have c1 := hA.w_.1
      have f1 := hA.w_.2
      have c2 := hA.m.1
      have f2 := hA.m.2
      have c3 := hA.c.1
      have f3 := hA.c.2
      clear hA hD
      go_wp2_with fail
      go_end0
      have h1 : PAt (CellM.store4 wr cb (3 + t * 4) ⟨2, v, false, []⟩ (.slice none 0 0)) cb (begW S t v) (More w F) := HR.out.1.put0 ht 2 v false
      have h2 : Step F w (CellM.store4 wr cb (3 + t * 4) ⟨2, v, false, []⟩ (.slice none 0 0)) := HR.out.2.trans' (store4_step (F := More w F) wr cb (3 + t * 4) ⟨2, v, false, []⟩ (.slice none 0 0) (by obtain ⟨rb, V, pl, hD⟩ := HR.out.1; exact hD.cF)) (fun _ hb => hb)
      exact ⟨rfl, h1, h2⟩
end Go.Proofs.Ytdfkmkflcnfchaa
