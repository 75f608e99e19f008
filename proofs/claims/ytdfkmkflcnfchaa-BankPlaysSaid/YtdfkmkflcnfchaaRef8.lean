/- The reference's cell in memory; Find, Busy. Own work. -/
import Derived.Test.YtdfkmkflcnfchaaRow8
namespace Go.Proofs.Ytdfkmkflcnfchaa
open Go.ChangeShapes Go.WideShapes Go.ChangeAt Go.RowKit CellM

structure RAt (w : World) (rc : Nat) (r : Rs) (A : Option Addr) (h c : Nat) (G : Nat → Prop) : Prop where
  kind : Has w ⟨rc, 0, none⟩ (.int .i64 r.kind)
  top : Has w ⟨rc, 1, none⟩ (.int .i64 r.top)
  value : Has w ⟨rc, 2, none⟩ (.int .i64 r.value)
  now : Has w ⟨rc, 3, none⟩ (.int .i64 r.now)
  l : Has w ⟨rc, 4, none⟩ (.slice A r.L.length c)
  row : RowE w A h c r.L
  rG : G rc
  hG : c ≠ 0 → G h ∧ h ≠ rc
section
variable {w w' : World} {rc : Nat} {r : Rs} {A : Option Addr} {h c : Nat} {G G' : Nat → Prop}
theorem RAt.mono (H : RAt w rc r A h c G) (hG : ∀ b, G b → G' b) : RAt w rc r A h c G' := ⟨H.kind, H.top, H.value, H.now, H.l, H.row, hG _ H.rG, fun hc => ⟨hG _ (H.hG hc).1, (H.hG hc).2⟩⟩
theorem RAt.keep (H : RAt w rc r A h c G) {F : Addr → Prop} (hk : Kept F w w') (hF : ∀ p, F p → ¬ G p.block) : RAt w' rc r A h c G :=
  ⟨hk.has _ _ H.kind (fun hh => hF _ hh H.rG), hk.has _ _ H.top (fun hh => hF _ hh H.rG), hk.has _ _ H.value (fun hh => hF _ hh H.rG), hk.has _ _ H.now (fun hh => hF _ hh H.rG), hk.has _ _ H.l (fun hh => hF _ hh H.rG),
    H.row.keep hk (fun k hc hh => hF _ hh (H.hG (by omega)).1), H.rG, H.hG⟩
theorem RAt.below (H : RAt w rc r A h c G) (hb : Below w.heap.size w w') : RAt w' rc r A h c G := H.keep (F := fun _ => False) (.below hb) (fun _ h => h.elim)
theorem RAt.lt (H : RAt w rc r A h c G) : rc < w.heap.size := H.kind.lt
end
set_option maxHeartbeats 2000000 in
theorem find_is (w : World) (rc : Nat) (r : Rs) (A : Option Addr) (h c : Nat) (G : Nat → Prop) (t : Int) (H : RAt w rc r A h c G) :
    Calls Try.prog 29 #[.pointer (some ⟨rc, 0, none⟩), .int .i64 t] w fun e w' => e = .returned (.int .i64 (findA r.L t)) ∧ w = w' := by
  have c4 := H.l.1
  have hmax : r.L.length ≤ maxLen := Nat.le_trans H.row.le H.row.max
  unfold maxLen at hmax
  have HR := Lib.hid H.row; clear H
  go_enter Try.func29, Try.ntmps29
  go_wp2_with fail
  go_loopw [5] (fun i wr => ∃ k : Nat, k ≤ r.L.length ∧ i = .int .i64 k ∧ Hid (∀ j (hj : j < r.L.length), j < k → isOpen t r.L[j] = false) ∧ wr = w) (fun i _ => r.L.length - (intOf i).toNat)
  case atStart => exact ⟨0, by omega, rfl, Lib.hid (fun j _ hj => by omega), rfl⟩
  case round =>
    obtain ⟨k, hk, rfl, HB, rfl⟩ := hrel
    by_cases hlt : k < r.L.length
    · obtain ⟨rfl, hf⟩ := HR.out.get hlt
      have x0 : wr.cell? ⟨h, k * 7, none⟩ = some (.int .i64 r.L[k].t) := (hf 0 _ rfl).1
      have x5 := (hf 5 _ rfl).1
      clear hf
      by_cases h1 : r.L[k].t = t
      · have d1 : (r.L[k].t == t) = true := by simp [h1]
        by_cases h2 : r.L[k].o < 0
        · have d2 : decide (r.L[k].o < 0) = true := by simp [h2]
          have HF := Lib.hid (findA_at hlt (by unfold isOpen; rw [d1, d2]; rfl) HB.out)
          go_wp2_with fail
          go_ret
          exact ⟨ret_int HF.out.symm, rfl⟩
        · have d2 : decide (r.L[k].o < 0) = false := by simp at h2 ⊢; omega
          have HN : Hid (∀ j (hj : j < r.L.length), j < k + 1 → isOpen t r.L[j] = false) := Lib.hid (fun j hj hjk => by
            rcases Nat.lt_or_ge j k with h3 | h3
            · exact HB.out j hj h3
            · obtain rfl : j = k := by omega
              unfold isOpen; rw [d2]; simp)
          go_wp2_with fail
          go_roundw
          case rel => exact ⟨k + 1, by omega, by go_num, HN, by first | trivial | rfl⟩
          case measure => simp [intOf]; omega
      · have d1 : (r.L[k].t == t) = false := by simp [h1]
        have HN : Hid (∀ j (hj : j < r.L.length), j < k + 1 → isOpen t r.L[j] = false) := Lib.hid (fun j hj hjk => by
            rcases Nat.lt_or_ge j k with h3 | h3
            · exact HB.out j hj h3
            · obtain rfl : j = k := by omega
              unfold isOpen; rw [d1]; simp)
        go_wp2_with fail
        go_roundw
        case rel => exact ⟨k + 1, by omega, by go_num, HN, by first | trivial | rfl⟩
        case measure => simp [intOf]; omega
    · obtain rfl : k = r.L.length := by omega
      have HF := Lib.hid (findA_no (t := t) (fun j hj => HB.out j hj hj))
      go_wp2_with fail
      go_ret
      exact ⟨ret_int HF.out.symm, rfl⟩
end Go.Proofs.Ytdfkmkflcnfchaa
