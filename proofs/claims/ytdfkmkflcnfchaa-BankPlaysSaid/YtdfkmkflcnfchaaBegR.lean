/- cell's beginRead. Own work. -/
import Derived.Test.YtdfkmkflcnfchaaBegW
import Derived.Test.YtdfkmkflcnfchaaArr
import Derived.Deep.DeepCutAuto
namespace Go.Proofs.Ytdfkmkflcnfchaa
open Go.ChangeShapes Go.WideShapes Go.ChangeAt Go.RowKit CellM

/-- A read that begins, the first n threads looked at. -/
structure RdAt (w wr : World) (rb : Nat) (S : St) (t n : Nat) (V : Value) (p : Pl) : Prop where
  acc : AccAt wr w.heap.size 0 (overs S n) V
  cand : S.kind = 2 → Cand wr V p.h p.o p.c (overs S n).c
  nil : S.kind ≠ 2 → V = .slice none 0 0
  place : S.kind = 2 → (p.h = rb ∧ p.o = t * 8 ∧ p.c = 8) ∨ w.heap.size < p.h
  kept : Kept (fun q => S.kind = 2 ∧ q.block = rb ∧ t * 8 ≤ q.off ∧ q.off < t * 8 + 8) w wr
  below : ∀ B, (S.kind = 2 → B ≤ rb) → B ≤ w.heap.size → Below B w wr
  block : ∀ b, b < w.heap.size → (S.kind = 2 → b ≠ rb) → wr.heap[b]? = w.heap[b]?
theorem put_self (S : St) (t : Nat) : put S t (S.d t) = S := by
  unfold put
  have : (fun i => if i = t then S.d t else S.d i) = S.d := by funext i; split <;> simp_all
  rw [this]
theorem upd_self {α : Type} (f : Nat → α) (t : Nat) : upd f t (f t) = f := by
  unfold upd; funext i; split <;> simp_all
section
variable {w wr w' : World} {cb rb : Nat} {S : St} {V : Nat → Value} {pl : Nat → Pl} {F : Nat → Prop} {t k : Nat} {V0 V1 : Value} {p0 p1 : Pl}
/-- The room of a thread that has nothing under way is free. -/
theorem PAtD.piece (H : PAtD w cb rb S V pl F) (ht : t < 8) (hc : (S.d t).c = []) (hk : Kept (fun q => S.kind = 2 ∧ q.block = rb ∧ t * 8 ≤ q.off ∧ q.off < t * 8 + 8) w wr) : PAtD wr cb rb S V pl F := by
  have hne := H.ne
  have ha := H.acc t ht
  have hn : ∀ i, ¬ (S.kind = 2 ∧ (⟨cb, i, none⟩ : Addr).block = rb ∧ t * 8 ≤ (⟨cb, i, none⟩ : Addr).off ∧ (⟨cb, i, none⟩ : Addr).off < t * 8 + 8) := fun i h => hne h.2.1
  have h := H.set (p' := pl t) (V' := V t) (a := S.d t) (F' := F) ht (hk.mono (fun q hq => .inr (.inl hq.2))) ⟨hk.has _ _ ha.k (hn _), hk.has _ _ ha.w_ (hn _), hk.has _ _ ha.m (hn _), hk.has _ _ ha.c (hn _)⟩ (fun _ hb => hb) (H.nil t ht) (fun h => absurd hc h)
  rw [put_self, upd_self, upd_self] at h
  exact h
theorem RdAt.drewN (h : RdAt w wr rb S t k V0 p0) (n : Nat) : RdAt w (wr.drewN n) rb S t k V0 p0 :=
  ⟨⟨h.acc.k, h.acc.w_, h.acc.m, h.acc.c⟩, fun h2 => (h.cand h2).drewN n, h.nil, h.place, h.kept.drewN n, fun B h1 h2 => below_drewN (h.below B h1 h2) n, h.block⟩
theorem RdAt.alloc (h : RdAt w wr rb S t k V0 p0) (o : Obj) : RdAt w (wr.alloc o) rb S t k V0 p0 :=
  ⟨⟨h.acc.k.alloc o, h.acc.w_.alloc o, h.acc.m.alloc o, h.acc.c.alloc o⟩, fun h2 => (h.cand h2).alloc o, h.nil, h.place, h.kept.alloc o, fun B h1 h2 => (h.below B h1 h2).alloc (Nat.le_trans h2 h.kept.size) o, fun b hb h2 => (Below.heap_alloc _ _ _ (Nat.lt_of_lt_of_le hb h.kept.size)).trans (h.block b hb h2)⟩
theorem RdAt.none_ (h : RdAt w wr rb S t k V0 p0) (hk : (S.d k).k ≠ 2) : RdAt w wr rb S t (k + 1) V0 p0 := by
  have e : overs S (k + 1) = overs S k := overs_no hk
  exact ⟨by rw [e]; exact h.acc, fun h2 => by rw [e]; exact h.cand h2, h.nil, h.place, h.kept, h.below, h.block⟩
theorem RdAt.met (h : RdAt w wr rb S t k V0 p0) (hk : (S.d k).k = 2) (ho : Over wr w' S.kind (S.d k).w w.heap.size 0 (overs S k) V0 p0 V1 p1) : RdAt w w' rb S t (k + 1) V1 p1 := by
  have e : overs S (k + 1) = over S.kind (overs S k) (S.d k).w := overs_yes hk
  have hsz := h.kept.size
  refine ⟨by rw [e]; exact ho.acc, fun h2 => ?_, fun h2 => ?_, fun h2 => ?_, ?_, fun B h1 h2 => ?_, fun b hb h2 => (ho.block b (Nat.lt_of_lt_of_le hb hsz) (by omega) (fun hk2 => ?_)).trans (h.block b hb h2)⟩
  · rw [e, over_c, if_pos h2]; exact ho.cand h2
  · rw [(ho.stays h2).1]; exact h.nil h2
  · rcases ho.place h2 with rfl | hn
    · exact h.place h2
    · have : w.heap.size < wr.heap.size := h.acc.k.lt
      exact .inr (by omega)
  · refine h.kept.trans' ho.kept (fun q hq => ?_)
    rcases hq with rfl | rfl | ⟨h2, hl, rfl⟩
    · exact .inr (Nat.le_refl _)
    · exact .inr (Nat.le_refl _)
    · rcases h.place h2 with ⟨e1, e2, e3⟩ | hp
      · exact .inl ⟨h2, e1, by simp only; omega, by simp only; omega⟩
      · exact .inr (Nat.le_of_lt hp)
  · refine (h.below B h1 h2).trans (ho.below B h2 (fun hk2 => ?_) (Nat.le_trans h2 hsz))
    rcases h.place hk2 with ⟨e1, _⟩ | hp
    · rw [e1]; exact h1 hk2
    · omega
  · rcases h.place hk2 with ⟨e1, _⟩ | hp
    · rw [e1]; exact h2 hk2
    · omega
theorem RdAt.slot (h : RdAt w wr rb S t k V0 p0) : ∃ A n c, V0 = .slice A n c := by
  by_cases h2 : S.kind = 2
  · exact ⟨_, _, _, (h.cand h2).v⟩
  · exact ⟨none, 0, 0, h.nil h2⟩
/-- The read stands in its place. -/
theorem RdAt.done (h : RdAt w wr rb S t 8 V0 p0) (H : PAtD w cb rb S V pl F) (ht : t < 8) (hc : (S.d t).c = []) : PAt (CellM.store4 wr cb (3 + t * 4) (overs S 8) V0) cb (begR S t) (More w F) ∧ Step F w (CellM.store4 wr cb (3 + t * 4) (overs S 8) V0) := by
  have hcb : cb < w.heap.size := H.kind.lt
  have hD := H.piece ht hc h.kept
  have hk : Kept (zone cb rb S pl t) w (CellM.store4 wr cb (3 + t * 4) (overs S 8) V0) := (h.kept.mono (fun q hq => .inr (.inl hq.2))).trans ((store4_kept _ _ _ _ _).mono (fun q hq => .inl hq))
  have hst : Step F w wr := ⟨h.kept.mono (fun q hq => by rw [hq.2.1]; exact H.rF hq.1), fun B hB hw => h.below B (fun h2 => hB _ (H.rF h2)) hw, fun b hb hf => h.block b hb (fun h2 e => hf (e ▸ H.rF h2))⟩
  refine ⟨⟨rb, _, _, H.set (p' := p0) ht hk (hD.acc t ht).store4 (fun _ hb => .inl hb) (fun hn => ?_) (fun hn => ?_)⟩, hst.trans' (store4_step wr cb (3 + t * 4) (overs S 8) V0 H.cF) (fun _ hb => .inl hb)⟩
  · by_cases h2 : S.kind = 2
    · exact absurd hn (overs_c2 S h2 8).1
    · exact h.nil h2
  · by_cases h2 : S.kind = 2
    · have hrb : rb < w.heap.size := by
        obtain ⟨x, hx⟩ := H.rooms h2 0 (by omega)
        exact hx.lt
      have hpc : p0.h ≠ cb := by
        rcases h.place h2 with ⟨e1, _⟩ | hp
        · rw [e1]; exact fun e => H.ne e.symm
        · omega
      refine ⟨(h.cand h2).keep (store4_kept _ _ _ _ _) (fun j _ hq => hpc hq.1), hpc, ?_, fun e => ?_, ?_⟩
      · rcases h.place h2 with ⟨e1, _⟩ | hp
        · rw [e1]; exact .inl (H.rF h2)
        · exact .inr (Nat.le_of_lt hp)
      · rcases h.place h2 with ⟨_, e2⟩ | hp
        · exact e2
        · omega
      · rcases h.place h2 with ⟨e1, _⟩ | hp
        · exact .inl e1
        · exact .inr (fun u hu _ huc e => by
            have := (H.cand u hu huc).lt huc
            omega)
    · exact absurd (overs_c0 S h2 8) hn
end
set_option maxRecDepth 20000 in
set_option maxHeartbeats 4000000 in
theorem beginRead_is (w : World) (cb : Nat) (S : St) (F : Nat → Prop) (n t : Nat) (H : PAt w cb S F) (hG : CellM.Good S n) (ht : t < 8) (hidle : (S.d t).k = 0) :
    Calls Try.prog 41 #[.pointer (some ⟨cb, 0, none⟩), .int .i64 t] w fun e w' => e = .returned (.tuple #[]) ∧ PAt w' cb (begR S t) (More w F) ∧ Step F w w' := by
  obtain ⟨rb, V, pl, hD⟩ := H
  have c0 := hD.kind.1
  have cv := hD.value.1
  have hcb : cb < w.heap.size := hD.kind.lt
  have HH := Lib.hid (And.intro hD hG); clear hG
  obtain ⟨i0, hi, hz0, hz1, hz2⟩ := info_parts infoInt
  have hu : Try.prog.underlying 30 = some (.slice 3) := by kernel_rfl
  go_enter Try.func41, Try.ntmps41
  go_upto_if 13 with fail
  go_cut [] (fun wx => Hid (∃ V0 p0, RdAt w wx rb S t 0 V0 p0))
  case first =>
    by_cases h2 : S.kind = 2
    · have d2 : (S.kind == 2) = true := by simp [h2]
      have cr := (hD.room h2).1
      have hwk : IntKind.i64.wrap ((t : Int) * 8 + 8) = (t : Int) * 8 + 8 := by rw [IntKind.wrap_i64]; omega
      have hsl : ∀ w : World, (Instr.slice 30 (.slice (some ⟨rb, 0, none⟩) 64 64) (some (.int .i64 (t * 8))) (some (.int .i64 (t * 8))) (some (.int .i64 (IntKind.i64.wrap ((t : Int) * 8 + 8))))).run Try.prog w = .ok (.slice (some ⟨rb, t * 8, none⟩) 0 8) w := by
        rw [hwk]; exact slice3 rb t ht
      obtain ⟨x0, hx0⟩ := hD.rooms h2 (t * 8) (by omega)
      have hrb : rb < w.heap.size := hx0.lt
      obtain ⟨W, hW⟩ : ∃ W, W = ((w.alloc (.cells #[.int .i64 1, .int .i64 0, .bool false, .slice none 0 0] 73)).alloc (.cells #[.int .i64 S.value] 3)) := ⟨_, rfl⟩
      have hsz1 : (w.alloc (.cells #[.int .i64 1, .int .i64 0, .bool false, .slice none 0 0] 73)).heap.size = w.heap.size + 1 := by simp
      have hx1 : Has W ⟨rb, t * 8, none⟩ x0 := by rw [hW]; exact (hx0.alloc _).alloc _
      have hn1 : Has W ⟨w.heap.size + 1, 0, none⟩ (.int .i64 S.value) := by
        rw [hW, ← hsz1]; exact has_new _ _ _ 0 _ rfl
      have hb0 : Has W ⟨w.heap.size, 0, none⟩ (.int .i64 1) := by rw [hW]; exact (has_new _ _ _ 0 _ rfl).alloc _
      have hb1 : Has W ⟨w.heap.size, 1, none⟩ (.int .i64 0) := by rw [hW]; exact (has_new _ _ _ 1 _ rfl).alloc _
      have hb2 : Has W ⟨w.heap.size, 2, none⟩ (.bool false) := by rw [hW]; exact (has_new _ _ _ 2 _ rfl).alloc _
      have hb3 : Has W ⟨w.heap.size, 3, none⟩ (.slice none 0 0) := by rw [hW]; exact (has_new _ _ _ 3 _ rfl).alloc _
      have hne3 : ∀ i, (⟨rb, t * 8, none⟩ : Addr) ≠ ⟨w.heap.size, i, none⟩ := fun i e => by simp only [Addr.mk.injEq] at e; omega
      have hb3' : Has (W.setCell ⟨rb, t * 8, none⟩ (.int .i64 S.value)) ⟨w.heap.size, 3, none⟩ (.slice none 0 0) := hb3.other (hne3 3)
      have c5 : (W.drew.setCells rb (t * 8) [.int .i64 S.value]).cell? ⟨w.heap.size, 3, none⟩ = some (.slice none 0 0) := hb3'.1
      have f5 : (W.drew.setCells rb (t * 8) [.int .i64 S.value]).frozen? ⟨w.heap.size, 3, none⟩ = false := hb3'.2
      have hnew : ∀ j u, [Value.int .i64 S.value][j]? = some u → W.drew.cell? ((⟨w.heap.size + 1, 0, none⟩ : Addr).add j) = some u := by
        intro j u hj
        cases j with
        | zero => simp at hj; subst hj; exact hn1.1
        | succ j => simp at hj
      have hsp : ∀ j, j < [Value.int .i64 S.value].length → (W.drew.cell? ⟨rb, t * 8 + 0 * 1 + j, none⟩).isSome = true ∧ W.drew.frozen? ⟨rb, t * 8 + 0 * 1 + j, none⟩ = false := by
        intro j hj
        obtain rfl : j = 0 := by simp at hj; omega
        refine ⟨?_, hx1.2⟩
        show (W.cell? ⟨rb, t * 8, none⟩).isSome = true
        rw [hx1.1]; rfl
      have hWk : Kept (fun q => S.kind = 2 ∧ q.block = rb ∧ t * 8 ≤ q.off ∧ q.off < t * 8 + 8) w W := by rw [hW]; exact ((Kept.refl _ _).alloc _).alloc _
      have hWb : Below w.heap.size w W := by rw [hW]; exact ((Below.refl _ _).alloc (Nat.le_refl _) _).alloc (by omega) _
      have hc0 : Cand W (.slice (some ⟨rb, t * 8, none⟩) 0 8) rb (t * 8) 8 [] := ⟨rfl, Nat.zero_le _, by decide, fun k x hx => by simp at hx, fun k hk => by
        obtain ⟨y, hy⟩ := hD.rooms h2 (t * 8 + k) (by omega)
        exact hWk.live _ _ hy⟩
      have hc1 := (hc0.into (by decide) S.value).keep (kept_set (W.setCell ⟨rb, t * 8, none⟩ (.int .i64 S.value)) ⟨w.heap.size, 3, none⟩ (.slice (some ⟨rb, t * 8, none⟩) 1 8)) (fun k _ e => by simp only [Addr.mk.injEq] at e; omega)
      have he0 : overs S 0 = ⟨1, 0, false, [S.value]⟩ := by unfold overs read0; rw [if_pos h2]
      have hneI : ∀ i j, i ≠ j → (⟨w.heap.size, i, none⟩ : Addr) ≠ ⟨w.heap.size, j, none⟩ := fun i j h e => h (by simp only [Addr.mk.injEq] at e; omega)
      have REL : Hid (∃ V0 p0, RdAt w ((W.drew.setCells rb (t * 8) [.int .i64 S.value]).setCell ⟨w.heap.size, 3, none⟩ (.slice (some ⟨rb, t * 8, none⟩) 1 8)) rb S t 0 V0 p0) := by
        refine Lib.hid ⟨.slice (some ⟨rb, t * 8, none⟩) 1 8, ⟨rb, t * 8, 8⟩, ⟨?_, fun _ => ?_, fun h => absurd h2 h, fun _ => .inl ⟨rfl, rfl, rfl⟩, ?_, fun B hB1 hB2 => ?_, fun b hb hb1 => ?_⟩⟩
        · rw [he0]
          exact ⟨(hb0.other (y := .int .i64 S.value) (hne3 0)).other (hneI 3 0 (by decide)), (hb1.other (y := .int .i64 S.value) (hne3 1)).other (hneI 3 1 (by decide)), (hb2.other (y := .int .i64 S.value) (hne3 2)).other (hneI 3 2 (by decide)), hb3'.same⟩
        · rw [he0]; exact ⟨hc1.v, hc1.le, hc1.max, hc1.at_, hc1.room⟩
        · have k1 : Kept (fun q => S.kind = 2 ∧ q.block = rb ∧ t * 8 ≤ q.off ∧ q.off < t * 8 + 8) w (W.setCell ⟨rb, t * 8, none⟩ (.int .i64 S.value)) := hWk.setCell ⟨h2, rfl, Nat.le_refl _, by simp only; omega⟩ _
          have k2 := k1.trans' (kept_set (W.setCell ⟨rb, t * 8, none⟩ (.int .i64 S.value)) ⟨w.heap.size, 3, none⟩ (.slice (some ⟨rb, t * 8, none⟩) 1 8)) (fun p hp => .inr (by subst hp; exact Nat.le_refl _))
          exact ⟨k2.has, k2.live, k2.size⟩
        · have b1 : Below B w W := hWb.mono hB2
          have b2 := (b1.setCell (p := ⟨rb, t * 8, none⟩) (hB1 h2) (.int .i64 S.value)).setCell (p := ⟨w.heap.size, 3, none⟩) hB2 (.slice (some ⟨rb, t * 8, none⟩) 1 8)
          exact ⟨b2.os, b2.tape, b2.output, b2.size, b2.block⟩
        · exact ((Below.heap_setCell _ _ _ _ (show b ≠ w.heap.size by omega)).trans (Below.heap_setCell W ⟨rb, t * 8, none⟩ _ b (hb1 h2))).trans (hWb.block b hb)
      clear hD hwk hx0 hx1 hn1 hb0 hb1 hb2 hb3 hne3 hb3' hWk hWb hc0 hc1 he0 hneI
      subst hW
      clear hsz1
      have HONE : ∀ u ∈ [Value.int .i64 S.value], u.oneCell' = true := by intro u hu; simp at hu; subst hu; rfl
      go_wp2_with fail
      go_region_law (refine step_append_room rfl (.tmp 24) (.tmp 29) 30 rfl 3 i0 1 hu hi hz1 rb (t * 8) 0 8 (by simp [Act.eval, Act.put]) ⟨w.heap.size + 1, 0, none⟩ 1 1 [.int .i64 S.value] (by simp [Act.eval, Act.put]) rfl hnew HONE (by decide) hsp ?_)
      all_goals (go_wp2_with fail; go_meet)
      all_goals exact REL.out
    · have d2 : (S.kind == 2) = false := by simp [h2]
      clear hD
      go_wp2_with fail
      go_meet
      case rel =>
        have he0 : overs S 0 = ⟨1, 0, false, []⟩ := by unfold overs read0; rw [if_neg h2]
        refine Lib.hid ⟨.slice none 0 0, ⟨0, 0, 0⟩, ⟨?_, fun h => absurd h h2, fun _ => rfl, fun h => absurd h h2, (Kept.refl _ _).alloc _, fun B _ hB => (Below.refl _ _).alloc hB _, fun b hb _ => Below.heap_alloc _ _ _ hb⟩⟩
        rw [he0]
        exact ⟨has_new _ _ _ 0 _ rfl, has_new _ _ _ 1 _ rfl, has_new _ _ _ 2 _ rfl, has_new _ _ _ 3 _ rfl⟩
  case rest =>
    have hcn : (S.d t).c = [] := by
      rcases hc : (S.d t).c with _ | ⟨x, l⟩
      · rfl
      · have := (HH.out.2.c t (by rw [hc]; simp)).2; omega
    have hrb : S.kind = 2 → rb < w.heap.size := fun h2 => by
      obtain ⟨x, hx⟩ := hD.rooms h2 0 (by omega)
      exact hx.lt
    have HC := Lib.hid (And.intro hcn hrb)
    have HV := Lib.hid (fun (k : Nat) (hk : k < 8) => hD.slot hk)
    obtain ⟨V0, p0, hR⟩ := hcut.out
    have hDx := hD.piece ht hcn hR.kept
    have HL := Lib.hid (load_arr hDx)
    have HR0 := Lib.hid (show ∃ V0 p0, RdAt w wc rb S t 0 V0 p0 from ⟨V0, p0, hR⟩)
    clear hD hDx hR hcut hcn hrb
    go_wp2_with (refine wpList_load_arr rfl _ rfl rfl HL.out ?_)
    go_loopw [36] (fun i wr => ∃ k : Nat, k ≤ 8 ∧ i = .int .i64 k ∧ Hid (∃ V0 p0, RdAt w wr rb S t k V0 p0)) (fun i _ => 8 - (intOf i).toNat)
    case atStart => exact ⟨0, by omega, rfl, HR0⟩
    case round =>
      obtain ⟨k, hk, rfl, HR⟩ := hrel
      by_cases hlt : k < 8
      · have hidx := index_arr S.d V k hlt
        obtain ⟨A, m, c, hVk⟩ := HV.out k hlt
        rw [hVk] at hidx
        clear hVk
        by_cases h1 : (S.d k).k = 2
        · have d1 : ((S.d k).k == 2) = true := by simp [h1]
          obtain ⟨V0, p0, hR⟩ := HR.out
          have HA := Lib.hid (hR.alloc (.cells #[.int .i64 2, .int .i64 (S.d k).w, .bool (S.d k).m, .slice A m c] 73))
          clear hR
          go_wp2_with fail
          refine (overlap_is _ cb w.heap.size 0 S.kind (S.d k).w (overs S k) V0 p0 ((HH.out.1.piece ht HC.out.1 HA.out.kept).kind) HA.out.acc (fun h2 => ⟨HA.out.cand h2, ?_⟩) ?_).mono ?_
          · have hr := HC.out.2 h2
            rcases HA.out.place h2 with ⟨e1, _⟩ | hp <;> omega
          · by_cases h2 : S.kind = 2
            · have := (overs_c2 S h2 k).2; omega
            · rw [overs_c0 S h2 k]; exact Nat.zero_le _
          · rintro e w' ⟨rfl, V1, p1, hO⟩
            have HN := Lib.hid (show ∃ V0 p0, RdAt w w' rb S t (k + 1) V0 p0 from ⟨V1, p1, HA.out.met h1 hO⟩)
            clear hO
            go_wp2_with fail
            go_roundw
            case rel => exact ⟨k + 1, by omega, by go_num, HN⟩
            case measure => simp [intOf]; omega
        · have d1 : ((S.d k).k == 2) = false := by simp [h1]
          go_wp2_with fail
          go_roundw
          case rel =>
            obtain ⟨V0, p0, hR⟩ := HR.out
            exact ⟨k + 1, by omega, by go_num, Lib.hid ⟨V0, p0, (hR.none_ h1).alloc _⟩⟩
          case measure => simp [intOf]; omega
      · obtain rfl : k = 8 := by omega
        obtain ⟨V0, p0, hR⟩ := HR.out
        have hD := HH.out.1.piece ht HC.out.1 hR.kept
        have hA := hD.acc t ht
        have c0 := hA.k.1
        have f0 := hA.k.2
        have c1 := hA.w_.1
        have f1 := hA.w_.2
        have c2 := hA.m.1
        have f2 := hA.m.2
        have c3 := hA.c.1
        have f3 := hA.c.2
        have e0 := hR.acc.k.1
        have e1 := hR.acc.w_.1
        have e2 := hR.acc.m.1
        have e3 := hR.acc.c.1
        obtain ⟨A, m, c, rfl⟩ := hR.slot
        have hti : (t : Int) < 8 := by omega
        have HE := Lib.hid (hR.done HH.out.1 ht HC.out.1)
        clear hA hD hR
        go_wp2_with fail
        go_region
        go_wp2_with fail
        go_end0
        exact ⟨rfl, HE.out.1.below (Below.refl _ _).drew, HE.out.2.trans (.of_below (Below.refl _ _).drew)⟩
end Go.Proofs.Ytdfkmkflcnfchaa
