/- What turns a bank in memory: a thread's place, a cell's state, one cell more in the map. Own work. -/
import Derived.Test.YtdfkmkflcnfchaaBCell
namespace Go.Proofs.Ytdfkmkflcnfchaa
open Go.ChangeShapes Go.WideShapes Go.ChangeAt Go.RowKit CellM

theorem PAt.tight' {w : World} {cb : Nat} {S : St} {F : Nat → Prop} (H : PAt w cb S F) : PAt w cb S (fun b => F b ∧ b < w.heap.size) := by
  obtain ⟨rb, V, pl, h⟩ := H
  refine ⟨rb, V, pl, h.kind, h.top, h.value, h.acc, h.room, h.rooms, h.cand, h.nil, ⟨h.cF, h.kind.lt⟩, fun h2 => ⟨h.rF h2, ?_⟩, fun t ht hc => ⟨h.pF t ht hc, (h.cand t ht hc).lt hc⟩, h.ne, h.place, h.apart⟩
  obtain ⟨x, hx⟩ := h.rooms h2 0 (by omega)
  exact hx.lt
theorem not_cell {w : World} {mb q : Nat} {D : DataW Unit} (h : w.ownsMap Try.prog 3 Rp mb q D) (i : Nat) (x : Value) : ¬ Has w ⟨mb, i, none⟩ x := by
  obtain ⟨es, clock, hb, _⟩ := h
  intro hh
  have := hh.1
  simp [World.cell?, hb] at this
theorem not_cell' {w : World} {mb q : Nat} {D : DataW Unit} (h : w.ownsMap Try.prog 3 Rp mb q D) {p : Addr} {x : Value} (hh : Has w p x) : p.block ≠ mb := by
  obtain ⟨es, clock, hb, _⟩ := h
  intro e
  have := hh.1
  rw [← e] at hb
  simp [World.cell?, hb] at this
theorem step_map {w w' : World} {mb q : Nat} {D : DataW Unit} (h : w.ownsMap Try.prog 3 Rp mb q D) (hg : w.grownBy w' (some mb)) : Step (fun b => b = mb) w w' := by
  have hblk : ∀ b, b < w.heap.size → b ≠ mb → w'.heap[b]? = w.heap[b]? := fun b hb hne => hg.block b hb (fun e => hne (by simpa using e))
  have hhas : ∀ p x, Has w p x → p.block ≠ mb → Has w' p x := fun p x hx hne =>
    ⟨(World.cell?_of_block (w := w) (hblk p.block hx.lt hne)).trans hx.1, (World.frozen?_of_block (w := w) (hblk p.block hx.lt hne)).trans hx.2⟩
  exact ⟨⟨fun p x hx hn => hhas p x hx hn, fun p x hx => ⟨x, hhas p x hx (not_cell' h hx)⟩, hg.size⟩,
    fun B hB hs => (Below.refl _ _).grown hg hs (fun k hk => by cases hk; exact hB _ rfl), hblk⟩
def setD (w : World) (bb t : Nat) (o : Option Int) : World := (w.setCell ⟨bb, 3 + t * 2, none⟩ (.int .i64 (o.getD 0))).setCell ⟨bb, 3 + t * 2 + 1, none⟩ (.bool o.isSome)
theorem setD_step {w : World} {bb t : Nat} {o : Option Int} {F : Nat → Prop} (hF : F bb) : Step F w (setD w bb t o) :=
  ((Step.refl F w).setCell (p := ⟨bb, 3 + t * 2, none⟩) (.inl hF) _).setCell (p := ⟨bb, 3 + t * 2 + 1, none⟩) (.inl hF) _
theorem setD_kept (w : World) (bb t : Nat) (o : Option Int) : Kept (fun p => p.block = bb ∧ 3 + t * 2 ≤ p.off ∧ p.off ≤ 3 + t * 2 + 1) w (setD w bb t o) :=
  ((Kept.refl _ _).setCell ⟨rfl, Nat.le_refl _, by simp only; omega⟩ _).setCell ⟨rfl, by simp only; omega, Nat.le_refl _⟩ _
section
variable {w w' : World} {bb : Nat} {X : Bk} {q : Nat} {F F' : Nat → Prop} {L : List Strip} {SA EA : Option Addr} {sh sc eh ec mb : Nat} {D : DataW Unit} {pb : Int → Nat} {Fc : Int → Nat → Prop}
theorem BAtD.setD (H : BAtD w bb X q F SA EA sh sc eh ec mb D pb Fc) {t : Nat} (ht : t < 8) (o : Option Int) : BAtD (setD w bb t o) bb ⟨X.L, X.no, X.c, upd X.d t o⟩ q F SA EA sh sc eh ec mb D pb Fc := by
  have hk := setD_kept w bb t o
  have hs : Step (fun b => b = bb) w (Go.Proofs.Ytdfkmkflcnfchaa.setD w bb t o) := setD_step rfl
  refine ⟨H.fix.keep hk (fun i hi h => by have := h.2.1; simp only at this; omega) (fun hs i h => H.fix.ns hs h.1) (fun he i h => H.fix.ne he h.1), fun u hu => ?_, ownsMap_block H.mo (hs.block _ H.mo.lt H.fix.nm), H.mp,
    fun n hn => (H.c n hn).keep hk (fun p hp hf => (H.cb n hn _ hf).1 hp.1), H.bF, H.mF, H.sF, H.eF, H.cF, H.cb, H.cc, fun n hn b hb => Nat.lt_of_lt_of_le (H.ct n hn b hb) hs.kept.size⟩
  by_cases e : u = t
  · subst e
    simp only [upd_same]
    obtain ⟨h1, h2⟩ := H.d u hu
    exact ⟨(h1.same (y := .int .i64 (o.getD 0))).other (fun e => by simp only [Addr.mk.injEq] at e; omega), (h2.other (y := .int .i64 (o.getD 0)) (fun e => by simp only [Addr.mk.injEq] at e; omega)).same⟩
  · simp only [upd_other _ _ _ e]
    obtain ⟨h1, h2⟩ := H.d u hu
    exact ⟨hk.has _ _ h1 (fun h => by have h1 := h.2.1; have h2 := h.2.2; simp only at h1 h2; omega), hk.has _ _ h2 (fun h => by have h1 := h.2.1; have h2 := h.2.2; simp only at h1 h2; omega)⟩
/-- A call of a cell that was used. -/
theorem BAtD.cell (H : BAtD w bb X q F SA EA sh sc eh ec mb D pb Fc) {n : Int} (hn : n ∈ X.no) {S' : St} (hN : Now w w' (pb n) S' (Fc n)) :
    BAtD w' bb ⟨X.L, X.no, updZ X.c n S', X.d⟩ q (More w F) SA EA sh sc eh ec mb D pb (updZ Fc n (fun b => More w (Fc n) b ∧ b < w'.heap.size)) := by
  have hk := hN.step.kept
  have hcb := H.cb n hn
  have hbb : bb < w.heap.size := H.fix.s.lt
  have hmb := H.mo.lt
  have hP := hN.at_
  have hT : ∀ b, More w (Fc n) b → b ≠ bb ∧ b ≠ mb ∧ (sc ≠ 0 → b ≠ sh) ∧ (ec ≠ 0 → b ≠ eh) := fun b hb => by
    rcases hb with hb | hb
    · exact hcb b hb
    · refine ⟨by omega, by omega, fun h => ?_, fun h => ?_⟩
      · have := H.fix.rs.lt (by decide) h; omega
      · have := H.fix.re.lt (by decide) h; omega
  refine ⟨H.fix.keep hk (fun _ _ h => (hcb _ h).1 rfl) (fun hs _ h => (hcb _ h).2.2.1 hs rfl) (fun he _ h => (hcb _ h).2.2.2 he rfl),
    fun t ht => ⟨hk.has _ _ (H.d t ht).1 (fun h => (hcb _ h).1 rfl), hk.has _ _ (H.d t ht).2 (fun h => (hcb _ h).1 rfl)⟩,
    ownsMap_block H.mo (hN.step.block _ hmb (fun h => (hcb _ h).2.1 rfl)), H.mp, fun i hi => ?_, .inl H.bF, .inl H.mF, fun h => .inl (H.sF h), fun h => .inl (H.eF h), fun i hi b hb => ?_, fun i hi b hb => ?_, fun i hi j hj hij b hb hb' => ?_, fun i hi b hb => ?_⟩
  · by_cases e : i = n
    · subst e; simp only [updZ_same]; exact hP.tight'
    · simp only [updZ_other _ _ _ e]
      exact (H.c i hi).keep hk (fun p hp hf => H.cc i hi n hn e _ hf hp)
  · by_cases e : i = n
    · subst e; simp only [updZ_same] at hb
      rcases hb.1 with h | h
      · exact .inl (H.cF _ hi _ h)
      · exact .inr h
    · rw [updZ_other _ _ _ e] at hb; exact .inl (H.cF _ hi _ hb)
  · by_cases e : i = n
    · subst e; simp only [updZ_same] at hb; exact hT b hb.1
    · rw [updZ_other _ _ _ e] at hb; exact H.cb _ hi _ hb
  · by_cases e : i = n
    · subst e
      rw [updZ_same] at hb
      rw [updZ_other _ _ _ (fun h => hij h.symm)] at hb'
      rcases hb.1 with h | h
      · exact H.cc i hi j hj hij b h hb'
      · have := H.ct j hj b hb'; omega
    · rw [updZ_other _ _ _ e] at hb
      by_cases e' : j = n
      · subst e'
        rw [updZ_same] at hb'
        rcases hb'.1 with h | h
        · exact H.cc i hi j hj hij b hb h
        · have := H.ct i hi b hb; omega
      · rw [updZ_other _ _ _ e'] at hb'
        exact H.cc i hi j hj hij b hb hb'
  · by_cases e : i = n
    · subst e; simp only [updZ_same] at hb; exact hb.2
    · rw [updZ_other _ _ _ e] at hb; exact Nat.lt_of_lt_of_le (H.ct i hi b hb) hk.size
theorem updZ_self {α : Type} (f : Int → α) (n : Int) : updZ f n (f n) = f := by
  unfold updZ; funext i; split <;> simp_all
theorem addN_in {no : List Int} {n : Int} (h : n ∈ no) : addN no n = no := by unfold addN; rw [if_pos h]
/-- A store into the map. -/
theorem BAtD.store (H : BAtD w bb X q F SA EA sh sc eh ec mb D pb Fc) (hq : q < 1000000) {n : Int} (h0 : 0 ≤ n) (h1 : n ≤ 1000000) {p : Nat} {S' : St} {G : Nat → Prop} (hP : PAt w p S' G)
    (hG : ∀ b, G b → b ≠ bb ∧ b ≠ mb ∧ (sc ≠ 0 → b ≠ sh) ∧ (ec ≠ 0 → b ≠ eh)) (hGF : ∀ b, G b → F b) (hGt : ∀ b, G b → b < w.heap.size) (hGc : ∀ i ∈ X.no, i ≠ n → ∀ b, G b → ¬ Fc i b) :
    ∃ w', (Instr.mapUpdate 54 (.map (some mb)) (.int .i64 n) (.pointer (some ⟨p, 0, none⟩))).run Try.prog w = .ok () w' ∧ Step (fun b => b = mb) w w' ∧
      BAtD w' bb ⟨X.L, addN X.no n, updZ X.c n S', X.d⟩ (q + 1) F SA EA sh sc eh ec mb (D.put (.int .i64 n) (.lit (.int .i64 p))) (updZ pb n p) (updZ Fc n G) := by
  have hwf : (Lit.int .i64 n).wf = true := WalkArith.wf_i64 (by omega)
  obtain ⟨w', hrun, hown, hg⟩ := H.mo.update keyedI underM (by unfold maxLen; omega) (keyI hwf) (Rp_some p)
  have hs := step_map H.mo hg
  have hk := hs.kept
  refine ⟨w', hrun, hs, H.fix.keep hk (fun _ _ h => H.fix.nm h.symm) (fun _ i h => ?_) (fun _ i h => ?_), fun t ht => ⟨hk.has _ _ (H.d t ht).1 (fun h => H.fix.nm h.symm), hk.has _ _ (H.d t ht).2 (fun h => H.fix.nm h.symm)⟩,
    hown, H.mp.put n p, fun i hi => ?_, H.bF, H.mF, H.sF, H.eF, fun i hi b hb => ?_, fun i hi b hb => ?_, fun i hi j hj hij b hb hb' => ?_, fun i hi b hb => ?_⟩
  · obtain ⟨x, hx⟩ := H.fix.rs.room 0 (by omega)
    exact not_cell' H.mo hx h
  · obtain ⟨x, hx⟩ := H.fix.re.room 0 (by omega)
    exact not_cell' H.mo hx h
  · by_cases e : i = n
    · subst e; simp only [updZ_same]; exact hP.keep hk (fun b hb hf => (hG _ hf).2.1 hb)
    · simp only [updZ_other _ _ _ e]
      rcases mem_addN.1 hi with hi | hi
      · exact (H.c i hi).keep hk (fun b hb hf => (H.cb i hi _ hf).2.1 hb)
      · exact absurd hi e
  · by_cases e : i = n
    · subst e; rw [updZ_same] at hb; exact hGF b hb
    · rw [updZ_other _ _ _ e] at hb
      rcases mem_addN.1 hi with hi | hi
      · exact H.cF i hi b hb
      · exact absurd hi e
  · by_cases e : i = n
    · subst e; rw [updZ_same] at hb; exact hG b hb
    · rw [updZ_other _ _ _ e] at hb
      rcases mem_addN.1 hi with hi | hi
      · exact H.cb i hi b hb
      · exact absurd hi e
  · by_cases e : i = n
    · subst e
      rw [updZ_same] at hb
      rw [updZ_other _ _ _ (fun h => hij h.symm)] at hb'
      rcases mem_addN.1 hj with hj | hj
      · exact hGc j hj (fun h => hij h.symm) b hb hb'
      · exact hij hj.symm
    · rw [updZ_other _ _ _ e] at hb
      rcases mem_addN.1 hi with hi | hi
      · by_cases e' : j = n
        · subst e'
          rw [updZ_same] at hb'
          exact hGc i (by assumption) e b hb' hb
        · rw [updZ_other _ _ _ e'] at hb'
          rcases mem_addN.1 hj with hj | hj
          · exact H.cc i hi j hj hij b hb hb'
          · exact e' hj
      · exact e hi
  · by_cases e : i = n
    · subst e; rw [updZ_same] at hb; exact Nat.lt_of_lt_of_le (hGt b hb) hk.size
    · rw [updZ_other _ _ _ e] at hb
      rcases mem_addN.1 hi with hi | hi
      · exact Nat.lt_of_lt_of_le (H.ct i hi b hb) hk.size
      · exact absurd hi e
end
end Go.Proofs.Ytdfkmkflcnfchaa
