/- The reference's bank in memory: which cells were used, and the cells; place, Busy, Value. Own work. -/
import Derived.Test.YtdfkmkflcnfchaaTwo9
import Derived.Test.YtdfkmkflcnfchaaRBegW8
import Derived.Test.YtdfkmkflcnfchaaREnd8
namespace Go.Proofs.Ytdfkmkflcnfchaa
open Go.ChangeShapes Go.WideShapes Go.ChangeAt Go.RowKit CellM

/-! mathematics -/
def placeI (no : List Int) (n : Int) : Int := match no.findIdx? (fun x => x == n) with
  | some i => i
  | none => -1
theorem place_at {no : List Int} {n : Int} {i : Nat} (hi : i < no.length) (h : no[i] = n) (hb : ∀ j (hj : j < no.length), j < i → no[j] ≠ n) : placeI no n = i := by
  have : no.findIdx? (fun x => x == n) = some i := by
    rw [List.findIdx?_eq_some_iff_getElem]
    exact ⟨hi, by simp [h], fun j hj => by simp [hb j (by omega) hj]⟩
  unfold placeI; rw [this]
theorem place_no {no : List Int} {n : Int} (hb : ∀ j (hj : j < no.length), no[j] ≠ n) : placeI no n = -1 := by
  have : no.findIdx? (fun x => x == n) = none := by
    rw [List.findIdx?_eq_none_iff]
    intro x hx
    obtain ⟨j, hj, rfl⟩ := List.mem_iff_getElem.1 hx
    simp [hb j hj]
  unfold placeI; rw [this]
theorem place_in {no : List Int} {n : Int} (h : n ∈ no) : ∃ i, ∃ (hi : i < no.length), placeI no n = i ∧ no[i] = n := by
  cases hf : no.findIdx? (fun x => x == n) with
  | none =>
    rw [List.findIdx?_eq_none_iff] at hf
    have := hf n h
    simp at this
  | some i =>
    have h2 := hf
    rw [List.findIdx?_eq_some_iff_getElem] at h2
    obtain ⟨hi, h3, _⟩ := h2
    exact ⟨i, hi, by unfold placeI; rw [hf], by simpa using h3⟩
theorem place_out {no : List Int} {n : Int} (h : n ∉ no) : placeI no n = -1 := place_no (fun _ hj e => h (e ▸ List.getElem_mem hj))
def isAt (R : Int → Rs) (t n : Int) : Bool := decide (0 ≤ findA (R n).L t)
def busyRI (no : List Int) (R : Int → Rs) (t : Int) : Int := match no.find? (isAt R t) with
  | some n => n
  | none => -1
theorem busyRI_at {no : List Int} {R : Int → Rs} {t : Int} {i : Nat} (hi : i < no.length) (h : isAt R t no[i] = true) (hb : ∀ j (hj : j < no.length), j < i → isAt R t no[j] = false) : busyRI no R t = no[i] := by
  have : no.find? (isAt R t) = some no[i] := by
    rw [List.find?_eq_some_iff_getElem]
    exact ⟨h, i, hi, rfl, fun j hj => by simp [hb j (by omega) hj]⟩
  unfold busyRI; rw [this]
theorem busyRI_no {no : List Int} {R : Int → Rs} {t : Int} (hb : ∀ j (hj : j < no.length), isAt R t no[j] = false) : busyRI no R t = -1 := by
  have : no.find? (isAt R t) = none := by
    rw [List.find?_eq_none]
    intro x hx
    obtain ⟨j, hj, rfl⟩ := List.mem_iff_getElem.1 hx
    simp [hb j hj]
  unfold busyRI; rw [this]
def newRC (L : List Strip) (n : Int) : Rs := match (if n < 0 then none else stripAt L n) with
  | some s => newR s.kind s.top
  | none => newR 0 0
theorem newC_sim (L : List Strip) (n : Int) : Sim (newC L n) (newRC L n) := by
  unfold newC newRC
  cases (if n < 0 then none else stripAt L n) with
  | none => exact sim_new _ _
  | some s => exact sim_new _ _
/-- The reference follows the bank. -/
structure SimB (X : Bk) (R : Int → Rs) (k : Nat) : Prop where
  good : GoodB X (9 * k)
  sim : ∀ n, Sim (X.c n) (R n)
  len : ∀ n, (R n).L.length ≤ k ∧ 0 ≤ (R n).now ∧ (R n).now ≤ k
  fresh : ∀ n, n ∉ X.no → R n = newRC X.L n
  nol : X.no.length ≤ k
theorem newR_len (L : List Strip) (n : Int) : (newRC L n).L.length ≤ 0 ∧ 0 ≤ (newRC L n).now ∧ (newRC L n).now ≤ 0 := by
  unfold newRC
  split <;> exact ⟨Nat.le_refl _, Int.le_refl _, Int.le_refl _⟩
theorem simB_new {L : List Strip} (h : errS L = 0) : SimB (newB L) (newRC L) 0 := ⟨newB_good h, newC_sim L, newR_len L, fun _ _ => rfl, Nat.le_refl _⟩
section
variable {X : Bk} {R : Int → Rs} {i : Nat} {t k cl v draw : Int}
theorem SimB.at_ (h : SimB X R i) (t n : Int) : isAt R t n = true ↔ busyB X t = some n := by
  unfold isAt
  rw [decide_eq_true_iff]
  have hf : 0 ≤ findA (R n).L t ↔ findO (R n).L t ≠ none := by
    have := @findA_neg (R n).L t
    constructor
    · intro h1 h2; have := this.2 h2; omega
    · intro h1
      have h3 : ¬ findA (R n).L t < 0 := fun hh => h1 (this.1 hh)
      omega
  rw [hf]
  by_cases ht : isT t = true
  · obtain ⟨g0, g8⟩ := isT_iff ht
    obtain ⟨j, rfl⟩ := Int.eq_ofNat_of_zero_le g0
    have hj : j < 8 := by omega
    have hb : busyB X (j : Int) = X.d j := by unfold busyB; rw [if_pos ht, show ((j : Int)).toNat = j by omega]
    rw [hb, ← h.good.busy j n hj]
    have := (h.sim n).find j
    constructor
    · intro h1 h2; exact h1 (this.1 h2)
    · intro h1 h2; exact h1 (this.2 h2)
  · have hb : busyB X t = none := by unfold busyB; rw [if_neg ht]
    rw [hb]
    have := (h.sim n).no_thread (t := t) (fun hh => ht (by unfold isT; simp; omega))
    constructor
    · intro h1; exact absurd this h1
    · intro h1; cases h1
theorem SimB.used (h : SimB X R i) {n : Int} (hb : busyB X t = some n) : n ∈ X.no := by
  obtain ⟨ht, hd⟩ := busyB_some hb
  obtain ⟨g0, g8⟩ := isT_iff ht
  exact h.good.used _ n (by omega) hd
theorem SimB.busy (h : SimB X R i) (t : Int) : busyRI X.no R t = match busyB X t with
    | some n => n
    | none => -1 := by
  cases hb : busyB X t with
  | none =>
    refine busyRI_no (fun j hj => ?_)
    cases e : isAt R t X.no[j]
    · rfl
    · rw [h.at_, hb] at e; cases e
  | some n =>
    obtain ⟨j, hj, rfl⟩ := List.mem_iff_getElem.1 (h.used hb)
    refine busyRI_at hj ((h.at_ t _).2 hb) (fun u hu huj => ?_)
    cases e : isAt R t X.no[u]
    · rfl
    · rw [h.at_, hb] at e
      have e2 : X.no[j] = X.no[u] := by simpa using e
      have := (List.pairwise_iff_getElem.1 h.good.nodup) u j hu hj huj
      exact absurd e2.symm this
def rbeg (X : Bk) (R : Int → Rs) (t k cl v : Int) : Int → Rs := if errBB X t k cl ≠ 0 then R else updZ R cl (begr (R cl) t k cl v)
def rfin (X : Bk) (R : Int → Rs) (t : Int) : Int → Rs := match busyB X t with
  | none => R
  | some n => updZ R n (endr (R n) t)
theorem begr_len (r : Rs) (t k c v : Int) : (begr r t k c v).L.length ≤ r.L.length + 1 ∧ r.now ≤ (begr r t k c v).now ∧ (begr r t k c v).now ≤ r.now + 1 := by
  unfold begr
  split
  · exact ⟨by omega, by omega, by omega⟩
  · simp only [List.length_append, List.length_cons, List.length_nil]; omega
theorem endr_len (r : Rs) (t : Int) : (endr r t).L.length ≤ r.L.length ∧ r.now ≤ (endr r t).now ∧ (endr r t).now ≤ r.now + 1 := by
  unfold endr
  split
  · exact ⟨by omega, by omega, by omega⟩
  · simp only [endL, List.length_set]; omega
theorem SimB.beg (h : SimB X R i) (t k cl v : Int) : SimB (begBB X t k cl v) (rbeg X R t k cl v) (i + 1) := by
  have hg := (h.good.beg t k cl v).mono (m' := 9 * (i + 1)) (by omega)
  by_cases he : errBB X t k cl = 0
  · have hr : rbeg X R t k cl v = updZ R cl (begr (R cl) t k cl v) := by unfold rbeg; rw [if_neg (by rw [he]; simp)]
    rw [hr]
    refine ⟨hg, ?_, ?_, ?_, ?_⟩
    all_goals try rw [begBB_ok he]
    · intro n
      by_cases e : n = cl
      · subst e; simp only [updZ_same]; exact (h.sim n).beg _ _ _ _
      · simp only [updZ_other _ _ _ e]; exact h.sim n
    · intro n
      obtain ⟨l1, l2, l3⟩ := h.len n
      by_cases e : n = cl
      · subst e; simp only [updZ_same]
        have := begr_len (R n) t k n v
        omega
      · simp only [updZ_other _ _ _ e]; omega
    · intro n hn
      have hn' : n ∉ X.no ∧ n ≠ cl := ⟨fun hh => hn (mem_addN.2 (.inl hh)), fun hh => hn (mem_addN.2 (.inr hh))⟩
      simp only [updZ_other _ _ _ hn'.2]; exact h.fresh n hn'.1
    · have := addN_len X.no cl
      have := h.nol
      simp only; omega
  · have hr : rbeg X R t k cl v = R := by unfold rbeg; rw [if_pos he]
    rw [hr]
    refine ⟨hg, ?_, ?_, ?_, ?_⟩
    all_goals try rw [begBB_bad he]
    · exact h.sim
    · intro n; obtain ⟨l1, l2, l3⟩ := h.len n; omega
    · exact h.fresh
    · have := h.nol; omega
theorem SimB.fin (h : SimB X R i) (t : Int) : SimB (finBB X t) (rfin X R t) (i + 1) := by
  have hg := (h.good.fin t).mono (m' := 9 * (i + 1)) (by omega)
  cases hb : busyB X t with
  | none =>
    have hr : rfin X R t = R := by unfold rfin; rw [hb]
    rw [hr]
    refine ⟨hg, ?_, ?_, ?_, ?_⟩
    all_goals try rw [finBB_none hb]
    · exact h.sim
    · intro n; obtain ⟨l1, l2, l3⟩ := h.len n; omega
    · exact h.fresh
    · have := h.nol; omega
  | some c =>
    have hr : rfin X R t = updZ R c (endr (R c) t) := by unfold rfin; rw [hb]
    rw [hr]
    refine ⟨hg, ?_, ?_, ?_, ?_⟩
    all_goals try rw [finBB_some hb]
    · intro n
      by_cases e : n = c
      · subst e; simp only [updZ_same]; exact (h.sim n).fin _
      · simp only [updZ_other _ _ _ e]; exact h.sim n
    · intro n
      obtain ⟨l1, l2, l3⟩ := h.len n
      by_cases e : n = c
      · subst e; simp only [updZ_same]
        have := endr_len (R n) t
        omega
      · simp only [updZ_other _ _ _ e]; omega
    · intro n hn
      have : n ≠ c := fun e => hn (by rw [e]; exact h.used hb)
      simp only [updZ_other _ _ _ this]; exact h.fresh n hn
    · have := h.nol; simp only; omega
theorem SimB.value (h : SimB X R i) (n : Int) : (R n).value = (X.c n).value := (h.sim n).value.symm
end

/-! memory -/
def ptrs (no : List Int) (rp : Int → Nat) : List Value := no.map fun n => .pointer (some ⟨rp n, 0, none⟩)
structure RBAtD (w : World) (rb : Nat) (SV : Value) (no : List Int) (R : Int → Rs) (G : Nat → Prop) (NA CA : Option Addr) (nh nc ch cc : Nat) (rp : Int → Nat) (Gc : Int → Nat → Prop) : Prop where
  l : Has w ⟨rb, 0, none⟩ SV
  n : Has w ⟨rb, 1, none⟩ (.slice NA no.length nc)
  k : Has w ⟨rb, 2, none⟩ (.slice CA no.length cc)
  rn : RowK w 1 NA nh nc no.length (valsI no)
  rk : RowK w 1 CA ch cc no.length (ptrs no rp)
  c : ∀ n ∈ no, ∃ A h c, RAt w (rp n) (R n) A h c (Gc n)
  rG : G rb
  nG : nc ≠ 0 → G nh ∧ nh ≠ rb
  kG : cc ≠ 0 → G ch ∧ ch ≠ rb
  nk : nc ≠ 0 → cc ≠ 0 → nh ≠ ch
  cG : ∀ n ∈ no, ∀ b, Gc n b → G b ∧ b ≠ rb ∧ (nc ≠ 0 → b ≠ nh) ∧ (cc ≠ 0 → b ≠ ch)
  dj : ∀ n ∈ no, ∀ n' ∈ no, n ≠ n' → ∀ b, Gc n b → ¬ Gc n' b
  ct : ∀ n ∈ no, ∀ b, Gc n b → b < w.heap.size
def RBAt (w : World) (rb : Nat) (SV : Value) (no : List Int) (R : Int → Rs) (G : Nat → Prop) : Prop := ∃ NA CA nh nc ch cc rp Gc, RBAtD w rb SV no R G NA CA nh nc ch cc rp Gc
section
variable {w w' : World} {rb : Nat} {SV : Value} {no : List Int} {R : Int → Rs} {G G' : Nat → Prop} {NA CA : Option Addr} {nh nc ch cc : Nat} {rp : Int → Nat} {Gc : Int → Nat → Prop}
theorem ptrs_at {k : Nat} (hk : k < no.length) : (ptrs no rp)[k]? = some (.pointer (some ⟨rp no[k], 0, none⟩)) := by unfold ptrs; simp [hk]
theorem RBAtD.mono (H : RBAtD w rb SV no R G NA CA nh nc ch cc rp Gc) (hG : ∀ b, G b → G' b) : RBAtD w rb SV no R G' NA CA nh nc ch cc rp Gc :=
  ⟨H.l, H.n, H.k, H.rn, H.rk, H.c, hG _ H.rG, fun h => ⟨hG _ (H.nG h).1, (H.nG h).2⟩, fun h => ⟨hG _ (H.kG h).1, (H.kG h).2⟩, H.nk, fun n hn b hb => ⟨hG _ (H.cG n hn b hb).1, (H.cG n hn b hb).2⟩, H.dj, H.ct⟩
theorem RBAtD.keep (H : RBAtD w rb SV no R G NA CA nh nc ch cc rp Gc) {F : Nat → Prop} (hk : Step F w w') (hF : ∀ b, F b → ¬ G b) : RBAtD w' rb SV no R G NA CA nh nc ch cc rp Gc :=
  ⟨hk.kept.has _ _ H.l (fun h => hF _ h H.rG), hk.kept.has _ _ H.n (fun h => hF _ h H.rG), hk.kept.has _ _ H.k (fun h => hF _ h H.rG),
    H.rn.keep hk.kept (fun _ hj h => hF _ h (H.nG (fun e => by subst e; omega)).1), H.rk.keep hk.kept (fun _ hj h => hF _ h (H.kG (fun e => by subst e; omega)).1),
    fun n hn => by
      obtain ⟨A, h, c, hr⟩ := H.c n hn
      exact ⟨A, h, c, hr.keep hk.kept (fun _ hp hg => hF _ hp (H.cG n hn _ hg).1)⟩,
    H.rG, H.nG, H.kG, H.nk, H.cG, H.dj, fun n hn b hb => Nat.lt_of_lt_of_le (H.ct n hn b hb) hk.kept.size⟩
theorem RBAtD.below (H : RBAtD w rb SV no R G NA CA nh nc ch cc rp Gc) (hb : Below w.heap.size w w') : RBAtD w' rb SV no R G NA CA nh nc ch cc rp Gc := H.keep (F := fun _ => False) (.of_below hb) (fun _ h => h.elim)
theorem RBAt.mono (H : RBAt w rb SV no R G) (hG : ∀ b, G b → G' b) : RBAt w rb SV no R G' := by
  obtain ⟨NA, CA, nh, nc, ch, cc, rp, Gc, H⟩ := H
  exact ⟨NA, CA, nh, nc, ch, cc, rp, Gc, H.mono hG⟩
theorem RBAt.keep (H : RBAt w rb SV no R G) {F : Nat → Prop} (hk : Step F w w') (hF : ∀ b, F b → ¬ G b) : RBAt w' rb SV no R G := by
  obtain ⟨NA, CA, nh, nc, ch, cc, rp, Gc, H⟩ := H
  exact ⟨NA, CA, nh, nc, ch, cc, rp, Gc, H.keep hk hF⟩
theorem RBAt.tight (H : RBAt w rb SV no R G) : RBAt w rb SV no R (fun b => G b ∧ b < w.heap.size) := by
  obtain ⟨NA, CA, nh, nc, ch, cc, rp, Gc, H⟩ := H
  exact ⟨NA, CA, nh, nc, ch, cc, rp, Gc, H.l, H.n, H.k, H.rn, H.rk, H.c, ⟨H.rG, H.l.lt⟩, fun h => ⟨⟨(H.nG h).1, H.rn.lt (by decide) h⟩, (H.nG h).2⟩, fun h => ⟨⟨(H.kG h).1, H.rk.lt (by decide) h⟩, (H.kG h).2⟩, H.nk, fun n hn b hb => ⟨⟨(H.cG n hn b hb).1, H.ct n hn b hb⟩, (H.cG n hn b hb).2⟩, H.dj, H.ct⟩
end
def RBP (rb : Nat) (SV : Value) (no : List Int) (R : Int → Rs) : World → (Nat → Prop) → Prop := fun w G => RBAt w rb SV no R G
theorem rbp_frames (rb : Nat) (SV : Value) (no : List Int) (R : Int → Rs) : Frames (RBP rb SV no R) := ⟨fun h hs hd => RBAt.keep h hs hd, fun h => RBAt.tight h⟩
end Go.Proofs.Ytdfkmkflcnfchaa
