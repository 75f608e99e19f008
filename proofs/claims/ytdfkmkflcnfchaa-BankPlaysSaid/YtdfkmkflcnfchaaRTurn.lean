/- The reference's bank: one cell more. Own work. -/
import Derived.Test.YtdfkmkflcnfchaaREndB
namespace Go.Proofs.Ytdfkmkflcnfchaa
open Go.ChangeShapes Go.WideShapes Go.ChangeAt Go.RowKit CellM

theorem step_ontoK {w w' : World} {v' : Value} {k : Nat} {A : Option Addr} {h c n : Nat} {xs ys : List Value} {G : Nat → Prop} (hO : OntoK w w' v' k A h c n xs ys) (hG : c ≠ 0 → G h) : Step G w w' :=
  ⟨hO.kept.mono (fun p hp => by rw [hp.2]; exact hG (by omega)), fun B hB hw => hO.below B (fun hc => hB _ (hG (by omega))) hw, fun b hb hf => hO.block b hb (fun hc e => hf (e ▸ hG (by omega)))⟩
/-- The number stands among those that were used, the cell is still to come. -/
structure RMid (w : World) (rb : Nat) (SV : Value) (no : List Int) (cl : Int) (R : Int → Rs) (G : Nat → Prop) (NA CA : Option Addr) (nh nc ch cc : Nat) (rp : Int → Nat) (Gc : Int → Nat → Prop) : Prop where
  l : Has w ⟨rb, 0, none⟩ SV
  n : Has w ⟨rb, 1, none⟩ (.slice NA (no.length + 1) nc)
  k : Has w ⟨rb, 2, none⟩ (.slice CA no.length cc)
  rn : RowK w 1 NA nh nc (no.length + 1) (valsI (no ++ [cl]))
  rk : RowK w 1 CA ch cc no.length (ptrs no rp)
  c : ∀ n ∈ no, ∃ A h c, RAt w (rp n) (R n) A h c (Gc n)
  rG : G rb
  nG : nc ≠ 0 → G nh ∧ nh ≠ rb
  kG : cc ≠ 0 → G ch ∧ ch ≠ rb
  nk : nc ≠ 0 → cc ≠ 0 → nh ≠ ch
  cG : ∀ n ∈ no, ∀ b, Gc n b → G b ∧ b ≠ rb ∧ (nc ≠ 0 → b ≠ nh) ∧ (cc ≠ 0 → b ≠ ch)
  dj : ∀ n ∈ no, ∀ n' ∈ no, n ≠ n' → ∀ b, Gc n b → ¬ Gc n' b
  ct : ∀ n ∈ no, ∀ b, Gc n b → b < w.heap.size
section
variable {w w' : World} {rb : Nat} {SV : Value} {no : List Int} {cl : Int} {R : Int → Rs} {G : Nat → Prop} {NA CA : Option Addr} {nh nc ch cc : Nat} {rp : Int → Nat} {Gc : Int → Nat → Prop}
theorem RBAtD.pushN (H : RBAtD w rb SV no R G NA CA nh nc ch cc rp Gc) {v' : Value} (hO : OntoK w w' v' 1 NA nh nc no.length (valsI no) [.int .i64 cl]) :
    ∃ NA' nh' nc', v' = .slice NA' (no.length + 1) nc' ∧ RMid (w'.setCell ⟨rb, 1, none⟩ v') rb SV no cl R (More w G) NA' CA nh' nc' ch cc rp Gc ∧ Has w' ⟨rb, 1, none⟩ (.slice NA no.length nc) ∧ Step G w (w'.setCell ⟨rb, 1, none⟩ v') := by
  obtain ⟨NA', nh', nc', hv, hr, hpl⟩ := hO.ex
  have hrb : rb < w.heap.size := H.l.lt
  have hk' := hO.kept
  have hne : ∀ i, ¬ (no.length < nc ∧ (⟨rb, i, none⟩ : Addr).block = nh) := fun i hh => (H.nG (by omega)).2 hh.2.symm
  have he := hk'.has _ _ H.n (hne 1)
  have h2 := kept_set w' ⟨rb, 1, none⟩ v'
  have h0 : ∀ i, i ≠ 1 → ¬ ((⟨rb, i, none⟩ : Addr) = ⟨rb, 1, none⟩) := fun i hi e => hi (by simp only [Addr.mk.injEq] at e; omega)
  have hnG : nc' ≠ 0 → More w G nh' ∧ nh' ≠ rb := fun _ => by
    rcases hpl with ⟨rfl, _, h⟩ | ⟨_, h⟩
    · exact ⟨.inl (H.nG (by omega)).1, (H.nG (by omega)).2⟩
    · exact ⟨.inr h, by omega⟩
  have hnk : nc' ≠ 0 → cc ≠ 0 → nh' ≠ ch := fun _ hc => by
    rcases hpl with ⟨rfl, _, h⟩ | ⟨_, h⟩
    · exact H.nk (by omega) hc
    · have := H.rk.lt (by decide) hc; omega
  have hst : Step G w w' := step_ontoK hO (fun h => (H.nG h).1)
  have hcb : ∀ n ∈ no, ∀ b, Gc n b → nc' ≠ 0 → b ≠ nh' := fun n hn b hb _ => by
    rcases hpl with ⟨rfl, _, h⟩ | ⟨_, h⟩
    · exact (H.cG n hn b hb).2.2.1 (by omega)
    · have := H.ct n hn b hb; omega
  refine ⟨NA', nh', nc', hv, ⟨h2.has _ _ (hk'.has _ _ H.l (hne 0)) (h0 0 (by omega)), by rw [← hv]; exact he.same, h2.has _ _ (hk'.has _ _ H.k (hne 2)) (h0 2 (by omega)), ?_, (H.rk.keep hk' (fun j hj hh => H.nk (by omega) (fun e => by subst e; omega) hh.2.symm)).keep h2 (fun j hj e => (H.kG (fun e => by subst e; omega)).2 (by simp only [Addr.mk.injEq] at e; exact e.1)),
    fun n hn => ?_, .inl H.rG, hnG, fun h => ⟨.inl (H.kG h).1, (H.kG h).2⟩, hnk, fun n hn b hb => ⟨.inl (H.cG n hn b hb).1, (H.cG n hn b hb).2.1, hcb n hn b hb, (H.cG n hn b hb).2.2.2⟩, H.dj, fun n hn b hb => Nat.lt_of_lt_of_le (H.ct n hn b hb) (Nat.le_trans hk'.size h2.size)⟩, he, hst.setCell (p := ⟨rb, 1, none⟩) (.inl H.rG) v'⟩
  · have e : valsI (no ++ [cl]) = valsI no ++ [.int .i64 cl] := by unfold valsI; simp
    rw [e]
    exact hr.keep h2 (fun j hj e => (hnG (fun e => by subst e; omega)).2 (by simp only [Addr.mk.injEq] at e; exact e.1))
  · obtain ⟨A, h, c, hr⟩ := H.c n hn
    exact ⟨A, h, c, (hr.keep hk' (fun p hp hg => (H.cG n hn _ hg).2.2.1 (by omega) hp.2)).keep h2 (fun p hp hg => (H.cG n hn _ hg).2.1 (by rw [hp]))⟩
theorem RMid.keep (H : RMid w rb SV no cl R G NA CA nh nc ch cc rp Gc) (hb : Below w.heap.size w w') : RMid w' rb SV no cl R G NA CA nh nc ch cc rp Gc :=
  ⟨H.l.below hb H.l.lt, H.n.below hb H.n.lt, H.k.below hb H.k.lt, H.rn.below hb, H.rk.below hb, fun n hn => by
    obtain ⟨A, h, c, hr⟩ := H.c n hn
    exact ⟨A, h, c, hr.below hb⟩, H.rG, H.nG, H.kG, H.nk, H.cG, H.dj, fun n hn b hb' => Nat.lt_of_lt_of_le (H.ct n hn b hb') hb.size⟩
/-- The new cell's pointer stands behind the others. -/
theorem RMid.pushK (H : RMid w rb SV no cl R G NA CA nh nc ch cc rp Gc) (hcl : cl ∉ no) {g : Nat} {r : Rs} (hR : R cl = r) {Gn : Nat → Prop} {A : Option Addr} {h c : Nat} (hr : RAt w g r A h c Gn) (hg : ∀ b, Gn b → b < w.heap.size ∧ b ≠ rb ∧ (nc ≠ 0 → b ≠ nh) ∧ (cc ≠ 0 → b ≠ ch) ∧ G b) (hgc : ∀ n ∈ no, ∀ b, Gn b → ¬ Gc n b)
    {v' : Value} (hO : OntoK w w' v' 1 CA ch cc no.length (ptrs no rp) [.pointer (some ⟨g, 0, none⟩)]) :
    ∃ CA' ch' cc', v' = .slice CA' (no.length + 1) cc' ∧ RBAtD (w'.setCell ⟨rb, 2, none⟩ v') rb SV (no ++ [cl]) R (More w G) NA CA' nh nc ch' cc' (updZ rp cl g) (updZ Gc cl Gn) ∧ Has w' ⟨rb, 2, none⟩ (.slice CA no.length cc) ∧ Step G w (w'.setCell ⟨rb, 2, none⟩ v') := by
  obtain ⟨CA', ch', cc', hv, hrr, hpl⟩ := hO.ex
  have hrb : rb < w.heap.size := H.l.lt
  have hk' := hO.kept
  have hne : ∀ i, ¬ (no.length < cc ∧ (⟨rb, i, none⟩ : Addr).block = ch) := fun i hh => (H.kG (by omega)).2 hh.2.symm
  have he := hk'.has _ _ H.k (hne 2)
  have h2 := kept_set w' ⟨rb, 2, none⟩ v'
  have h0 : ∀ i, i ≠ 2 → ¬ ((⟨rb, i, none⟩ : Addr) = ⟨rb, 2, none⟩) := fun i hi e => hi (by simp only [Addr.mk.injEq] at e; omega)
  have hkG : cc' ≠ 0 → More w G ch' ∧ ch' ≠ rb := fun _ => by
    rcases hpl with ⟨rfl, _, h⟩ | ⟨_, h⟩
    · exact ⟨.inl (H.kG (by omega)).1, (H.kG (by omega)).2⟩
    · exact ⟨.inr h, by omega⟩
  have hnk : nc ≠ 0 → cc' ≠ 0 → nh ≠ ch' := fun hn _ => by
    rcases hpl with ⟨rfl, _, h⟩ | ⟨_, h⟩
    · exact H.nk hn (by omega)
    · have := H.rn.lt (by decide) hn; omega
  have hst : Step G w w' := step_ontoK hO (fun h => (H.kG h).1)
  have hsz : w.heap.size ≤ (w'.setCell ⟨rb, 2, none⟩ v').heap.size := Nat.le_trans hk'.size h2.size
  have hlen : (no ++ [cl]).length = no.length + 1 := by simp
  refine ⟨CA', ch', cc', hv, ⟨h2.has _ _ (hk'.has _ _ H.l (hne 0)) (h0 0 (by omega)), by rw [hlen]; exact h2.has _ _ (hk'.has _ _ H.n (hne 1)) (h0 1 (by omega)), by rw [hlen, ← hv]; exact he.same,
    by rw [hlen]; exact (H.rn.keep hk' (fun j hj hh => H.nk (fun e => by subst e; omega) (by omega) hh.2)).keep h2 (fun j hj e => (H.nG (fun e => by subst e; omega)).2 (by simp only [Addr.mk.injEq] at e; exact e.1)), ?_,
    fun n hn => ?_, .inl H.rG, fun h => ⟨.inl (H.nG h).1, (H.nG h).2⟩, hkG, hnk, fun n hn b hb => ?_, fun n hn n' hn' hnn b hb hb' => ?_, fun n hn b hb => ?_⟩, he, hst.setCell (p := ⟨rb, 2, none⟩) (.inl H.rG) v'⟩
  · have e : ptrs (no ++ [cl]) (updZ rp cl g) = ptrs no rp ++ [.pointer (some ⟨g, 0, none⟩)] := by
      unfold ptrs
      rw [List.map_append]
      congr 1
      · exact List.map_congr_left (fun n hn => by
          have h9 : n ≠ cl := fun e => hcl (by rw [← e]; exact hn)
          rw [updZ_other _ _ _ h9])
      · simp [updZ_same]
    rw [hlen, e]
    exact hrr.keep h2 (fun j hj e => (hkG (fun e => by subst e; omega)).2 (by simp only [Addr.mk.injEq] at e; exact e.1))
  · by_cases e : n = cl
    · subst e
      simp only [updZ_same]
      rw [hR]
      exact ⟨A, h, c, (hr.keep hk' (fun p hp hgn => (hg _ hgn).2.2.2.1 (by omega) hp.2)).keep h2 (fun p hp hgn => (hg _ hgn).2.1 (by rw [hp]))⟩
    · simp only [updZ_other _ _ _ e]
      have hn' : n ∈ no := by simpa [e] using hn
      obtain ⟨A2, h3, c3, hr3⟩ := H.c n hn'
      exact ⟨A2, h3, c3, (hr3.keep hk' (fun p hp hgn => (H.cG n hn' _ hgn).2.2.2 (by omega) hp.2)).keep h2 (fun p hp hgn => (H.cG n hn' _ hgn).2.1 (by rw [hp]))⟩
  · by_cases e : n = cl
    · subst e
      rw [updZ_same] at hb
      refine ⟨.inl (hg b hb).2.2.2.2, (hg b hb).2.1, (hg b hb).2.2.1, fun hc => ?_⟩
      rcases hpl with ⟨rfl, _, h⟩ | ⟨_, h⟩
      · exact (hg b hb).2.2.2.1 (by omega)
      · have := (hg b hb).1; omega
    · rw [updZ_other _ _ _ e] at hb
      have hn' : n ∈ no := by simpa [e] using hn
      refine ⟨.inl (H.cG n hn' b hb).1, (H.cG n hn' b hb).2.1, (H.cG n hn' b hb).2.2.1, fun hc => ?_⟩
      rcases hpl with ⟨rfl, _, h⟩ | ⟨_, h⟩
      · exact (H.cG n hn' b hb).2.2.2 (by omega)
      · have := H.ct n hn' b hb; omega
  · by_cases e : n = cl
    · subst e
      rw [updZ_same] at hb
      have hn2 : n' ∈ no := by
        have : n' ≠ n := fun e => hnn e.symm
        simpa [this] using hn'
      rw [updZ_other _ _ _ (fun e => hnn e.symm)] at hb'
      exact hgc n' hn2 b hb hb'
    · rw [updZ_other _ _ _ e] at hb
      have hn1 : n ∈ no := by simpa [e] using hn
      by_cases e' : n' = cl
      · subst e'
        rw [updZ_same] at hb'
        exact hgc n hn1 b hb' hb
      · rw [updZ_other _ _ _ e'] at hb'
        have hn2 : n' ∈ no := by simpa [e'] using hn'
        exact H.dj n hn1 n' hn2 hnn b hb hb'
  · by_cases e : n = cl
    · subst e
      rw [updZ_same] at hb
      exact Nat.lt_of_lt_of_le (hg b hb).1 hsz
    · rw [updZ_other _ _ _ e] at hb
      have hn' : n ∈ no := by simpa [e] using hn
      exact Nat.lt_of_lt_of_le (H.ct n hn' b hb) hsz
end
/-- A new cell of the reference's. -/
theorem newRAt (w : World) (kind top : Int) (t : TypeId) (cs : Array Value) (hc : cs = #[.int .i64 kind, .int .i64 top, .int .i64 0, .int .i64 0, .slice none 0 0]) : RAt (w.alloc (.cells cs t)) w.heap.size (newR kind top) none w.heap.size 0 (fun b => b = w.heap.size) := by
  subst hc
  exact ⟨has_new _ _ _ 0 _ rfl, has_new _ _ _ 1 _ rfl, has_new _ _ _ 2 _ rfl, has_new _ _ _ 3 _ rfl, has_new _ _ _ 4 _ rfl, RowE.nil _ _, rfl, fun hc => absurd rfl hc⟩
end Go.Proofs.Ytdfkmkflcnfchaa
