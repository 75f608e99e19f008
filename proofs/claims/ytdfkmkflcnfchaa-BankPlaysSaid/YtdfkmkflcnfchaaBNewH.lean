/- A bank that is being made, in memory. Own work. -/
import Derived.Test.YtdfkmkflcnfchaaBBegA
namespace Go.Proofs.Ytdfkmkflcnfchaa
open Go.ChangeShapes Go.WideShapes Go.ChangeAt Go.RowKit CellM

structure NewAt (w0 w : World) (bb mb : Nat) (L : List Strip) (ke ks : Nat) (SA EA : Option Addr) (sh sc eh ec : Nat) : Prop where
  s : Has w ⟨bb, 0, none⟩ (.slice SA (filt (L.take ks)).length sc)
  e : Has w ⟨bb, 1, none⟩ (.slice EA (filt (L.take ke)).length ec)
  m : Has w ⟨bb, 2, none⟩ (.map (some mb))
  d : ∀ t, t < 8 → Has w ⟨bb, 3 + t * 2, none⟩ (.int .i64 0) ∧ Has w ⟨bb, 3 + t * 2 + 1, none⟩ (.bool false)
  rs : RowK w 3 SA sh sc (filt (L.take ks)).length (flatS (filt (L.take ks)))
  re : RowK w 1 EA eh ec (filt (L.take ke)).length (valsI (endsF 0 (L.take ke)))
  mo : w.ownsMap Try.prog 3 Rp mb 0 (.map [])
  below : Below w0.heap.size w0 w
  bN : w0.heap.size ≤ bb
  mN : w0.heap.size ≤ mb
  sN : sc ≠ 0 → w0.heap.size ≤ sh ∧ sh ≠ bb
  eN : ec ≠ 0 → w0.heap.size ≤ eh ∧ eh ≠ bb
  nm : mb ≠ bb
  se : sc ≠ 0 → ec ≠ 0 → sh ≠ eh
section
variable {w0 w w' : World} {bb mb : Nat} {L : List Strip} {ke ks : Nat} {SA EA : Option Addr} {sh sc eh ec : Nat}
theorem NewAt.grow (H : NewAt w0 w bb mb L ke ks SA EA sh sc eh ec) (hb : Below w.heap.size w w') : NewAt w0 w' bb mb L ke ks SA EA sh sc eh ec :=
  ⟨H.s.below hb H.s.lt, H.e.below hb H.e.lt, H.m.below hb H.m.lt, fun t ht => ⟨(H.d t ht).1.below hb (H.d t ht).1.lt, (H.d t ht).2.below hb (H.d t ht).2.lt⟩, H.rs.below hb, H.re.below hb,
    ownsMap_block H.mo (hb.block _ H.mo.lt), H.below.trans (hb.mono H.below.size), H.bN, H.mN, H.sN, H.eN, H.nm, H.se⟩
/-- One end more. -/
theorem NewAt.pushE (H : NewAt w0 w bb mb L ke ks SA EA sh sc eh ec) (hm : ∀ s ∈ L, 0 ≤ s.many) (hk : ke < L.length) (hp : 0 < L[ke].many) {v' : Value} (hO : OntoK w w' v' 1 EA eh ec (filt (L.take ke)).length (valsI (endsF 0 (L.take ke))) [.int .i64 (sumS (L.take ke) + L[ke].many)]) :
    ∃ EA' eh' ec', v' = .slice EA' ((filt (L.take ke)).length + 1) ec' ∧ NewAt w0 (w'.setCell ⟨bb, 1, none⟩ v') bb mb L (ke + 1) ks SA EA' sh sc eh' ec' ∧ Has w' ⟨bb, 1, none⟩ (.slice EA (filt (L.take ke)).length ec) := by
  obtain ⟨EA', eh', ec', hv, hr, hpl⟩ := hO.ex
  have hbb : bb < w.heap.size := H.s.lt
  have hk' := hO.kept
  have hne : ∀ i, ¬ ((filt (L.take ke)).length < ec ∧ (⟨bb, i, none⟩ : Addr).block = eh) := fun i hh => (H.eN (by omega)).2 hh.2.symm
  have he := hk'.has _ _ H.e (hne 1)
  have h2 := kept_set w' ⟨bb, 1, none⟩ v'
  have h0 : ∀ i, i ≠ 1 → ¬ ((⟨bb, i, none⟩ : Addr) = ⟨bb, 1, none⟩) := fun i hi e => hi (by simp only [Addr.mk.injEq] at e; omega)
  have hsw := H.below.size
  have heN : ec' ≠ 0 → w0.heap.size ≤ eh' ∧ eh' ≠ bb := fun _ => by
    rcases hpl with ⟨rfl, _, h⟩ | ⟨_, h⟩
    · exact H.eN (by omega)
    · exact ⟨by omega, by omega⟩
  have hse : sc ≠ 0 → ec' ≠ 0 → sh ≠ eh' := fun hs _ => by
    rcases hpl with ⟨rfl, _, h⟩ | ⟨_, h⟩
    · exact H.se hs (by omega)
    · have := H.rs.lt (by decide) hs; omega
  have hbl : Below w0.heap.size w0 w' := H.below.trans (hO.below _ (fun h => (H.eN (by omega)).1) hsw)
  have hmap : w'.ownsMap Try.prog 3 Rp mb 0 (.map []) := ownsMap_block H.mo (hO.block _ H.mo.lt (fun h e => by
    obtain ⟨x, hx⟩ := H.re.room 0 (by omega)
    exact not_cell' H.mo hx e.symm))
  refine ⟨EA', eh', ec', hv, ⟨h2.has _ _ (hk'.has _ _ H.s (hne 0)) (h0 0 (by omega)), ?_, h2.has _ _ (hk'.has _ _ H.m (hne 2)) (h0 2 (by omega)), fun t ht => ⟨h2.has _ _ (hk'.has _ _ (H.d t ht).1 (hne _)) (h0 _ (by omega)), h2.has _ _ (hk'.has _ _ (H.d t ht).2 (hne _)) (h0 _ (by omega))⟩,
    (H.rs.keep hk' (fun j hj hh => H.se (fun e => by subst e; omega) (by omega) hh.2)).keep h2 (fun j hj e => (H.sN (fun e => by subst e; omega)).2 (by simp only [Addr.mk.injEq] at e; exact e.1)), ?_, hmap.setCell H.nm _, hbl.setCell H.bN _, H.bN, H.mN, H.sN, heN, H.nm, hse⟩, he⟩
  · rw [filt_yes hk hp, List.length_append, List.length_singleton, ← hv]
    exact he.same
  · rw [filt_yes hk hp, ends_yes hk hm hp, List.length_append, List.length_singleton]
    have e : valsI (endsF 0 (L.take ke) ++ [sumS (L.take ke) + L[ke].many]) = valsI (endsF 0 (L.take ke)) ++ [.int .i64 (sumS (L.take ke) + L[ke].many)] := by unfold valsI; simp
    rw [e]
    exact hr.keep h2 (fun j hj e => (heN (fun e => by subst e; omega)).2 (by simp only [Addr.mk.injEq] at e; exact e.1))
/-- One strip more. -/
theorem NewAt.pushS (H : NewAt w0 w bb mb L ke ks SA EA sh sc eh ec) (hk : ks < L.length) (hp : 0 < L[ks].many) {v' : Value} (hO : OntoK w w' v' 3 SA sh sc (filt (L.take ks)).length (flatS (filt (L.take ks))) (cells3 L[ks])) :
    ∃ SA' sh' sc', v' = .slice SA' ((filt (L.take ks)).length + 1) sc' ∧ NewAt w0 (w'.setCell ⟨bb, 0, none⟩ v') bb mb L ke (ks + 1) SA' EA sh' sc' eh ec ∧ Has w' ⟨bb, 0, none⟩ (.slice SA (filt (L.take ks)).length sc) := by
  obtain ⟨SA', sh', sc', hv, hr, hpl⟩ := hO.ex
  have hbb : bb < w.heap.size := H.s.lt
  have hk' := hO.kept
  have hne : ∀ i, ¬ ((filt (L.take ks)).length < sc ∧ (⟨bb, i, none⟩ : Addr).block = sh) := fun i hh => (H.sN (by omega)).2 hh.2.symm
  have he := hk'.has _ _ H.s (hne 0)
  have h2 := kept_set w' ⟨bb, 0, none⟩ v'
  have h0 : ∀ i, i ≠ 0 → ¬ ((⟨bb, i, none⟩ : Addr) = ⟨bb, 0, none⟩) := fun i hi e => hi (by simp only [Addr.mk.injEq] at e; omega)
  have hsw := H.below.size
  have hsN : sc' ≠ 0 → w0.heap.size ≤ sh' ∧ sh' ≠ bb := fun _ => by
    rcases hpl with ⟨rfl, _, h⟩ | ⟨_, h⟩
    · exact H.sN (by omega)
    · exact ⟨by omega, by omega⟩
  have hse : sc' ≠ 0 → ec ≠ 0 → sh' ≠ eh := fun _ he => by
    rcases hpl with ⟨rfl, _, h⟩ | ⟨_, h⟩
    · exact H.se (by omega) he
    · have := H.re.lt (by decide) he; omega
  have hbl : Below w0.heap.size w0 w' := H.below.trans (hO.below _ (fun h => (H.sN (by omega)).1) hsw)
  have hmap : w'.ownsMap Try.prog 3 Rp mb 0 (.map []) := ownsMap_block H.mo (hO.block _ H.mo.lt (fun h e => by
    obtain ⟨x, hx⟩ := H.rs.room 0 (by omega)
    exact not_cell' H.mo hx e.symm))
  refine ⟨SA', sh', sc', hv, ⟨?_, h2.has _ _ (hk'.has _ _ H.e (hne 1)) (h0 1 (by omega)), h2.has _ _ (hk'.has _ _ H.m (hne 2)) (h0 2 (by omega)), fun t ht => ⟨h2.has _ _ (hk'.has _ _ (H.d t ht).1 (hne _)) (h0 _ (by omega)), h2.has _ _ (hk'.has _ _ (H.d t ht).2 (hne _)) (h0 _ (by omega))⟩,
    ?_, (H.re.keep hk' (fun j hj hh => H.se (by omega) (fun e => by subst e; omega) hh.2.symm)).keep h2 (fun j hj e => (H.eN (fun e => by subst e; omega)).2 (by simp only [Addr.mk.injEq] at e; exact e.1)), hmap.setCell H.nm _, hbl.setCell H.bN _, H.bN, H.mN, hsN, H.eN, H.nm, hse⟩, he⟩
  · rw [filt_yes hk hp, List.length_append, List.length_singleton, ← hv]
    exact he.same
  · rw [filt_yes hk hp, flatS_snoc, List.length_append, List.length_singleton]
    exact hr.keep h2 (fun j hj e => (hsN (fun e => by subst e; omega)).2 (by simp only [Addr.mk.injEq] at e; exact e.1))
theorem NewAt.ontoE {W1 W2 w3 : World} (H : NewAt w0 W1 bb mb L ke ks SA EA sh sc eh ec) (hm : ∀ s ∈ L, 0 ≤ s.many) (hk : ke < L.length) {s : Strip} (hs : L[ke] = s) {sv : Int} (hsv : sumS (L.take ke) = sv) (hp : 0 < s.many) (hB : Below W1.heap.size W1 W2) {g nf : Nat} (hnf : (filt (L.take ke)).length = nf)
    (hX : BX g s.many s.kind s.top W1) (hg : ec ≠ 0 → g ≠ eh) (hgb : g ≠ bb) {v' : Value} (hO : OntoK W2 w3 v' 1 EA eh ec nf (valsI (endsF 0 (L.take ke))) [.int .i64 (sv + s.many)]) :
    ∃ EA' eh' ec', v' = .slice EA' (nf + 1) ec' ∧ NewAt w0 (w3.setCell ⟨bb, 1, none⟩ v') bb mb L (ke + 1) ks SA EA' sh sc eh' ec' ∧ Has w3 ⟨bb, 1, none⟩ (.slice EA nf ec) ∧ BX g s.many s.kind s.top (w3.setCell ⟨bb, 1, none⟩ v') ∧ Below W1.heap.size W1 W2 := by
  subst hs; subst hsv; subst hnf
  obtain ⟨EA', eh', ec', hv, hN, hh⟩ := (H.grow hB).pushE hm hk hp hO
  have hX2 := hX.below hB
  have hn : ∀ i, ¬ ((filt (L.take ke)).length < ec ∧ (⟨g, i, none⟩ : Addr).block = eh) := fun i h => hg (by omega) h.2
  have h0 : ∀ i, (⟨bb, 1, none⟩ : Addr) ≠ ⟨g, i, none⟩ := fun i e => hgb (by simp only [Addr.mk.injEq] at e; exact e.1.symm)
  exact ⟨EA', eh', ec', hv, hN, hh, ⟨(hO.kept.has _ _ hX2.k (hn 0)).other (h0 0), (hO.kept.has _ _ hX2.c (hn 1)).other (h0 1), (hO.kept.has _ _ hX2.v (hn 2)).other (h0 2)⟩, hB⟩
theorem NewAt.ontoS {W1 W2 w3 : World} (H : NewAt w0 W1 bb mb L ke ks SA EA sh sc eh ec) (hk : ks < L.length) {s : Strip} (hs : L[ks] = s) (hp : 0 < s.many) (hB : Below W1.heap.size W1 W2) {nf : Nat} (hnf : (filt (L.take ks)).length = nf)
    {v' : Value} (hO : OntoK W2 w3 v' 3 SA sh sc nf (flatS (filt (L.take ks))) (cells3 s)) :
    ∃ SA' sh' sc', v' = .slice SA' (nf + 1) sc' ∧ NewAt w0 (w3.setCell ⟨bb, 0, none⟩ v') bb mb L ke (ks + 1) SA' EA sh' sc' eh ec ∧ Has w3 ⟨bb, 0, none⟩ (.slice SA nf sc) := by
  subst hs; subst hnf
  exact (H.grow hB).pushS hk hp hO
/-- A strip without cells. -/
theorem NewAt.skip (H : NewAt w0 w bb mb L ke ke SA EA sh sc eh ec) (hm : ∀ s ∈ L, 0 ≤ s.many) (hk : ke < L.length) (hp : ¬ 0 < L[ke].many) : NewAt w0 w bb mb L (ke + 1) (ke + 1) SA EA sh sc eh ec := by
  have e1 := filt_no hk hp
  have e2 := ends_no hk hm hp
  exact ⟨by rw [e1]; exact H.s, by rw [e1]; exact H.e, H.m, H.d, by rw [e1]; exact H.rs, by rw [e1, e2]; exact H.re, H.mo, H.below, H.bN, H.mN, H.sN, H.eN, H.nm, H.se⟩
/-- The bank is made. -/
theorem NewAt.done (H : NewAt w0 w bb mb L L.length L.length SA EA sh sc eh ec) : BAt w bb (newB L) 0 (fun b => w0.heap.size ≤ b) := by
  have e : L.take L.length = L := List.take_length
  have hs := H.s; have he := H.e; have hrs := H.rs; have hre := H.re
  rw [e] at hs he hrs hre
  exact ⟨SA, EA, sh, sc, eh, ec, mb, .map [], fun _ => 0, fun _ _ => False, ⟨hs, he, H.m, hrs, hre, fun h => (H.sN h).2, fun h => (H.eN h).2, H.nm⟩, H.d, H.mo, MapOf.empty _, fun n hn => by simp [newB] at hn,
    H.bN, H.mN, fun h => (H.sN h).1, fun h => (H.eN h).1, fun n hn => by simp [newB] at hn, fun n hn => by simp [newB] at hn, fun n hn => by simp [newB] at hn, fun n hn => by simp [newB] at hn⟩
end
/-- As the making begins. -/
theorem NewAt.start (w0 w : World) (hB : Below w0.heap.size w0 w) (L : List Strip) (t : TypeId) (cs : Array Value) (hc : cs = #[.slice none 0 0, .slice none 0 0, .map (some w.heap.size), .int .i64 0, .bool false, .int .i64 0, .bool false, .int .i64 0, .bool false, .int .i64 0, .bool false, .int .i64 0, .bool false, .int .i64 0, .bool false, .int .i64 0, .bool false, .int .i64 0, .bool false]) :
    NewAt w0 ((w.alloc (.map #[] 0)).alloc (.cells cs t)) (w.heap.size + 1) w.heap.size L 0 0 none none 0 0 0 0 := by
  subst hc
  have hs : (w.alloc (.map #[] 0)).heap.size = w.heap.size + 1 := alloc_size _ _
  have hsz := hB.size
  refine ⟨has_at hs.symm rfl, has_at hs.symm rfl, has_at hs.symm rfl, fun t ht => ?_, RowK.nil _ _ _, RowK.nil _ _ _, (World.ownsMap_made _ _ _ _).alloc _, (hB.alloc hsz _).alloc (by rw [hs]; omega) _, by omega, hsz, fun h => absurd rfl h, fun h => absurd rfl h, by omega, fun h => absurd rfl h⟩
  have h9 : t = 0 ∨ t = 1 ∨ t = 2 ∨ t = 3 ∨ t = 4 ∨ t = 5 ∨ t = 6 ∨ t = 7 := by omega
  rcases h9 with rfl | rfl | rfl | rfl | rfl | rfl | rfl | rfl <;> exact ⟨has_at hs.symm rfl, has_at hs.symm rfl⟩
end Go.Proofs.Ytdfkmkflcnfchaa
