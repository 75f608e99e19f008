/- A bank of cells in memory: its own block, its strips and ends, its map, its cells; what a call leaves of it. Own work. -/
import Derived.Test.YtdfkmkflcnfchaaAtS
import Derived.Test.YtdfkmkflcnfchaaRowK
import Derived.Maps.OwnSet
namespace Go.Proofs.Ytdfkmkflcnfchaa
open Go.ChangeShapes Go.WideShapes Go.ChangeAt Go.RowKit CellM

/-- How a pointer to a cell's beginning reads. -/
def Rp (v : Value) : Option (DataW Unit × List MemPlace) := match v with
  | .pointer none => some (.nil, [])
  | .pointer (some p) => if p = ⟨p.block, 0, none⟩ then some (.lit (.int .i64 p.block), []) else none
  | _ => none
theorem Rp_none : Rp (.pointer none) = some (.nil, []) := rfl
theorem Rp_some (b : Nat) : Rp (.pointer (some ⟨b, 0, none⟩)) = some (.lit (.int .i64 b), []) := by simp [Rp]
theorem Rp_nil {v : Value} {ps : List MemPlace} (h : Rp v = some (.nil, ps)) : v = .pointer none := by
  unfold Rp at h
  split at h
  · rfl
  · split at h
    · simp at h
    · cases h
  · cases h
theorem Rp_lit {v : Value} {ps : List MemPlace} {b : Nat} (h : Rp v = some (.lit (.int .i64 b), ps)) : v = .pointer (some ⟨b, 0, none⟩) := by
  unfold Rp at h
  split at h
  · simp at h
  · split at h
    · next p hp =>
      simp only [Option.some.injEq, Prod.mk.injEq, DataW.lit.injEq, Lit.int.injEq, true_and] at h
      have : p.block = b := by omega
      rw [hp, this]
    · cases h
  · cases h
/-- The map holds the cells no, the block pb n at n. -/
structure MapOf (D : DataW Unit) (no : List Int) (pb : Int → Nat) : Prop where
  isMap : Maps.IsMap D
  has : ∀ x, Maps.has D (.int .i64 x) = true ↔ x ∈ no
  at_ : ∀ x ∈ no, D.atKey (.int .i64 x) .nil = .lit (.int .i64 (pb x))
theorem MapOf.empty (pb : Int → Nat) : MapOf (.map []) [] pb := ⟨Maps.isMap_empty, fun x => by simp [Maps.has], fun x hx => by simp at hx⟩
theorem MapOf.put {D : DataW Unit} {no : List Int} {pb : Int → Nat} (h : MapOf D no pb) (n : Int) (b : Nat) : MapOf (D.put (.int .i64 n) (.lit (.int .i64 b))) (addN no n) (updZ pb n b) := by
  refine ⟨h.isMap.put _ _, fun x => ?_, fun x hx => ?_⟩
  · rw [mem_addN]
    by_cases e : x = n
    · subst e
      rw [Maps.has_put_same h.isMap (show WideAt.IsKeyLit (.int .i64 _) from trivial)]; simp
    · rw [Maps.has_put_other (fun e2 => e (by simpa using e2)), h.has x]
      simp [e]
  · by_cases e : x = n
    · subst e
      rw [Maps.atKey_put_same h.isMap (show WideAt.IsKeyLit (.int .i64 _) from trivial), updZ_same]
    · rw [Maps.atKey_put_other (fun e2 => e (by simpa using e2)), updZ_other _ _ _ e]
      rcases mem_addN.1 hx with h1 | h1
      · exact h.at_ x h1
      · exact absurd h1 e
theorem MapOf.none_ {D : DataW Unit} {no : List Int} {pb : Int → Nat} (h : MapOf D no pb) {x : Int} (hx : x ∉ no) : D.atKey (.int .i64 x) .nil = .nil := by
  refine Maps.atKey_of_not_has ?_ _
  cases e : Maps.has D (.int .i64 x)
  · rfl
  · exact absurd ((h.has x).1 e) hx
theorem keyedI : Maps.Keyed Try.prog 3 := Maps.int_keyed (q := .i64) (by kernel_rfl)
theorem underM : Try.prog.underlying 54 = some (.map 3 60) := by kernel_rfl
theorem zeroP (w : World) : (zeroValue 60).run Try.prog w = .ok (.pointer none) w := by kernel_rfl
theorem keyI {n : Int} (hn : (Lit.int .i64 n).wf = true) : keyOf Try.prog 3 (.int .i64 n) = some (.int .i64 n) := Maps.keyOf_int_mk (by kernel_rfl) hn
/-- A block that is neither a writer's nor new is as it was. -/
theorem ownsMap_block {w w' : World} {mb q : Nat} {D : DataW Unit} (h : w.ownsMap Try.prog 3 Rp mb q D) (hb : w'.heap[mb]? = w.heap[mb]?) : w'.ownsMap Try.prog 3 Rp mb q D := by
  obtain ⟨es, clock, h1, h2⟩ := h
  exact ⟨es, clock, hb.trans h1, h2⟩
/-- What the map answers. -/
theorem look_in {w : World} {mb q : Nat} {D : DataW Unit} {no : List Int} {pb : Int → Nat} (h : w.ownsMap Try.prog 3 Rp mb q D) (hm : MapOf D no pb) {n : Int} (hn : (Lit.int .i64 n).wf = true) (hx : n ∈ no) :
    (Instr.lookup 54 (.map (some mb)) (.int .i64 n) false).run Try.prog w = .ok (.pointer (some ⟨pb n, 0, none⟩)) w := by
  obtain ⟨v, ps, hrun, hv⟩ := h.lookup keyedI underM (zeroP w) Rp_none (keyI hn)
  rw [hm.at_ n hx] at hv
  rw [hrun, Rp_lit hv]
theorem look_out {w : World} {mb q : Nat} {D : DataW Unit} {no : List Int} {pb : Int → Nat} (h : w.ownsMap Try.prog 3 Rp mb q D) (hm : MapOf D no pb) {n : Int} (hn : (Lit.int .i64 n).wf = true) (hx : n ∉ no) :
    (Instr.lookup 54 (.map (some mb)) (.int .i64 n) false).run Try.prog w = .ok (.pointer none) w := by
  obtain ⟨v, ps, hrun, hv⟩ := h.lookup keyedI underM (zeroP w) Rp_none (keyI hn)
  rw [hm.none_ hx] at hv
  rw [hrun, Rp_nil hv]

def cells3 (s : Strip) : List Value := [.int .i64 s.many, .int .i64 s.kind, .int .i64 s.top]
def flatS (L : List Strip) : List Value := L.flatMap cells3
theorem flatS_len : ∀ L : List Strip, (flatS L).length = L.length * 3
  | [] => rfl
  | e :: L => by
    show (cells3 e ++ flatS L).length = _
    rw [List.length_append, flatS_len L, List.length_cons]; show 3 + _ = _; omega
theorem flatS_snoc (L : List Strip) (s : Strip) : flatS (L ++ [s]) = flatS L ++ cells3 s := by unfold flatS; rw [List.flatMap_append]; simp
theorem flatS_at : ∀ (L : List Strip) (i : Nat) (e : Strip) (q : Nat) (x : Value), L[i]? = some e → (cells3 e)[q]? = some x → (flatS L)[i * 3 + q]? = some x
  | [], _, _, _, _, h, _ => by simp at h
  | a :: L, 0, e, q, x, h, hx => by
    simp at h; subst h
    show (cells3 a ++ flatS L)[0 * 3 + q]? = some x
    have hq := (List.getElem?_eq_some_iff.1 hx).1
    rw [Nat.zero_mul, Nat.zero_add, List.getElem?_append_left hq]; exact hx
  | a :: L, i + 1, e, q, x, h, hx => by
    show (cells3 a ++ flatS L)[(i + 1) * 3 + q]? = some x
    have h3 : (cells3 a).length = 3 := rfl
    rw [List.getElem?_append_right (by rw [h3]; omega), h3, show (i + 1) * 3 + q - 3 = i * 3 + q by omega]
    exact flatS_at L i e q x (by simpa using h) hx
def valsI (l : List Int) : List Value := l.map (Value.int .i64)

/-- What never changes of a bank once it is made: strips, ends, where the map is. -/
structure BFix (w : World) (bb : Nat) (L : List Strip) (SA EA : Option Addr) (sh sc eh ec mb : Nat) : Prop where
  s : Has w ⟨bb, 0, none⟩ (.slice SA (filt L).length sc)
  e : Has w ⟨bb, 1, none⟩ (.slice EA (filt L).length ec)
  m : Has w ⟨bb, 2, none⟩ (.map (some mb))
  rs : RowK w 3 SA sh sc (filt L).length (flatS (filt L))
  re : RowK w 1 EA eh ec (filt L).length (valsI (endsF 0 L))
  ns : sc ≠ 0 → sh ≠ bb
  ne : ec ≠ 0 → eh ≠ bb
  nm : mb ≠ bb
/-- The bank behind bb, all its blocks F's; the cell n behind pb n, its blocks Fc n's. -/
structure BAtD (w : World) (bb : Nat) (X : Bk) (q : Nat) (F : Nat → Prop) (SA EA : Option Addr) (sh sc eh ec mb : Nat) (D : DataW Unit) (pb : Int → Nat) (Fc : Int → Nat → Prop) : Prop where
  fix : BFix w bb X.L SA EA sh sc eh ec mb
  d : ∀ t, t < 8 → Has w ⟨bb, 3 + t * 2, none⟩ (.int .i64 ((X.d t).getD 0)) ∧ Has w ⟨bb, 3 + t * 2 + 1, none⟩ (.bool (X.d t).isSome)
  mo : w.ownsMap Try.prog 3 Rp mb q D
  mp : MapOf D X.no pb
  c : ∀ n ∈ X.no, PAt w (pb n) (X.c n) (Fc n)
  bF : F bb
  mF : F mb
  sF : sc ≠ 0 → F sh
  eF : ec ≠ 0 → F eh
  cF : ∀ n ∈ X.no, ∀ b, Fc n b → F b
  cb : ∀ n ∈ X.no, ∀ b, Fc n b → b ≠ bb ∧ b ≠ mb ∧ (sc ≠ 0 → b ≠ sh) ∧ (ec ≠ 0 → b ≠ eh)
  cc : ∀ n ∈ X.no, ∀ n' ∈ X.no, n ≠ n' → ∀ b, Fc n b → ¬ Fc n' b
  ct : ∀ n ∈ X.no, ∀ b, Fc n b → b < w.heap.size
section
variable {w w' : World} {bb : Nat} {X : Bk} {q : Nat} {F F' : Nat → Prop} {L : List Strip} {SA EA : Option Addr} {sh sc eh ec mb : Nat} {D : DataW Unit} {pb : Int → Nat} {Fc : Int → Nat → Prop}
theorem BFix.keep (H : BFix w bb L SA EA sh sc eh ec mb) {G : Addr → Prop} (hk : Kept G w w') (h0 : ∀ i, i < 3 → ¬ G ⟨bb, i, none⟩) (hs : sc ≠ 0 → ∀ i, ¬ G ⟨sh, i, none⟩) (he : ec ≠ 0 → ∀ i, ¬ G ⟨eh, i, none⟩) : BFix w' bb L SA EA sh sc eh ec mb :=
  ⟨hk.has _ _ H.s (h0 0 (by omega)), hk.has _ _ H.e (h0 1 (by omega)), hk.has _ _ H.m (h0 2 (by omega)),
    H.rs.keep hk (fun j hj => hs (fun e => by subst e; omega) j), H.re.keep hk (fun j hj => he (fun e => by subst e; omega) j), H.ns, H.ne, H.nm⟩
theorem BAtD.mono (H : BAtD w bb X q F SA EA sh sc eh ec mb D pb Fc) (hF : ∀ b, F b → F' b) : BAtD w bb X q F' SA EA sh sc eh ec mb D pb Fc :=
  ⟨H.fix, H.d, H.mo, H.mp, H.c, hF _ H.bF, hF _ H.mF, fun h => hF _ (H.sF h), fun h => hF _ (H.eF h), fun n hn b hb => hF _ (H.cF n hn b hb), H.cb, H.cc, H.ct⟩
/-- Who writes elsewhere leaves it. -/
theorem BAtD.keep (H : BAtD w bb X q F SA EA sh sc eh ec mb D pb Fc) {G : Nat → Prop} (hk : Step G w w') (hG : ∀ b, G b → ¬ F b) : BAtD w' bb X q F SA EA sh sc eh ec mb D pb Fc :=
  ⟨H.fix.keep hk.kept (fun _ _ h => hG _ h H.bF) (fun hs _ h => hG _ h (H.sF hs)) (fun he _ h => hG _ h (H.eF he)),
    fun t ht => ⟨hk.kept.has _ _ (H.d t ht).1 (fun h => hG _ h H.bF), hk.kept.has _ _ (H.d t ht).2 (fun h => hG _ h H.bF)⟩,
    ownsMap_block H.mo (hk.block _ H.mo.lt (fun h => hG _ h H.mF)), H.mp,
    fun n hn => (H.c n hn).keep hk.kept (fun _ hp hf => hG _ hp (H.cF n hn _ hf)),
    H.bF, H.mF, H.sF, H.eF, H.cF, H.cb, H.cc, fun n hn b hb => Nat.lt_of_lt_of_le (H.ct n hn b hb) hk.kept.size⟩
end
/-- The bank behind bb, all its blocks F's. -/
def BAt (w : World) (bb : Nat) (X : Bk) (q : Nat) (F : Nat → Prop) : Prop := ∃ SA EA sh sc eh ec mb D pb Fc, BAtD w bb X q F SA EA sh sc eh ec mb D pb Fc
section
variable {w w' : World} {bb : Nat} {X : Bk} {q : Nat} {F F' : Nat → Prop}
theorem BAt.mono (H : BAt w bb X q F) (hF : ∀ b, F b → F' b) : BAt w bb X q F' := by
  obtain ⟨SA, EA, sh, sc, eh, ec, mb, D, pb, Fc, h⟩ := H
  exact ⟨SA, EA, sh, sc, eh, ec, mb, D, pb, Fc, h.mono hF⟩
theorem BAt.keep (H : BAt w bb X q F) {G : Nat → Prop} (hk : Step G w w') (hG : ∀ b, G b → ¬ F b) : BAt w' bb X q F := by
  obtain ⟨SA, EA, sh, sc, eh, ec, mb, D, pb, Fc, h⟩ := H
  exact ⟨SA, EA, sh, sc, eh, ec, mb, D, pb, Fc, h.keep hk hG⟩
theorem BAt.below (H : BAt w bb X q F) (hb : Below w.heap.size w w') : BAt w' bb X q F := H.keep (G := fun _ => False) (.of_below hb) (fun _ h => h.elim)
theorem BAt.lt (H : BAt w bb X q F) : bb < w.heap.size := by
  obtain ⟨SA, EA, sh, sc, eh, ec, mb, D, pb, Fc, h⟩ := H
  exact h.fix.s.lt
/-- Its blocks are those that are there. -/
theorem BAt.tight (H : BAt w bb X q F) : BAt w bb X q (fun b => F b ∧ b < w.heap.size) := by
  obtain ⟨SA, EA, sh, sc, eh, ec, mb, D, pb, Fc, h⟩ := H
  exact ⟨SA, EA, sh, sc, eh, ec, mb, D, pb, Fc, h.fix, h.d, h.mo, h.mp, h.c, ⟨h.bF, h.fix.s.lt⟩, ⟨h.mF, h.mo.lt⟩, fun hs => ⟨h.sF hs, h.fix.rs.lt (by decide) hs⟩, fun he => ⟨h.eF he, h.fix.re.lt (by decide) he⟩, fun n hn b hb => ⟨h.cF n hn b hb, h.ct n hn b hb⟩, h.cb, h.cc, h.ct⟩
end
/-- A call's whole effect on the bank. -/
structure BNow (w w' : World) (bb : Nat) (X : Bk) (q : Nat) (F : Nat → Prop) : Prop where
  at_ : BAt w' bb X q (More w F)
  step : Step F w w'
theorem BNow.of {w w' : World} {bb : Nat} {X : Bk} {q : Nat} {F : Nat → Prop} (H : BAt w bb X q F) (h : Below w.heap.size w w') : BNow w w' bb X q F := ⟨(H.below h).mono (fun _ hb => .inl hb), .of_below h⟩
theorem BNow.after {w w1 w' : World} {bb : Nat} {X : Bk} {q : Nat} {F : Nat → Prop} (h : BNow w w1 bb X q F) (hb : Below w1.heap.size w1 w') : BNow w w' bb X q F := ⟨h.at_.below hb, h.step.trans (.of_below hb)⟩
end Go.Proofs.Ytdfkmkflcnfchaa
