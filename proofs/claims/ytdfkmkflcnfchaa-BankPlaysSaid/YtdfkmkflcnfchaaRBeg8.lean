/- The reference's Begin. Own work. -/
import Derived.Test.YtdfkmkflcnfchaaSeen8
import Derived.Deep.DeepCutAuto
namespace Go.Proofs.Ytdfkmkflcnfchaa
open Go.ChangeShapes Go.WideShapes Go.ChangeAt Go.RowKit CellM

/-- append of one access -/
theorem wpList_app_ev {w : World} {ops : Array Oper} {rest : List Oper} {o : Oper} {a : Act} {Q : Exit → Act → World → Prop} (hgd : o.guard = none) (s x : Operand) (ho : o.op = .call { callee := .builtin .append, args := #[s, x], argTypes := #[64, 64] })
    {A : Option Addr} {h c n : Nat} {L : List Ev} (H : RowE w A h c L) (hl : L.length ≤ 1000) (hn : L.length = n) (hs : a.eval s = .slice A n c) (e : Ev) (ad : Addr) (hx : a.eval x = .slice (some ad) 1 1)
    (hnews : ∀ j u, (cellsE e)[j]? = some u → w.cell? (ad.add j) = some u) (hK : ∀ v' w', OntoE w w' v' A h c L e → wpList Try.prog ops Q rest (a.put o.dst v') w') :
    wpList Try.prog ops Q (o :: rest) a w := by
  refine wpList_plain hgd fun _ hK' => ?_
  subst hn
  obtain ⟨v', w', hrun, hO⟩ := run_app_ev H hl e ad hnews o.type
  unfold Oper.wp
  simp [execOp, ho, resolve, invoke, builtin, hs, hx, hrun, Result.andThen]
  exact hK' _ _ (hK v' w' hO)
structure RNow (w w' : World) (rc : Nat) (r : Rs) (G : Nat → Prop) : Prop where
  at_ : ∃ A h c, RAt w' rc r A h c (More w G)
  step : Step G w w'
theorem RNow.of {w w' : World} {rc : Nat} {r : Rs} {A : Option Addr} {h c : Nat} {G : Nat → Prop} (H : RAt w rc r A h c G) (hb : Below w.heap.size w w') : RNow w w' rc r G :=
  ⟨⟨A, h, c, (H.below hb).mono (fun _ hg => .inl hg)⟩, .of_below hb⟩
theorem RAt.setNow {w : World} {rc : Nat} {r : Rs} {A : Option Addr} {h c : Nat} {G : Nat → Prop} (H : RAt w rc r A h c G) (n : Int) : RAt (w.setCell ⟨rc, 3, none⟩ (.int .i64 n)) rc ⟨r.kind, r.top, r.value, n, r.L⟩ A h c G := by
  have hk := kept_set w ⟨rc, 3, none⟩ (.int .i64 n)
  have h0 : ∀ i, i ≠ 3 → ¬ ((⟨rc, i, none⟩ : Addr) = ⟨rc, 3, none⟩) := fun i hi e => hi (by simp only [Addr.mk.injEq] at e; omega)
  exact ⟨hk.has _ _ H.kind (h0 _ (by omega)), hk.has _ _ H.top (h0 _ (by omega)), hk.has _ _ H.value (h0 _ (by omega)), H.now.same, hk.has _ _ H.l (h0 _ (by omega)),
    H.row.keep hk (fun k hc e => (H.hG (by omega)).2 (by simp only [Addr.mk.injEq] at e; exact e.1)), H.rG, H.hG⟩
theorem RAt.setValue {w : World} {rc : Nat} {r : Rs} {A : Option Addr} {h c : Nat} {G : Nat → Prop} (H : RAt w rc r A h c G) (n : Int) : RAt (w.setCell ⟨rc, 2, none⟩ (.int .i64 n)) rc ⟨r.kind, r.top, n, r.now, r.L⟩ A h c G := by
  have hk := kept_set w ⟨rc, 2, none⟩ (.int .i64 n)
  have h0 : ∀ i, i ≠ 2 → ¬ ((⟨rc, i, none⟩ : Addr) = ⟨rc, 2, none⟩) := fun i hi e => hi (by simp only [Addr.mk.injEq] at e; omega)
  exact ⟨hk.has _ _ H.kind (h0 _ (by omega)), hk.has _ _ H.top (h0 _ (by omega)), H.value.same, hk.has _ _ H.now (h0 _ (by omega)), hk.has _ _ H.l (h0 _ (by omega)),
    H.row.keep hk (fun k hc e => (H.hG (by omega)).2 (by simp only [Addr.mk.injEq] at e; exact e.1)), H.rG, H.hG⟩
/-- One more access stands in the history. -/
theorem RAt.push {w w' : World} {rc : Nat} {r : Rs} {A : Option Addr} {h c : Nat} {G : Nat → Prop} (H : RAt w rc r A h c G) {v' : Value} {e : Ev} (hO : OntoE w w' v' A h c r.L e) :
    ∃ A' h' c', v' = .slice A' (r.L.length + 1) c' ∧ RAt (w'.setCell ⟨rc, 4, none⟩ v') rc ⟨r.kind, r.top, r.value, r.now, r.L ++ [e]⟩ A' h' c' (More w G) ∧ Step G w (w'.setCell ⟨rc, 4, none⟩ v') ∧ Has w' ⟨rc, 4, none⟩ (.slice A r.L.length c) := by
  obtain ⟨A', h', c', hv, hr, hp⟩ := hO.ex
  have hk := hO.kept
  have hne : ∀ i, ¬ (r.L.length < c ∧ (⟨rc, i, none⟩ : Addr).block = h) := fun i hh => (H.hG (by omega)).2 hh.2.symm
  have hl := hk.has _ _ H.l (hne 4)
  have hrc := H.lt
  have hh' : h' ≠ rc ∧ More w G h' := by
    rcases hp with ⟨rfl, h1⟩ | ⟨_, h1⟩
    · exact ⟨(H.hG (by omega)).2, .inl (H.hG (by omega)).1⟩
    · exact ⟨by omega, .inr h1⟩
  have hk2 := kept_set w' ⟨rc, 4, none⟩ v'
  have h0 : ∀ i, i ≠ 4 → ¬ ((⟨rc, i, none⟩ : Addr) = ⟨rc, 4, none⟩) := fun i hi e => hi (by simp only [Addr.mk.injEq] at e; omega)
  have hs : Step G w w' := ⟨hk.mono (fun p hp2 => by rw [hp2.2]; exact (H.hG (by omega)).1), fun B hB hw => hO.below B (fun hc => hB _ (H.hG (by omega)).1) hw, fun b hb hf => hO.block b hb (fun hc e => hf (e ▸ (H.hG (by omega)).1))⟩
  refine ⟨A', h', c', hv, ⟨hk2.has _ _ (hk.has _ _ H.kind (hne 0)) (h0 _ (by omega)), hk2.has _ _ (hk.has _ _ H.top (hne 1)) (h0 _ (by omega)), hk2.has _ _ (hk.has _ _ H.value (hne 2)) (h0 _ (by omega)), hk2.has _ _ (hk.has _ _ H.now (hne 3)) (h0 _ (by omega)), ?_,
    hr.keep hk2 (fun k _ e2 => hh'.1 (by simp only [Addr.mk.injEq] at e2; exact e2.1)), .inl H.rG, fun _ => ⟨hh'.2, hh'.1⟩⟩, hs.setCell (p := ⟨rc, 4, none⟩) (.inl H.rG) v', hl⟩
  have := hl.same (y := v')
  rw [hv] at this ⊢
  simpa using this
end Go.Proofs.Ytdfkmkflcnfchaa
