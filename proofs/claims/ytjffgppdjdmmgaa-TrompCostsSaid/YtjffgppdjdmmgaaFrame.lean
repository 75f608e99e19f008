/- What every law's statement shares: the last step, where the call answers true and leaves all that was there as it was. Own work. -/
import Derived.Test.YtjffgppdjdmmgaaRows
import Derived.WalkKit
import Derived.ProofKit
import Derived.OpenShut
import Derived.Carry
import Derived.Deep.DeepHandedRow
import GoSem.ClaimSeven
import Derived.ChangeArms
namespace Go.Proofs.Ytjffgppdjdmmgaa
open Go.ChangeShapes Go.WideShapes Go.ChangeAt Go.RowKit

section
variable {H : Type} {enc : TypeId × Value → H} {P : Program}
theorem trodAll_after (hl : laidOutB P = true) {W W' : World} {sp : Nat → Bool} (hb : Below W.heap.size W W') :
    ∀ {ts : List TypeId} {vs : List Value} {ds : List (DataW H)} {ps : List MemPlace}, (ts.all fun t => P.readableRec t && decide (t < P.types.size)) = true →
      DataW.TrodAll enc P W 0 (fun _ => true) true ts vs ds ps → (∀ p ∈ ps, p.block < W.heap.size) → (∀ p ∈ ps, sp p.block = true) → DataW.TrodAll enc P W' 0 sp true ts vs ds ps
  | [], [], [], _, _, h, _, _ => h
  | t :: ts, v :: vs, d :: ds, _, hr, h, hlt, hs => by
    obtain ⟨p, q, h1, h2, rfl⟩ := h
    simp only [List.all_cons, Bool.and_eq_true, decide_eq_true_eq] at hr
    exact ⟨p, q, WideElems.Trod_stays hl hr.1.1 hr.1.2 h1 (fun x hx => hb.same (hlt x (List.mem_append_left _ hx))) (fun x hx => hs x (List.mem_append_left _ hx)),
      trodAll_after hl hb hr.2 h2 (fun x hx => hlt x (List.mem_append_right _ hx)) (fun x hx => hs x (List.mem_append_right _ hx)), rfl⟩
  | [], _ :: _, _, _, _, h, _, _ => h.elim
  | [], [], _ :: _, _, _, h, _, _ => h.elim
  | _ :: _, [], _, _, _, h, _, _ => h.elim
  | _ :: _, _ :: _, [], _, _, h, _, _ => h.elim
theorem trodAll_len {w : World} {base : Nat} {sp : Nat → Bool} {hd : Bool} : ∀ {ts : List TypeId} {vs : List Value} {ds : List (DataW H)} {ps : List MemPlace}, DataW.TrodAll enc P w base sp hd ts vs ds ps → ds.length = ts.length
  | [], [], [], _, _ => rfl
  | t :: ts, v :: vs, d :: ds, _, h => by obtain ⟨p, q, _, h2, _⟩ := h; simp [trodAll_len h2]
  | [], _ :: _, _, _, h => h.elim
  | [], [], _ :: _, _, h => h.elim
  | _ :: _, [], _, _, h => h.elim
  | _ :: _, _ :: _, [], _, h => h.elim

/-- THE LAST STEP OF A LAW. -/
theorem law_post {f : Func} {s : ChangeSpec} {W W' : World} {args : Array Value} {ds gs : List (DataW H)} {before : List MemPlace} {tb : TypeId}
    (hl : laidOutB P = true) (hrd : (f.params.toList.all fun t => P.readableRec t && decide (t < P.types.size)) = true) (hv : s.vars = [])
    (hs : ∀ l : List (DataW H), l.length = f.params.toList.length → s.fn H l = { results := [.lit (.bool true)], args := l }) (hr : f.resultTypes = #[tb]) (ht : P.underlying tb = some .bool)
    (hW : DataW.Whole enc P f.params.toList s.vars false W args.toList ds gs before) (hb : Below W.heap.size W W') :
    s.post enc P f false true false false W args (.bool true) W' := by
  have hlt : ∀ p ∈ before, p.block < W.heap.size := fun p hp => hW.lt p hp
  have hW0 := hW
  obtain ⟨p, q, hA, hV, rfl, _, _⟩ := hW
  rw [hv] at hV
  obtain ⟨rfl, rfl⟩ := trodVars_none hV
  have hlen := trodAll_len hA
  have e : s.fn H (ds ++ []) = { results := [.lit (.bool true)], args := ds } := by rw [List.append_nil]; exact hs ds hlen
  refine ⟨ds, [], p ++ [], [], p, [], hW0, ?_, ?_, ?_, World.keptBut_mono (fun x hx => ⟨hx, by simp at hx; exact .inr (.inl hx)⟩) (hb.frame (· ∈ p ++ [])), fun h => by cases h⟩
  · rw [e, hr]
    exact ⟨[], [], shut_bool ht true, rfl, rfl⟩
  · rw [e]
    exact trodAll_after hl hb hrd hA (fun x hx => hlt x (by simpa using hx)) (fun x hx => by simpa using hlt x (by simpa using hx))
  · rw [hv, e]; rfl

/-- ALL THAT A LAW's CALL MAY LEAN ON: what its row's conditions give. -/
structure LawIn (enc : TypeId × Value → H) (P : Program) (f : Func) (laid : List (String × DataW Unit)) (W : World) (base : Nat) (args : Array Value) (ds gs : List (DataW H)) (before : List MemPlace) : Prop where
  val : ∀ (j : Nat) t v, f.params[j]? = some t → args[j]? = some v → Value.okWide P W .any base t v
  whole : DataW.Whole enc P f.params.toList [] false W args.toList ds gs before
  sized : (DataW.weightsEach P (f.params.toList ++ []) (ds ++ gs)).all (· ≤ reachBytes) = true
  laid : laidMetH P laid W
  shaped : W.ShapedOpen P
theorem LawIn.trod {f : Func} {laid : List (String × DataW Unit)} {W : World} {base : Nat} {args : Array Value} {ds gs : List (DataW H)} {before : List MemPlace} (h : LawIn enc P f laid W base args ds gs before) :
    DataW.TrodAll enc P W 0 (fun _ => true) true f.params.toList args.toList ds before ∧ gs = [] ∧ (∀ p ∈ before, p.block < W.heap.size) := by
  obtain ⟨p, q, hA, hV, rfl, _, _⟩ := h.whole
  obtain ⟨rfl, rfl⟩ := trodVars_none hV
  exact ⟨by simpa using hA, rfl, fun x hx => h.whole.lt x hx⟩
/-- A field of one cell, of a struct by value. -/
theorem agg_field {w : World} {base : Nat} {sp : Nat → Bool} {hd : Bool} {t : TypeId} {fs : Array Field} {cs : Array Value} {d : DataW H} {p : List MemPlace} (ht : P.underlying t = some (.struct fs)) (h : DataW.Trod enc P w base sp hd t (.agg cs) d p)
    (j : Nat) (f : Field) (hf : fs[j]? = some f) (c : Value) (hc : (cs.toList.drop f.offset).take (P.cellsOf f.type) = [c]) : ∃ n y, DataW.trod enc P w base sp hd n f.type [c] = some y := by
  obtain ⟨fuel, hfu⟩ := h
  obtain ⟨xs, n, _, _, _, hl, hg⟩ := DataW.trod_struct ht hfu
  have h1 := hg j f hf
  have hj : j < xs.length := by rw [hl]; exact (Array.getElem?_eq_some_iff.1 hf).1
  have e : (Value.agg cs).cells.toList = cs.toList := rfl
  rw [e, hc] at h1
  exact ⟨n, xs[j], by rw [h1]; exact List.getElem?_eq_getElem hj⟩
theorem agg_int {w : World} {base : Nat} {sp : Nat → Bool} {hd : Bool} {t : TypeId} {fs : Array Field} {cs : Array Value} {d : DataW H} {p : List MemPlace} {k : IntKind} (ht : P.underlying t = some (.struct fs)) (h : DataW.Trod enc P w base sp hd t (.agg cs) d p)
    (j : Nat) (f : Field) (hf : fs[j]? = some f) (hk : P.underlying f.type = some (.int k)) (c : Value) (hc : (cs.toList.drop f.offset).take (P.cellsOf f.type) = [c]) : ∃ z, c = .int k z ∧ (Lit.int k z).wf = true := by
  obtain ⟨n, y, hy⟩ := agg_field ht h j f hf c hc
  obtain ⟨z, hz, -, hw⟩ := DataW.trod_int hk hy
  simp only [List.cons.injEq, and_true] at hz
  exact ⟨z, hz, hw⟩
theorem trod_float {w : World} {base fuel : Nat} {sp : Nat → Bool} {hd : Bool} {t : TypeId} {cs : List Value} {x : DataW H × List MemPlace} {k : FloatKind} (ht : P.underlying t = some (.float k)) (h : DataW.trod enc P w base sp hd fuel t cs = some x) : ∃ b, cs = [.float k b] ∧ (Lit.float k b).wf = true := by
  cases fuel with
  | zero => simp [DataW.trod] at h
  | succ n =>
    unfold DataW.trod at h
    rw [ht] at h
    split at h <;> simp_all
theorem agg_float {w : World} {base : Nat} {sp : Nat → Bool} {hd : Bool} {t : TypeId} {fs : Array Field} {cs : Array Value} {d : DataW H} {p : List MemPlace} {k : FloatKind} (ht : P.underlying t = some (.struct fs)) (h : DataW.Trod enc P w base sp hd t (.agg cs) d p)
    (j : Nat) (f : Field) (hf : fs[j]? = some f) (hk : P.underlying f.type = some (.float k)) (c : Value) (hc : (cs.toList.drop f.offset).take (P.cellsOf f.type) = [c]) : ∃ z, c = .float k z ∧ (Lit.float k z).wf = true := by
  obtain ⟨n, y, hy⟩ := agg_field ht h j f hf c hc
  obtain ⟨z, hz, hw⟩ := trod_float hk hy
  simp only [List.cons.injEq, and_true] at hz
  exact ⟨z, hz, hw⟩
theorem agg_string {w : World} {base : Nat} {sp : Nat → Bool} {hd : Bool} {t : TypeId} {fs : Array Field} {cs : Array Value} {d : DataW H} {p : List MemPlace} (ht : P.underlying t = some (.struct fs)) (h : DataW.Trod enc P w base sp hd t (.agg cs) d p)
    (j : Nat) (f : Field) (hf : fs[j]? = some f) (hk : P.underlying f.type = some .string) (c : Value) (hc : (cs.toList.drop f.offset).take (P.cellsOf f.type) = [c]) : ∃ l : List UInt8, c = .string ⟨l.toArray⟩ ∧ l.length ≤ maxLen := by
  obtain ⟨n, y, hy⟩ := agg_field ht h j f hf c hc
  obtain ⟨s, hz, -, hw⟩ := DataW.trod_string hk hy
  simp only [List.cons.injEq, and_true] at hz
  exact ⟨s.data.toList, hz, by rw [Array.length_toList]; exact hw⟩
/-- No parameter wants a stand-in. -/
theorem plain_of {ps : Array TypeId} (h : (ps.toList.all fun t => !P.wantsStandIn t) = true) (j : Nat) (t : TypeId) (hj : ps[j]? = some t) : P.wantsStandIn t = false := by
  have := (List.all_eq_true.1 h) t (Array.mem_toList_iff.2 (Array.mem_of_getElem? hj))
  simpa using this
end
end Go.Proofs.Ytjffgppdjdmmgaa
