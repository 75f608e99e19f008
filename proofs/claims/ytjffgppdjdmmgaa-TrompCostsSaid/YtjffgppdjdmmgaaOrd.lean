/- A region that draws its order, in which calls that only make memory stand beside variables that are made: whatever yields one value in every world of a class, and leaves a world that has grown, is taken first; what is left is shown to bear such growing in between. Own work. -/
import Derived.Test.YtjffgppdjdmmgaaHas
import Derived.OrdersHeld
import Derived.Deep.RegionHeld
namespace Go.Proofs.Ytjffgppdjdmmgaa
open Go.ChangeShapes Go.WideShapes Go.ChangeAt Go.RowKit

/-- The world has grown, no more. -/
def Ext (w w' : World) : Prop := Below w.heap.size w w'
theorem Ext.refl (w : World) : Ext w w := Below.refl _ _
theorem Ext.trans {a b c : World} (h : Ext a b) (k : Ext b c) : Ext a c := Below.trans h (k.mono h.size)
section
variable {P : Program} {ops : Array Oper} {Q : Exit → Act → World → Prop} {md : Region.Mode} {S : World → Prop}
/-- One value, from every world of S; a world of S is left that has grown. -/
def Gives1 (P : Program) (S : World → Prop) (v : Value) (w : World) : Result Next → Prop
  | .ok (.value u) w' => u = v ∧ S w' ∧ Ext w w'
  | .ok (.enter f args) w' => w' = w ∧ Calls P f args w fun e w2 => e = .returned v ∧ S w2 ∧ Ext w w2
  | _ => False
def YieldsX (P : Program) (ops : Array Oper) (S : World → Prop) (o : Oper) (v : Value) (a : Act) : Prop :=
  (Region.wanted o (yielded ops a.tmps) = true ∧ ∀ w, S w → Gives1 P S v w ((execOp a.eval o).run P w)) ∨ (Region.wanted o (yielded ops a.tmps) = false ∧ v = undef)
/-- Whatever order is picked, and whatever grows in between. -/
def wpAnyX (P : Program) (md : Region.Mode) (ops : Array Oper) (Q : Exit → Act → World → Prop) (S : World → Prop) : Nat → Array Bool → Act → World → Prop
  | 0, listed, a, w => ∀ w1, S w1 → Ext w w1 → Region.ready md ops listed = [] ∧ Q .normal a w1
  | n + 1, listed, a, w => ∀ w1, S w1 → Ext w w1 → (Region.ready md ops listed = [] → Q .normal a w1) ∧
      ∀ i ∈ Region.ready md ops listed, wpOp P ops Q i (fun a' w' => S w' ∧ wpAnyX P md ops Q S n (listed.setIfInBounds i true) a' w') a w1
theorem wpAnyX_ext : ∀ {n : Nat} {listed : Array Bool} {a : Act} {w w' : World}, wpAnyX P md ops Q S n listed a w → Ext w w' → wpAnyX P md ops Q S n listed a w'
  | 0, _, _, _, _, h, he => fun w1 hs h1 => h w1 hs (he.trans h1)
  | _ + 1, _, _, _, _, h, he => fun w1 hs h1 => h w1 hs (he.trans h1)
theorem wpAny_of_x : ∀ (n : Nat) (listed : Array Bool) (a : Act) (w : World), S w → wpAnyX P md ops Q S n listed a w → wpAny P md ops Q n listed a w
  | 0, _, _, w, hs, h => h w hs (Ext.refl w)
  | n + 1, _, _, w, hs, h => ⟨(h w hs (Ext.refl w)).1, fun i hi => wpOp_mono (fun a' w' h' => wpAny_of_x n _ a' w' h'.1 h'.2) ((h w hs (Ext.refl w)).2 i hi)⟩
theorem YieldsX.wpOp {i : Nat} {o : Oper} {v : Value} {a : Act} (hi : ops[i]? = some o) (hy : YieldsX P ops S o v a) {K : Act → World → Prop} {w : World} (hS : S w) (h : ∀ w', S w' → Ext w w' → K (a.put o.dst v) w') : wpOp P ops Q i K a w := by
  unfold Go.wpOp
  simp only [hi]
  rcases hy with ⟨hw, hv⟩ | ⟨hw, rfl⟩
  · have h1 := hv w hS
    simp only [hw, if_true]
    refine .inl ?_
    unfold Oper.wp
    generalize (execOp a.eval o).run P w = r at h1
    cases r with
    | ok n w' =>
      cases n with
      | value u => obtain ⟨rfl, h2, h3⟩ := h1; exact h w' h2 h3
      | enter f args => obtain ⟨rfl, hc⟩ := h1; exact hc.mono fun e w2 ⟨he, h2, h3⟩ => by subst he; exact h w2 h2 h3
      | _ => exact False.elim h1
    | halt x w' => exact False.elim h1
  · simp only [hw, Bool.false_eq_true, if_false]
    exact h w hS (Ext.refl w)
theorem YieldsX.same {o : Oper} {v : Value} {a b : Act} (hy : YieldsX P ops S o v a) (he : execOp b.eval o = execOp a.eval o) (hw : Region.wanted o (yielded ops b.tmps) = Region.wanted o (yielded ops a.tmps)) : YieldsX P ops S o v b := by
  unfold YieldsX at *
  rw [he, hw]
  exact hy
theorem wpOp_putX {j : Nat} {oi oj : Oper} {v : Value} (hj : ops[j]? = some oj) (hap : oi.apart ops oj = true) (hsi : ∀ cs b, oi.op ≠ .select cs b) (hsj : ∀ cs b, oj.op ≠ .select cs b)
    (hQ : ∀ c a w, Q (.panic c) (a.put oi.dst v) w → Q (.panic c) a w) {K : Act → World → Prop} {a : Act} {w : World} (hy : YieldsX P ops S oi v a) (h : wpOp P ops Q j K (a.put oi.dst v) w) :
    wpOp P ops Q j (fun a' w' => YieldsX P ops S oi v a' ∧ K (a'.put oi.dst v) w') a w := by
  obtain ⟨h1, h2, h3⟩ := Oper.apart_spec hap
  have keep : ∀ b : Act, YieldsX P ops S oi v b → ∀ u, YieldsX P ops S oi v (b.put oj.dst u) := fun b hb u => hb.same (execOp_put oi hsi b oj.dst u h3) (wanted_put oi b oj.dst u h3)
  have comm : ∀ u, (a.put oi.dst v).put oj.dst u = (a.put oj.dst u).put oi.dst v := fun u => Act.put_comm a v u h2
  unfold wpOp at *
  simp only [hj] at *
  rw [wanted_put oj a oi.dst v h1] at h
  by_cases hw : Region.wanted oj (yielded ops a.tmps) = true
  · simp only [hw, if_true] at h ⊢
    have hex := execOp_put oj hsj a oi.dst v h1
    rcases h with h | ⟨ha, hl⟩
    · refine .inl ?_
      unfold Oper.wp at *
      rw [hex] at h
      generalize (execOp a.eval oj).run P w = r at h
      cases r with
      | ok n w' =>
        cases n with
        | value u => exact ⟨keep a hy u, by rw [← comm]; exact h⟩
        | skip => exact ⟨keep a hy _, by rw [← comm]; exact h⟩
        | defer d =>
          refine ⟨keep { a with defers := d :: a.defers } (hy.same rfl rfl) undef, ?_⟩
          rw [← Act.put_comm _ v undef h2, ← Act.put_defers]
          exact h
        | enter f args =>
          refine Calls.mono h fun e w2 he => ?_
          cases e with
          | returned u => exact ⟨keep a hy u, by rw [← comm]; exact he⟩
          | panicked c => exact hQ _ _ _ he
          | outgrown => exact he
        | row r args => exact Rows.mono h fun u w2 he => ⟨keep a hy u, by rw [← comm]; exact he⟩
        | _ => exact h
      | halt x w' =>
        cases x with
        | panic u => exact hQ _ _ _ h
        | _ => exact h
    · refine .inr ⟨?_, hl⟩
      unfold Oper.asks at *
      rw [hex] at ha
      exact ha
  · simp only [hw] at h ⊢
    exact ⟨keep a hy _, by rw [← comm]; exact h⟩
theorem wpAnyX_first {i : Nat} {oi : Oper} {v : Value} (hi : ops[i]? = some oi) (hsel : ∀ (j : Nat) (o : Oper) cs b, ops[j]? = some o → o.op ≠ .select cs b) (hQ : ∀ c a w, Q (.panic c) (a.put oi.dst v) w → Q (.panic c) a w) :
    ∀ (n : Nat) (listed : Array Bool) (a : Act) (w : World),
      (∀ j oj, ops[j]? = some oj → j ≠ i → listed.getD j true = false → (∀ e ∈ oj.after, Region.binds md e = true → e.on ≠ i) → oi.apart ops oj = true) → i ∈ Region.ready md ops listed → YieldsX P ops S oi v a →
      wpAnyX P md ops Q S n (listed.setIfInBounds i true) (a.put oi.dst v) w → wpAnyX P md ops Q S (n + 1) listed a w
  | 0, listed, a, w, _, hr, hy, H => fun w1 hs he => ⟨fun h0 => (by rw [h0] at hr; cases hr), fun j hj => by
    by_cases hji : j = i
    · subst hji; exact hy.wpOp hi hs fun w2 h2 e2 => ⟨h2, wpAnyX_ext H (he.trans e2)⟩
    · have := ready_mono hj hji
      rw [(H w1 hs he).1] at this
      cases this⟩
  | n + 1, listed, a, w, hfree, hr, hy, H => fun w1 hs he => ⟨fun h0 => (by rw [h0] at hr; cases hr), fun j hj => by
    by_cases hji : j = i
    · subst hji; exact hy.wpOp hi hs fun w2 h2 e2 => ⟨h2, wpAnyX_ext H (he.trans e2)⟩
    · obtain ⟨hun, oj, hoj, hall⟩ := mem_ready.1 hj
      have hno : ∀ e ∈ oj.after, Region.binds md e = true → e.on ≠ i := fun e hm hb heq => by
        have h1 := hall e hm hb
        have h0 := (mem_ready.1 hr).1
        rw [heq] at h1
        rcases Nat.lt_or_ge i listed.size with h' | h'
        · simp [h'] at h0 h1; rw [h0] at h1; cases h1
        · simp [Array.getElem?_eq_none h'] at h1
      have h2 := wpOp_putX hoj (hfree j oj hoj hji hun hno) (hsel i oi · · hi) (hsel j oj · · hoj) hQ hy ((H w1 hs he).2 j (ready_mono hj hji))
      refine wpOp_mono (fun a' w' h3 => ⟨h3.2.1, wpAnyX_first hi hsel hQ n _ a' w' (fun k ok hk hki hu hn => hfree k ok hk hki ?_ hn) (ready_mono hr (Ne.symm hji)) h3.1 ?_⟩) h2
      · by_cases hjk : j = k
        · subst hjk; exact hun
        · rw [getD_set_ne true hjk] at hu; exact hu
      · rw [Array.setIfInBounds_comm _ _ hji]; exact h3.2.2⟩
/-- Operation i is taken first. -/
theorem wpAnyX_take {i : Nat} {oi : Oper} {v : Value} {n : Nat} {listed : Array Bool} {a : Act} {w : World} (hi : ops[i]? = some oi) (hs : Region.noSelect ops = true) (hf : Region.free md ops listed i = true)
    (hr : (Region.ready md ops listed).contains i = true) (hQ : ∀ c a w, Q (.panic c) (a.put oi.dst v) w → Q (.panic c) a w) (hy : YieldsX P ops S oi v a)
    (h : wpAnyX P md ops Q S n (listed.setIfInBounds i true) (a.put oi.dst v) w) : wpAnyX P md ops Q S (n + 1) listed a w :=
  wpAnyX_first hi (Region.noSelect_spec hs) hQ n listed a w (Region.free_spec hi hf) (by simpa using hr) hy h
/-- A call that is taken first. -/
theorem YieldsX.call {o : Oper} {v : Value} {a : Act} {f : FuncId} {args : Array Value} (hw : Region.wanted o (yielded ops a.tmps) = true) (hr : ∀ w, S w → (execOp a.eval o).run P w = .ok (.enter f args) w)
    (hc : ∀ w, S w → Calls P f args w fun e w2 => e = .returned v ∧ S w2 ∧ Ext w w2) : YieldsX P ops S o v a := .inl ⟨hw, fun w hS => by rw [hr w hS]; exact ⟨rfl, hc w hS⟩⟩
theorem YieldsX.val {o : Oper} {v : Value} {a : Act} (hw : Region.wanted o (yielded ops a.tmps) = true) (hr : ∀ w, S w → (execOp a.eval o).run P w = .ok (.value v) w) : YieldsX P ops S o v a :=
  .inl ⟨hw, fun w hS => by rw [hr w hS]; exact ⟨rfl, hS, Ext.refl w⟩⟩
/-- Whichever of these comes up. -/
def EachX (P : Program) (md : Region.Mode) (ops : Array Oper) (Q : Exit → Act → World → Prop) (S : World → Prop) (n : Nat) (listed : Array Bool) (a : Act) (w : World) (rs : List Nat) : Prop :=
  ∀ i ∈ rs, wpOp P ops Q i (fun a' w' => S w' ∧ wpAnyX P md ops Q S n (listed.setIfInBounds i true) a' w') a w
theorem EachX.nil {n : Nat} {listed : Array Bool} {a : Act} {w : World} : EachX P md ops Q S n listed a w [] := fun _ h => by cases h
theorem EachX.cons {n : Nat} {listed : Array Bool} {a : Act} {w : World} {i : Nat} {o : Oper} {rs : List Nat} (ho : ops[i]? = some o)
    (h : ∀ K : Act → World → Prop, Shut (∀ a w, S w → wpAnyX P md ops Q S n (listed.setIfInBounds i true) a w → K a w) → if Region.wanted o (yielded ops a.tmps) = true then Oper.wp P o a w K Q else K (a.put o.dst undef) w)
    (hs : EachX P md ops Q S n listed a w rs) : EachX P md ops Q S n listed a w (i :: rs) := fun j hj => by
  rcases List.mem_cons.1 hj with rfl | hj
  · exact wpOp_step ho (fun K hK => h K (fun a w h1 h2 => hK a w ⟨h1, h2⟩))
  · exact hs j hj
theorem wpAnyX_ready {rs : List Nat} {n : Nat} {listed : Array Bool} {a : Act} {w : World} (hr : Region.ready md ops listed = rs) (hne : rs ≠ []) (h : ∀ w1, S w1 → Ext w w1 → EachX P md ops Q S n listed a w1 rs) : wpAnyX P md ops Q S (n + 1) listed a w :=
  fun w1 hs he => ⟨fun h0 => absurd (hr ▸ h0) hne, hr ▸ h w1 hs he⟩
theorem wpAnyX_done {listed : Array Bool} {a : Act} {w : World} (hr : Region.ready md ops listed = []) (h : ∀ w1, S w1 → Ext w w1 → Q .normal a w1) : ∀ n, wpAnyX P md ops Q S n listed a w
  | 0 => fun w1 hs he => ⟨hr, h w1 hs he⟩
  | _ + 1 => fun w1 hs he => ⟨fun _ => h w1 hs he, by rw [hr]; simp⟩
theorem wp_region_x {id : Nat} {a : Act} {w : World} (hm : P.follows .mixedOrders = true) (hS : S w.drew) (h : wpAnyX P .any ops Q S ops.size (Array.replicate ops.size false) a w.drew) : (Code.region id ops true).wp P Q a w :=
  wp_region_any hm (wpAny_of_x _ _ _ _ hS h)
end
/-- A variable of three cells that is stored into. -/
theorem set3_has {w : World} {g : Nat} {x0 x1 x2 a b c : Value} (h0 : Has w ⟨g, 0, none⟩ x0) (h1 : Has w ⟨g, 1, none⟩ x1) (h2 : Has w ⟨g, 2, none⟩ x2) (i : Nat) (u : Value) (hu : (#[a, b, c] : Array Value)[i]? = some u) :
    Has (((w.setCell ⟨g, 0, none⟩ a).setCell ⟨g, 1, none⟩ b).setCell ⟨g, 2, none⟩ c) ⟨g, i, none⟩ u := by
  have hne : ∀ i j, i ≠ j → (⟨g, i, none⟩ : Addr) ≠ ⟨g, j, none⟩ := fun i j hi e => hi (by simp only [Addr.mk.injEq] at e; omega)
  match i, hu with
  | 0, hu => simp at hu; subst hu; exact (h0.same.other (hne 1 0 (by decide))).other (hne 2 0 (by decide))
  | 1, hu => simp at hu; subst hu; exact ((h1.other (hne 0 1 (by decide))).same).other (hne 2 1 (by decide))
  | 2, hu => simp at hu; subst hu; exact ((h2.other (hne 0 2 (by decide))).other (hne 1 2 (by decide))).same
  | n + 3, hu => simp at hu
theorem set3_other {w : World} {g : Nat} {p : Addr} {x a b c : Value} (h : Has w p x) (hne : p.block ≠ g) : Has (((w.setCell ⟨g, 0, none⟩ a).setCell ⟨g, 1, none⟩ b).setCell ⟨g, 2, none⟩ c) p x :=
  ((h.other (fun e => hne (by rw [← e]))).other (fun e => hne (by rw [← e]))).other (fun e => hne (by rw [← e]))
theorem set3_below {B : Nat} {w w' : World} {g : Nat} {a b c : Value} (h : Below B w w') (hg : B ≤ g) : Below B w (((w'.setCell ⟨g, 0, none⟩ a).setCell ⟨g, 1, none⟩ b).setCell ⟨g, 2, none⟩ c) :=
  ((h.setCell (p := ⟨g, 0, none⟩) hg a).setCell (p := ⟨g, 1, none⟩) hg b).setCell (p := ⟨g, 2, none⟩) hg c
end Go.Proofs.Ytjffgppdjdmmgaa
