/- Cells of memory that may be written: what they hold, what a call leaves; a list of ints with room behind it. Own work. -/
import Derived.Test.YtjffgppdjdmmgaaIntsB
import Derived.Test.YtjffgppdjdmmgaaCell
import Derived.WalkKit
import Derived.ProofKit
import Derived.OpenShut
import Derived.WalkLawsBesides
import Derived.BigQuiet
import Derived.Deep.QuietTactic
import Derived.Laws.AppendOwn
import Derived.Laws.OwnMore
import Derived.Laws.MakeOwn
import Derived.Below
import Derived.Handy
import Derived.OwnWalk
import Derived.ArgAppend
import Derived.Deep.RegionLaw
import Derived.Lib.Hide
import Derived.Outline
namespace Go.Proofs.Ytjffgppdjdmmgaa
open Go.ChangeShapes Go.WideShapes Go.ChangeAt Go.RowKit CellM

theorem ret_2 {k l : IntKind} {a b c d : Int} (h : a = b) (g : c = d) : Ending.returned (.tuple #[.int k a, .int l c]) = .returned (.tuple #[.int k b, .int l d]) := by rw [h, g]

/-- The cell holds x, and may be written. -/
def Has (w : World) (p : Addr) (x : Value) : Prop := w.cell? p = some x ∧ w.frozen? p = false
section
variable {w w' w'' : World} {p q : Addr} {x y : Value} {B : Nat}
theorem Has.cell (h : Has w p x) : w.cell? p = some x := h.1
theorem Has.fz (h : Has w p x) : w.frozen? p = false := h.2
theorem Has.lt (h : Has w p x) : p.block < w.heap.size := cell_lt h.1
theorem Has.below (h : Has w p x) (hb : Below B w w') (hp : p.block < B) : Has w' p x := ⟨(hb.cell hp).trans h.1, (hb.frozen hp).trans h.2⟩
theorem Has.drewN (h : Has w p x) (n : Nat) : Has (w.drewN n) p x := h
theorem Has.alloc (h : Has w p x) (o : Obj) : Has (w.alloc o) p x := h.below ((Below.refl _ _).alloc (Nat.le_refl _) o) h.lt
theorem Has.other (h : Has w p x) (hne : q ≠ p) : Has (w.setCell q y) p x :=
  ⟨by rw [World.cell?_setCell_other _ _ _ _ hne]; exact h.1, by rw [World.frozen?_setCell]; exact h.2⟩
theorem Has.same (h : Has w p x) : Has (w.setCell p y) p y :=
  ⟨World.cell?_setCell_same _ _ _ h.1, by rw [World.frozen?_setCell]; exact h.2⟩
theorem Has.grown (h : Has w p x) (hg : w.grownBy w' none) : Has w' p x := h.below (Below.grown (Below.refl _ _) hg (Nat.le_refl _) (fun k hk => by cases hk)) h.lt
theorem has_new (w : World) (cs : Array Value) (t : TypeId) (i : Nat) (x : Value) (hx : cs[i]? = some x) : Has (w.alloc (.cells cs t)) ⟨w.heap.size, i, none⟩ x := by
  have hb : (w.alloc (.cells cs t)).heap[w.heap.size]? = some (.cells cs t (0, 0)) := heap_alloc_new w _
  exact ⟨by rw [cell_of_row _ _ i cs t (0, 0) hb]; exact hx, by unfold World.frozen?; rw [show (w.alloc (.cells cs t)).heap[(⟨w.heap.size, i, none⟩ : Addr).block]? = some (.cells cs t (0, 0)) from hb]; simp⟩

/-- The cells that are none of F's are as they were. -/
structure Kept (F : Addr → Prop) (w w' : World) : Prop where
  has : ∀ p x, Has w p x → ¬ F p → Has w' p x
  live : ∀ p x, Has w p x → ∃ y, Has w' p y
  size : w.heap.size ≤ w'.heap.size
variable {F G : Addr → Prop}
theorem Kept.refl (F : Addr → Prop) (w : World) : Kept F w w := ⟨fun _ _ h _ => h, fun _ x h => ⟨x, h⟩, Nat.le_refl _⟩
theorem Kept.mono (h : Kept F w w') (hf : ∀ p, F p → G p) : Kept G w w' := ⟨fun p x hx hg => h.has p x hx (fun hp => hg (hf p hp)), h.live, h.size⟩
/-- What was not there may be let go, too. -/
theorem Kept.trans' (h : Kept F w w') (h' : Kept G w' w'') (hg : ∀ p, G p → F p ∨ w.heap.size ≤ p.block) : Kept F w w'' :=
  ⟨fun p x hx hf => h'.has p x (h.has p x hx hf) (fun hp => by
    rcases hg p hp with h1 | h1
    · exact hf h1
    · have := hx.lt; omega), fun p x hx => by
      obtain ⟨y, hy⟩ := h.live p x hx
      exact h'.live p y hy, Nat.le_trans h.size h'.size⟩
theorem Kept.trans (h : Kept F w w') (h' : Kept F w' w'') : Kept F w w'' := h.trans' h' (fun _ h => .inl h)
theorem Kept.below (hb : Below w.heap.size w w') : Kept F w w' := ⟨fun _ _ hx _ => hx.below hb hx.lt, fun _ x hx => ⟨x, hx.below hb hx.lt⟩, hb.size⟩
theorem Kept.alloc (h : Kept F w w') (o : Obj) : Kept F w (w'.alloc o) := h.trans (.below ((Below.refl _ _).alloc (Nat.le_refl _) o))
theorem Kept.drewN (h : Kept F w w') (n : Nat) : Kept F w (w'.drewN n) := h.trans (.below (below_drewN (Below.refl _ _) n))
theorem Kept.setCell (h : Kept F w w') (hp : F p) (y : Value) : Kept F w (w'.setCell p y) :=
  h.trans ⟨fun q x hx hf => hx.other (fun e => hf (e ▸ hp)), fun q x hx => by
    by_cases e : p = q
    · subst e; exact ⟨_, hx.same⟩
    · exact ⟨_, hx.other e⟩, ((Below.refl 0 w').setCell (Nat.zero_le _) y).size⟩
theorem kept_set (w : World) (p : Addr) (y : Value) : Kept (fun q => q = p) w (w.setCell p y) := (Kept.refl (fun q => q = p) w).setCell rfl y
theorem Kept.grown (h : Kept F w w') (hg : w'.grownBy w'' none) : Kept F w w'' := h.trans (.below (Below.grown (Below.refl _ _) hg (Nat.le_refl _) (fun k hk => by cases hk)))
end

/-- v is a slice that reads as l, at the address h, o; c cells are its. -/
structure Cand (w : World) (v : Value) (h o c : Nat) (l : List Int) : Prop where
  v : v = .slice (some ⟨h, o, none⟩) l.length c
  le : l.length ≤ c
  max : c ≤ maxLen
  at_ : ∀ k x, l[k]? = some x → Has w ⟨h, o + k, none⟩ (.int .i64 x)
  room : ∀ k, k < c → ∃ x, Has w ⟨h, o + k, none⟩ x
section
variable {w w' : World} {v : Value} {h o c : Nat} {l : List Int} {F : Addr → Prop}
theorem Cand.keep (H : Cand w v h o c l) (hk : Kept F w w') (hf : ∀ k, k < c → ¬ F ⟨h, o + k, none⟩) : Cand w' v h o c l :=
  ⟨H.v, H.le, H.max, fun k x hx => hk.has _ _ (H.at_ k x hx) (hf k (Nat.lt_of_lt_of_le (List.getElem?_eq_some_iff.1 hx).1 H.le)), fun k hc => by
    obtain ⟨x, hx⟩ := H.room k hc
    exact ⟨x, hk.has _ _ hx (hf k hc)⟩⟩
theorem Cand.alloc (H : Cand w v h o c l) (b : Obj) : Cand (w.alloc b) v h o c l := H.keep (F := fun _ => False) ((Kept.refl _ _).alloc b) (fun _ _ h => h)
theorem Cand.drewN (H : Cand w v h o c l) (n : Nat) : Cand (w.drewN n) v h o c l := H.keep (F := fun _ => False) ((Kept.refl _ _).drewN n) (fun _ _ h => h)
theorem Cand.below {B : Nat} (H : Cand w v h o c l) (hb : Below B w w') (hB : h < B) : Cand w' v h o c l :=
  ⟨H.v, H.le, H.max, fun k x hx => (H.at_ k x hx).below hb hB, fun k hc => by
    obtain ⟨x, hx⟩ := H.room k hc
    exact ⟨x, hx.below hb hB⟩⟩
theorem Cand.lt (H : Cand w v h o c l) (hne : l ≠ []) : h < w.heap.size := by
  cases l with
  | nil => exact absurd rfl hne
  | cons x l => exact (H.at_ 0 x rfl).lt
/-- One more, into the room. -/
theorem Cand.into (H : Cand w v h o c l) (hl : l.length < c) (x : Int) : Cand (w.setCell ⟨h, o + l.length, none⟩ (.int .i64 x)) (.slice (some ⟨h, o, none⟩) (l.length + 1) c) h o c (l ++ [x]) := by
  obtain ⟨old, hold⟩ := H.room _ hl
  refine ⟨by simp, by simp; omega, H.max, fun k y hy => ?_, fun k hk => ?_⟩
  · rcases Nat.lt_or_ge k l.length with hkl | hkl
    · rw [List.getElem?_append_left hkl] at hy
      exact (H.at_ k y hy).other (fun e => by simp only [Addr.mk.injEq] at e; omega)
    · have hk2 : k = l.length := by have := (List.getElem?_eq_some_iff.1 hy).1; simp at this; omega
      subst hk2
      simp at hy
      subst hy
      exact hold.same
  · by_cases e : k = l.length
    · subst e; exact ⟨_, hold.same⟩
    · obtain ⟨y, hy⟩ := H.room k hk
      exact ⟨y, hy.other (fun e => by simp only [Addr.mk.injEq] at e; omega)⟩
/-- A row of the call's own. -/
theorem Cand.own {B : Nat} (H : w.ownsRow B 3 1 v l.length (l.map (Value.int .i64))) (hne : l ≠ []) : ∃ g c, B ≤ g ∧ Cand w v g 0 c l := by
  rcases H.2 with ⟨_, h0⟩ | ⟨g, cap, cur, hv, hg, hh, hn, hm, hs, hx⟩
  · exact absurd (List.eq_nil_of_length_eq_zero h0) hne
  · have hh2 : w.heap[g]? = some (.cells cur 3 (0, 0)) := hh
    have hhas : ∀ k, k < cur.size → ∃ x, Has w ⟨g, 0 + k, none⟩ x := fun k hk => ⟨cur[k], by rw [Nat.zero_add, cell_of_row _ _ k cur _ (0, 0) hh2]; exact Array.getElem?_eq_getElem hk, by simp [World.frozen?, hh2]⟩
    refine ⟨g, cap, hg, hv, hn, hm, fun k x hx' => ?_, fun k hk => hhas k (by omega)⟩
    have hk := (List.getElem?_eq_some_iff.1 hx').1
    obtain ⟨y, hy⟩ := hhas k (by omega)
    have hc := H.cells (g := g) (by rw [hv]; rfl) k (.int .i64 x) (by simp [hx'])
    have : (⟨g, 0, none⟩ : Addr).add k = ⟨g, 0 + k, none⟩ := by unfold Addr.add; split <;> simp_all
    rw [this] at hc
    exact ⟨hc, hy.2⟩
end

/-- A call that writes into F's blocks and new ones alone. -/
structure Step (F : Nat → Prop) (w w' : World) : Prop where
  kept : Kept (fun p => F p.block) w w'
  below : ∀ B, (∀ b, F b → B ≤ b) → B ≤ w.heap.size → Below B w w'
  block : ∀ b, b < w.heap.size → ¬ F b → w'.heap[b]? = w.heap[b]?
section
variable {w w' w'' : World} {F G : Nat → Prop}
theorem Step.refl (F : Nat → Prop) (w : World) : Step F w w := ⟨.refl _ _, fun _ _ _ => .refl _ _, fun _ _ _ => rfl⟩
theorem Step.trans' (h : Step F w w') (h' : Step G w' w'') (hg : ∀ b, G b → F b ∨ w.heap.size ≤ b) : Step F w w'' :=
  ⟨h.kept.trans' h'.kept (fun p hp => hg _ hp), fun B hB hw => (h.below B hB hw).trans (h'.below B (fun b hb => by
    rcases hg b hb with h1 | h1
    · exact hB b h1
    · omega) (Nat.le_trans hw h.kept.size)), fun b hb hf => (h'.block b (Nat.lt_of_lt_of_le hb h.kept.size) (fun hgb => by
    rcases hg b hgb with h1 | h1
    · exact hf h1
    · omega)).trans (h.block b hb hf)⟩
theorem Step.trans (h : Step F w w') (h' : Step F w' w'') : Step F w w'' := h.trans' h' (fun _ h => .inl h)
theorem Step.of_below (hb : Below w.heap.size w w') : Step F w w' := ⟨.below hb, fun _ _ hw => hb.mono hw, fun b h _ => hb.block b h⟩
theorem Step.alloc (h : Step F w w') (o : Obj) : Step F w (w'.alloc o) := h.trans (.of_below ((Below.refl _ _).alloc (Nat.le_refl _) o))
theorem Step.drewN (h : Step F w w') (n : Nat) : Step F w (w'.drewN n) := h.trans (.of_below (below_drewN (Below.refl _ _) n))
theorem Step.setCell (h : Step F w w') {p : Addr} (hp : F p.block ∨ w.heap.size ≤ p.block) (y : Value) : Step F w (w'.setCell p y) :=
  h.trans' (G := fun b => b = p.block) ⟨(Kept.refl (fun q => q.block = p.block) _).setCell rfl y, fun B hB _ => (Below.refl _ _).setCell (hB _ rfl) y, fun b _ hb => Below.heap_setCell _ _ _ _ hb⟩ (fun b hb => by subst hb; exact hp)
end

/-- What an append of one int leaves. -/
structure Onto1 (w w' : World) (v' : Value) (h o c : Nat) (l : List Int) (x : Int) : Prop where
  ex : ∃ h' o' c', Cand w' v' h' o' c' (l ++ [x]) ∧ ((h' = h ∧ o' = o ∧ c' = c ∧ l.length < c) ∨ (c ≤ l.length ∧ w.heap.size ≤ h'))
  kept : Kept (fun p => l.length < c ∧ p = ⟨h, o + l.length, none⟩) w w'
  below : ∀ B, B ≤ h → B ≤ w.heap.size → Below B w w'
  block : ∀ b, b < w.heap.size → (l.length < c → b ≠ h) → w'.heap[b]? = w.heap[b]?
section
variable {w : World} {ops : Array Oper} {rest : List Oper} {op : Oper} {a : Act} {Q : Exit → Act → World → Prop}
/-- append of one int -/
theorem app_cand (hgd : op.guard = none) (s x : Operand)
    (ho : op.op = .call { callee := .builtin .append, args := #[s, x], argTypes := #[24, 24] })
    {v : Value} {h o c : Nat} {l : List Int} (hc : Cand w v h o c l) (hs : a.eval s = v) (hm : l.length ≤ 100000)
    {ad : Addr} {m : Int} (hx : a.eval x = .slice (some ad) 1 1) (h1 : w.cell? (ad.add 0) = some (.int .i64 m))
    (hK : ∀ v' w', Onto1 w w' v' h o c l m → wpList Try.prog ops Q rest (a.put op.dst v') w') :
    wpList Try.prog ops Q (op :: rest) a w := by
  obtain ⟨i0, hi, hz0, hz1, hz2⟩ := info_parts infoInt
  have hcells : ∀ j u, [Value.int .i64 m][j]? = some u → w.cell? (ad.add j) = some u := by
    intro j u hj
    cases j with
    | zero => simp at hj; subst hj; exact h1
    | succ j => simp at hj
  have hu : Try.prog.underlying 24 = some (.slice 3) := by kernel_rfl
  have hone : ∀ u ∈ [Value.int .i64 m], u.oneCell' = true := by intro u hu; simp at hu; subst hu; rfl
  have holds : ∀ j u, (l.map (Value.int .i64))[j]? = some u → w.cell? ⟨h, o + j, none⟩ = some u := by
    intro j u hj
    rw [List.getElem?_map] at hj
    cases hl : l[j]? with
    | none => rw [hl] at hj; cases hj
    | some y => rw [hl] at hj; cases hj; exact (hc.at_ j y hl).1
  refine wpList_append_arg w hgd s x 24 ho 3 i0 (.int .i64 0) 1 8 hu hi hz0 hz1 hz2 rfl (by decide) h o l.length c (l.map (Value.int .i64)) (by rw [hs, hc.v]) (by simp) holds ad 1 1 [.int .i64 m] hx (by simp) hcells hone ?_ (by unfold maxLen; omega) (by omega) ?_ ?_
  · intro hr j hj
    have hj0 : j = 0 := by simp at hj; omega
    subst hj0
    obtain ⟨y, hy⟩ := hc.room l.length (by omega)
    simp only [Nat.mul_one, Nat.add_zero]
    exact ⟨by rw [hy.1]; rfl, hy.2⟩
  · intro hr
    have hlt : l.length < c := by omega
    refine hK _ _ ⟨⟨h, o, c, ?_, .inl ⟨rfl, rfl, rfl, hlt⟩⟩, ?_, ?_, ?_⟩
    · have := hc.into hlt m
      simpa [World.setCells] using this
    · simp only [World.setCells, Nat.mul_one]
      exact (Kept.refl _ _).setCell ⟨hlt, rfl⟩ _
    · intro B hB _
      simp only [World.setCells, Nat.mul_one]
      exact (Below.refl _ _).setCell hB _
    · intro b _ hb
      simp only [World.setCells, Nat.mul_one]
      exact Below.heap_setCell _ _ _ _ (hb hlt)
  · intro hg v' w' hown hgr
    have e : l.map (Value.int .i64) ++ [.int .i64 m] = (l ++ [m]).map (Value.int .i64) := by simp
    rw [e] at hown
    have hown2 : w'.ownsRow w.heap.size 3 1 v' (l ++ [m]).length ((l ++ [m]).map (Value.int .i64)) := by rw [List.length_append]; exact hown
    obtain ⟨g, c', hgB, hcand⟩ := Cand.own hown2 (by simp)
    exact hK _ _ ⟨⟨g, 0, c', hcand, .inr ⟨by omega, hgB⟩⟩, (Kept.refl _ _).grown hgr, fun B _ hB => Below.grown (Below.refl _ _) hgr hB (fun k hk => by cases hk), fun b hb _ => hgr.block b hb (fun e => by cases e)⟩
end
def upd {α : Type} (f : Nat → α) (t : Nat) (x : α) : Nat → α := fun i => if i = t then x else f i
theorem upd_same {α : Type} (f : Nat → α) (t : Nat) (x : α) : upd f t x t = x := by simp [upd]
theorem upd_other {α : Type} (f : Nat → α) (t : Nat) (x : α) {i : Nat} (h : i ≠ t) : upd f t x i = f i := by simp [upd, h]

/-- The blocks F, and new ones. -/
def More (w : World) (F : Nat → Prop) : Nat → Prop := fun b => F b ∨ w.heap.size ≤ b
theorem more_more {w w' : World} {F : Nat → Prop} (h : w.heap.size ≤ w'.heap.size) (b : Nat) (hb : More w F b ∨ w'.heap.size ≤ b) : More w F b := by
  rcases hb with hb | hb
  · exact hb
  · exact .inr (Nat.le_trans h hb)
end Go.Proofs.Ytjffgppdjdmmgaa
