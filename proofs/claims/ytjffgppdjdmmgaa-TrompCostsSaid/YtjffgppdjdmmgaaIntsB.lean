/- Slices of ints: what they read as (nil let in), cuts, what a call owns of them, appending one. Own work. -/
import Derived.Test.YtjffgppdjdmmgaaRows
import Derived.WalkKit
import Derived.ProofKit
import Derived.OpenShut
import Derived.WalkLawsBesides
import Derived.BigQuiet
import Derived.Deep.QuietTactic
import Derived.Laws.AppendOwn
import Derived.Laws.OwnMore
import Derived.Laws.MakeOwn
import Derived.Below
import Derived.Handy
import Derived.OwnWalk
import Derived.Lib.Hide
import Derived.Outline
namespace Go.Proofs.Ytjffgppdjdmmgaa
open Go.ChangeShapes Go.WideShapes Go.ChangeAt Go.RowKit

theorem ret_int {k : IntKind} {a b : Int} (h : a = b) : Ending.returned (.int k a) = .returned (.int k b) := by rw [h]
theorem ret_bool {a b : Bool} (h : a = b) : Ending.returned (.bool a) = .returned (.bool b) := by rw [h]
theorem ret_str {a b : ByteArray} (h : a = b) : Ending.returned (.string a) = .returned (.string b) := by rw [h]
theorem infoInt : (Try.prog.info? 3).map (fun i => (i.zero, i.size, i.bytes)) = some (some (.int .i64 0), 1, 8) := by kernel_rfl
theorem add_block (a : Addr) (n : Nat) : (a.add n).block = a.block := by unfold Addr.add; split <;> rfl
theorem add_add (a : Addr) (i j : Nat) : (a.add i).add j = a.add (i + j) := by
  unfold Addr.add
  by_cases hi : i = 0 <;> by_cases hj : j = 0 <;> simp [hi, hj, Nat.add_assoc]
theorem cell_lt {w : World} {p : Addr} {x : Value} (h : w.cell? p = some x) : p.block < w.heap.size := World.block_lt_of_cell? _ _ h
theorem below_alloc (w : World) (o : Obj) : Below w.heap.size w (w.alloc o) := (Below.refl _ _).alloc (Nat.le_refl _) _
theorem below_drewN {B : Nat} {a w : World} (h : Below B a w) (n : Nat) : Below B a (w.drewN n) := ⟨h.os, h.tape, h.output, h.size, h.block⟩

/-- The slice's places read as the ints l. -/
def RI (w : World) (A : Option Addr) (c : Nat) (l : List Int) : Prop :=
  l.length ≤ c ∧ c ≤ maxLen ∧ (A = none → c = 0) ∧ ∀ k (h : k < l.length), ∃ ad, A = some ad ∧ w.cell? (ad.add k) = some (.int .i64 l[k])
section
variable {w w' : World} {B c : Nat} {A : Option Addr} {l : List Int}
theorem RI.len (h : RI w A c l) : l.length ≤ c := h.1
theorem RI.max (h : RI w A c l) : l.length ≤ maxLen := Nat.le_trans h.1 h.2.1
theorem RI.at_ (h : RI w A c l) {k : Nat} (hk : k < l.length) : ∃ ad, A = some ad ∧ w.cell? (ad.add k) = some (.int .i64 l[k]) := h.2.2.2 k hk
theorem RI.keep (h : RI w A c l) (hk : ∀ p x, w.cell? p = some x → w'.cell? p = some x) : RI w' A c l :=
  ⟨h.1, h.2.1, h.2.2.1, fun k hl => by
    obtain ⟨ad, e, hc⟩ := h.2.2.2 k hl
    exact ⟨ad, e, hk _ _ hc⟩⟩
theorem RI.below (h : RI w A c l) (hb : Below w.heap.size w w') : RI w' A c l := h.keep fun _ _ hc => (hb.cell (cell_lt hc)).trans hc
theorem RI.drewN (h : RI w A c l) (n : Nat) : RI (w.drewN n) A c l := h
theorem RI.alloc (h : RI w A c l) (o : Obj) : RI (w.alloc o) A c l := h.below (below_alloc w o)
theorem RI.nil (w : World) : RI w none 0 [] := ⟨Nat.le_refl _, Nat.zero_le _, fun _ => rfl, fun k hk => absurd hk (by simp)⟩
/-- s[k:] -/
theorem RI.cut (h : RI w A c l) {k : Nat} (hk : k ≤ l.length) : RI w (if c = k then A else A.map (·.add (k * 1))) (c - k) (l.drop k) := by
  refine ⟨by rw [List.length_drop]; have := h.1; omega, by have := h.2.1; omega, fun e => ?_, fun j hj => ?_⟩
  · split at e
    · omega
    · have : A = none := by cases A <;> simp_all
      have := h.2.2.1 this; omega
  · rw [List.length_drop] at hj
    obtain ⟨ad, rfl, hc⟩ := h.2.2.2 (k + j) (by omega)
    rw [if_neg (by have := h.1; omega)]
    refine ⟨ad.add (k * 1), rfl, ?_⟩
    rw [add_add, Nat.mul_one, hc, List.getElem_drop]
end
/-- A row of ints of the call's own. -/
def OwnI (w : World) (B : Nat) (v : Value) (l : List Int) : Prop := w.ownsRow B 3 1 v l.length (l.map (Value.int .i64))
theorem OwnI.reads {w : World} {B : Nat} {v : Value} {l : List Int} (h : OwnI w B v l) : ∃ A c, v = .slice A l.length c ∧ RI w A c l := by
  unfold OwnI at h
  have hh := h
  rcases h.2 with ⟨hv, h0⟩ | ⟨g, cap, cur, hv, _, hg, hn, hm, _, _⟩
  · exact ⟨none, 0, by rw [hv, h0], by omega, Nat.zero_le _, fun _ => rfl, fun k hk => absurd hk (by omega)⟩
  · refine ⟨some ⟨g, 0, none⟩, cap, hv, hn, hm, fun e => (by cases e), fun k hk => ⟨_, rfl, ?_⟩⟩
    exact hh.cells (g := g) (by rw [hv]; rfl) k _ (by simp [hk])
theorem OwnI.nil (w : World) (B : Nat) : OwnI w B (.slice none 0 0) [] := World.ownsRow_nil _ _ _ _
/-- A new literal of ints. -/
theorem ri_lit (w : World) (l : List Int) (n : Nat) (hn : l.length = n) (hm : n ≤ maxLen) (cs : Array Value) (hc : cs = (l.map (Value.int .i64)).toArray) :
    RI (w.alloc (.cells cs 3)) (some ⟨w.heap.size, 0, none⟩) n l := by
  subst hn; subst hc
  have h := World.ownsRow_lit (e := 3) (size := 1) w (l.map (Value.int .i64)).toArray l.length (Nat.le_refl _) hm (by simp)
  have h2 : OwnI (w.alloc (.cells (l.map (Value.int .i64)).toArray 3)) w.heap.size (.slice (some ⟨w.heap.size, 0, none⟩) l.length l.length) l := by simpa [OwnI] using h
  obtain ⟨A, c, e, h3⟩ := h2.reads
  cases e
  exact h3
/-- A block that is known whole. -/
def Blk (w : World) (g : Nat) (t : TypeId) (cs : Array Value) : Prop := w.heap[g]? = some (.cells cs t (0, 0))
section
variable {w w' : World} {g : Nat} {t : TypeId} {cs : Array Value}
theorem Blk.lt (h : Blk w g t cs) : g < w.heap.size := by
  rcases Nat.lt_or_ge g w.heap.size with hlt | hge
  · exact hlt
  · unfold Blk at h; rw [Array.getElem?_eq_none hge] at h; cases h
theorem Blk.cell (h : Blk w g t cs) (i : Nat) : w.cell? ⟨g, i, none⟩ = cs[i]? := cell_of_row w g i cs t (0, 0) h
theorem Blk.frozen (h : Blk w g t cs) (i : Nat) : w.frozen? ⟨g, i, none⟩ = false := by
  unfold Blk at h
  simp [World.frozen?, h]
theorem Blk.new (w : World) (t : TypeId) (cs : Array Value) : Blk (w.alloc (.cells cs t)) w.heap.size t cs := heap_alloc_new w _
theorem Blk.set_ (h : Blk w g t cs) (i : Nat) (u : Value) : Blk (w.setCell ⟨g, i, none⟩ u) g t (cs.setIfInBounds i u) := by
  unfold Blk at h ⊢
  simp [World.setCell, Array.getElem?_modify, h]
theorem Blk.below {B : Nat} (h : Blk w g t cs) (hb : Below B w w') (hg : g < B) : Blk w' g t cs := (hb.block g hg).trans h
end
theorem Blk.ints {w : World} {g : Nat} {l : List Int} {n : Nat} (h : Blk w g 3 (l.map (Value.int .i64)).toArray) (hn : l.length = n) (hm : n ≤ maxLen) : RI w (some ⟨g, 0, none⟩) n l := by
  subst hn
  refine ⟨Nat.le_refl _, hm, fun e => (by cases e), fun k hk => ⟨_, rfl, ?_⟩⟩
  have : (⟨g, 0, none⟩ : Addr).add k = ⟨g, k, none⟩ := by unfold Addr.add; split <;> simp_all
  rw [this, h.cell]; simp [hk]

end Go.Proofs.Ytjffgppdjdmmgaa
