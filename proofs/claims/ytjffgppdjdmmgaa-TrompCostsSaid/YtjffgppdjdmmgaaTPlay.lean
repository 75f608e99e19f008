/- tape's Play. Own work. -/
import Derived.Test.YtjffgppdjdmmgaaTTold
import Derived.Test.YtjffgppdjdmmgaaTPerf2
import Derived.Deep.RegionWith
namespace Go.Proofs.Ytjffgppdjdmmgaa
open Go.ChangeShapes Go.WideShapes Go.ChangeAt Go.RowKit CellM TapeM

def nilS : Value := .slice none 0 0
/-- What the call has made before the operation begins. -/
def W1 (w : World) (AA : Option Addr) (n ac : Nat) : World :=
  ((w.alloc (.cells #[.bool false, .slice none 0 0, .slice none 0 0, .slice none 0 0] 30)).alloc (.cells #[.int .i64 1, .slice AA n ac, .bool false, .slice none 0 0, .slice none 0 0, .slice none 0 0] 56)).alloc (.cells #[.pointer (some ⟨w.heap.size + 1, 0, none⟩)] 33)
/-- The blocks of the operation's Mem. -/
def mineF (w wx : World) : Nat → Prop := fun b => b = w.heap.size + 1 ∨ (w.heap.size + 3 ≤ b ∧ b < wx.heap.size)
structure Started (w wx : World) (AA : Option Addr) (ac : Nat) (ans l : List Int) : Prop where
  at_ : PT wx (w.heap.size + 1) 1 AA ac ans ⟨[], [], short l⟩ (mineF w wx)
  o0 : Has wx ⟨w.heap.size, 0, none⟩ (.bool false)
  o1 : Has wx ⟨w.heap.size, 1, none⟩ (.slice none 0 0)
  o2 : Has wx ⟨w.heap.size, 2, none⟩ (.slice none 0 0)
  o3 : Has wx ⟨w.heap.size, 3, none⟩ (.slice none 0 0)
  box : Has wx ⟨w.heap.size + 2, 0, none⟩ (.pointer (some ⟨w.heap.size + 1, 0, none⟩))
  below : Below w.heap.size w wx
section
variable {w w2 : World} {AA : Option Addr} {ac : Nat} {ans l : List Int} {v : Value}
theorem size_alloc' (w : World) (o : Obj) : (w.alloc o).heap.size = w.heap.size + 1 := by simp
theorem w1_size (w : World) (AA : Option Addr) (n ac : Nat) : (W1 w AA n ac).heap.size = w.heap.size + 3 := by simp [W1]
theorem w1_below (w : World) (AA : Option Addr) (n ac : Nat) : Below w.heap.size w (W1 w AA n ac) := ((((Below.refl _ _).alloc (Nat.le_refl _) _).alloc (by simp) _).alloc (by simp; omega) _)
theorem w1_out (w : World) (AA : Option Addr) (n ac : Nat) (i : Nat) (x : Value) (hx : (#[.bool false, .slice none 0 0, .slice none 0 0, .slice none 0 0] : Array Value)[i]? = some x) : Has (W1 w AA n ac) ⟨w.heap.size, i, none⟩ x :=
  ((has_new w _ _ i x hx).alloc _).alloc _
theorem w1_mem (w : World) (AA : Option Addr) (n ac : Nat) (i : Nat) (x : Value) (hx : (#[.int .i64 1, .slice AA n ac, .bool false, .slice none 0 0, .slice none 0 0, .slice none 0 0] : Array Value)[i]? = some x) : Has (W1 w AA n ac) ⟨w.heap.size + 1, i, none⟩ x := by
  have h := has_new (w.alloc (.cells #[.bool false, .slice none 0 0, .slice none 0 0, .slice none 0 0] 30)) #[.int .i64 1, .slice AA n ac, .bool false, .slice none 0 0, .slice none 0 0, .slice none 0 0] 56 i x hx
  rw [size_alloc'] at h
  exact h.alloc _
theorem w1_box (w : World) (AA : Option Addr) (n ac : Nat) : Has (W1 w AA n ac) ⟨w.heap.size + 2, 0, none⟩ (.pointer (some ⟨w.heap.size + 1, 0, none⟩)) := by
  have h := has_new ((w.alloc (.cells #[.bool false, .slice none 0 0, .slice none 0 0, .slice none 0 0] 30)).alloc (.cells #[.int .i64 1, .slice AA n ac, .bool false, .slice none 0 0, .slice none 0 0, .slice none 0 0] 56)) #[.pointer (some ⟨w.heap.size + 1, 0, none⟩)] 33 0 _ rfl
  rw [size_alloc', size_alloc'] at h
  exact h
theorem start_of (hr : RI w AA ac ans) (hb : Below (W1 w AA ans.length ac).heap.size (W1 w AA ans.length ac) w2) (ho : OwnI w2 (W1 w AA ans.length ac).heap.size v (short l)) :
    Started w (w2.setCell ⟨w.heap.size + 1, 5, none⟩ v) AA ac ans l ∧ ∃ A c, v = .slice A (shN l) c := by
  have hs1 := w1_size w AA ans.length ac
  have hsz := hb.size
  obtain ⟨A, h, c, hv, hrow, hB⟩ := RowK.ofOwn ho
  rw [hs1] at hB hsz
  have hM : ∀ i x, (#[.int .i64 1, .slice AA ans.length ac, .bool false, .slice none 0 0, .slice none 0 0, .slice none 0 0] : Array Value)[i]? = some x → Has w2 ⟨w.heap.size + 1, i, none⟩ x := fun i x hx => (w1_mem w AA ans.length ac i x hx).below hb (w1_mem w AA ans.length ac i x hx).lt
  have hOt : ∀ i x, (#[.bool false, .slice none 0 0, .slice none 0 0, .slice none 0 0] : Array Value)[i]? = some x → Has w2 ⟨w.heap.size, i, none⟩ x := fun i x hx => (w1_out w AA ans.length ac i x hx).below hb (w1_out w AA ans.length ac i x hx).lt
  have hbx : Has w2 ⟨w.heap.size + 2, 0, none⟩ (.pointer (some ⟨w.heap.size + 1, 0, none⟩)) := (w1_box w AA ans.length ac).below hb (w1_box w AA ans.length ac).lt
  have hk := kept_set w2 ⟨w.heap.size + 1, 5, none⟩ v
  have hsz2 : (w2.setCell ⟨w.heap.size + 1, 5, none⟩ v).heap.size = w2.heap.size := by simp [World.setCell]
  have hne : ∀ i, i ≠ 5 → (⟨w.heap.size + 1, 5, none⟩ : Addr) ≠ ⟨w.heap.size + 1, i, none⟩ := fun i hi e => hi (by simp only [Addr.mk.injEq] at e; omega)
  have hneb : ∀ b i, b ≠ w.heap.size + 1 → (⟨w.heap.size + 1, 5, none⟩ : Addr) ≠ ⟨b, i, none⟩ := fun b i hi e => hi (by simp only [Addr.mk.injEq] at e; omega)
  have hsl : (short l).length = shN l := short_len l
  have hbw : Below w.heap.size w (w2.setCell ⟨w.heap.size + 1, 5, none⟩ v) := ((w1_below w AA ans.length ac).trans (hb.mono (by omega))).setCell (by simp) _
  refine ⟨⟨⟨fun i => if i = 2 then A else none, fun i => if i = 2 then h else 0, fun i => if i = 2 then c else 0, fun i hi => ?_, hr.below hbw, fun ad e hn hf => ?_, ⟨fun i hi => ?_, fun i hi => ?_, .inl rfl, fun i hi hc => ?_, fun i hi hc => ?_, fun i j hi hj hij hci hcj => ?_⟩⟩,
    (hOt 0 _ rfl).other (hneb _ _ (by omega)), (hOt 1 _ rfl).other (hneb _ _ (by omega)), (hOt 2 _ rfl).other (hneb _ _ (by omega)), (hOt 3 _ rfl).other (hneb _ _ (by omega)), hbx.other (hneb _ _ (by omega)), hbw⟩, A, c, by rw [hv, hsl]⟩
  · match i, hi with
    | 0, _ => exact (hM 0 _ rfl).other (hne 0 (by decide))
    | 1, _ => exact (hM 1 _ rfl).other (hne 1 (by decide))
    | 2, _ => exact (hM 2 _ rfl).other (hne 2 (by decide))
  · obtain ⟨ad', e', hlt⟩ := ri_block hr hn
    rw [e] at e'
    cases e'
    rcases hf with h1 | h1
    · omega
    · omega
  · match i, hi with
    | 0, _ => exact (hM 3 _ rfl).other (hne 3 (by decide))
    | 1, _ => exact (hM 4 _ rfl).other (hne 4 (by decide))
    | 2, _ =>
      have := (hM 5 _ rfl).same (y := v)
      rw [hv] at this ⊢
      exact this
  · match i, hi with
    | 0, _ => exact RowK.nil _ _ _
    | 1, _ => exact RowK.nil _ _ _
    | 2, _ =>
      refine hrow.keep hk (fun j hj e => ?_)
      have hc0 : c ≠ 0 := fun e => by rw [e] at hj; omega
      have := hB hc0
      simp only [Addr.mk.injEq] at e
      omega
  · by_cases e : i = 2
    · subst e
      simp only [if_true] at hc ⊢
      refine .inr ⟨hB hc, ?_⟩
      rw [hsz2]
      exact hrow.lt (by decide) hc
    · simp only [if_neg e] at hc; exact absurd rfl hc
  · by_cases e : i = 2
    · subst e
      simp only [if_true] at hc ⊢
      have := hB hc; omega
    · simp only [if_neg e] at hc; exact absurd rfl hc
  · by_cases e : i = 2
    · by_cases e' : j = 2
      · exact absurd (e.trans e'.symm) hij
      · simp only [if_neg e'] at hcj; exact absurd rfl hcj
    · simp only [if_neg e] at hci; exact absurd rfl hci
end
end Go.Proofs.Ytjffgppdjdmmgaa
