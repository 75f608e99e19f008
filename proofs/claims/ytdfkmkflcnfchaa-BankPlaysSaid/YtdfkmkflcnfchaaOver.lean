/- cell's overlap: what a read keeps of a write that overlaps it. Own work. -/
import Derived.Test.YtdfkmkflcnfchaaNum8
namespace Go.Proofs.Ytdfkmkflcnfchaa
open Go.ChangeShapes Go.WideShapes Go.ChangeAt Go.RowKit CellM

/-- The four cells of an access behind g, o. -/
structure AccAt (w : World) (g o : Nat) (a : Acc) (V : Value) : Prop where
  k : Has w ⟨g, o, none⟩ (.int .i64 a.k)
  w_ : Has w ⟨g, o + 1, none⟩ (.int .i64 a.w)
  m : Has w ⟨g, o + 2, none⟩ (.bool a.m)
  c : Has w ⟨g, o + 3, none⟩ V
/-- Where a list of candidates lies. -/
structure Pl where
  h : Nat
  o : Nat
  c : Nat
def overF (g o : Nat) (p : Pl) (l : List Int) : Addr → Prop := fun q => q = ⟨g, o + 2, none⟩ ∨ q = ⟨g, o + 3, none⟩ ∨ (l.length < p.c ∧ q = ⟨p.h, p.o + l.length, none⟩)
/-- What overlap leaves. -/
structure Over (w w' : World) (kind v : Int) (g o : Nat) (a : Acc) (V : Value) (p : Pl) (V' : Value) (p' : Pl) : Prop where
  acc : AccAt w' g o (over kind a v) V'
  cand : kind = 2 → Cand w' V' p'.h p'.o p'.c (a.c ++ [v])
  place : kind = 2 → (p' = p ∨ w.heap.size ≤ p'.h)
  stays : kind ≠ 2 → V' = V ∧ p' = p
  kept : Kept (fun q => q = ⟨g, o + 2, none⟩ ∨ q = ⟨g, o + 3, none⟩ ∨ (kind = 2 ∧ a.c.length < p.c ∧ q = ⟨p.h, p.o + a.c.length, none⟩)) w w'
  below : ∀ B, B ≤ g → (kind = 2 → B ≤ p.h) → B ≤ w.heap.size → Below B w w'
  block : ∀ b, b < w.heap.size → b ≠ g → (kind = 2 → b ≠ p.h) → w'.heap[b]? = w.heap[b]?

set_option maxHeartbeats 1000000 in
theorem overlap_is (w : World) (cb g o : Nat) (kind v : Int) (a : Acc) (V : Value) (p : Pl) (hk : Has w ⟨cb, 0, none⟩ (.int .i64 kind)) (ha : AccAt w g o a V)
    (hV : kind = 2 → Cand w V p.h p.o p.c a.c ∧ p.h ≠ g) (hl : a.c.length ≤ 100000) :
    Calls Try.prog 52 #[.pointer (some ⟨cb, 0, none⟩), .pointer (some ⟨g, o, none⟩), .int .i64 v] w fun e w' => e = .returned (.tuple #[]) ∧ ∃ V' p', Over w w' kind v g o a V p V' p' := by
  have c0 := hk.1
  have c2 := ha.m.1
  have f2 := ha.m.2
  have c3 := ha.c.1
  have f3 := ha.c.2
  by_cases h1 : kind = 1
  · subst h1
    have HA := Lib.hid ha; clear ha hk hV
    go_enter Try.func52, Try.ntmps52
    go_wp2_with fail
    go_end0
    refine ⟨rfl, V, p, ⟨?_, ?_, ?_, ?_⟩, fun h => absurd h (by decide), fun h => absurd h (by decide), fun _ => ⟨rfl, rfl⟩, (Kept.refl _ _).setCell (.inl rfl) _, fun B hB _ _ => (Below.refl _ _).setCell hB _, fun b _ hb _ => Below.heap_setCell _ _ _ _ hb⟩
    · exact HA.out.k.other (fun e => by simp only [Addr.mk.injEq] at e; omega)
    · exact HA.out.w_.other (fun e => by simp only [Addr.mk.injEq] at e; omega)
    · exact HA.out.m.same
    · exact HA.out.c.other (fun e => by simp only [Addr.mk.injEq] at e; omega)
  · by_cases h2 : kind = 2
    · subst h2
      obtain ⟨hV1, hV2⟩ := hV rfl
      have HA := Lib.hid ha; have HV := Lib.hid hV1; clear ha hk hV hV1
      go_enter Try.func52, Try.ntmps52
      go_wp2_with (at_builtin; refine app_cand rfl _ _ rfl (HV.out.alloc _) rfl hl (ad := ⟨w.heap.size, 0, none⟩) (m := v) rfl ?c1 ?_)
      case c1 => exact (has_new w #[.int .i64 v] 3 0 _ rfl).1
      intro v' w' hO
      obtain ⟨h', o', c', hc', hpl⟩ := hO.ex
      have k3 := hO.kept.has _ _ (HA.out.c.alloc _) (fun h => hV2 (by have := h.2; simp only [Addr.mk.injEq] at this; exact this.1.symm))
      have kk := hO.kept.has _ _ (HA.out.k.alloc _) (fun h => hV2 (by have := h.2; simp only [Addr.mk.injEq] at this; exact this.1.symm))
      have kw := hO.kept.has _ _ (HA.out.w_.alloc _) (fun h => hV2 (by have := h.2; simp only [Addr.mk.injEq] at this; exact this.1.symm))
      have km := hO.kept.has _ _ (HA.out.m.alloc _) (fun h => hV2 (by have := h.2; simp only [Addr.mk.injEq] at this; exact this.1.symm))
      have c4 := k3.1
      have f4 := k3.2
      have e := hc'.v
      have HH := Lib.hid (And.intro hc' (And.intro hpl (And.intro kk (And.intro kw (And.intro km (And.intro k3 hO))))))
      clear hc' hpl kk kw km k3 hO
      rw [List.length_append] at e
      subst e
      go_wp2_with fail
      obtain ⟨hc', hpl, kk, kw, km, k3, hO⟩ := HH.out
      have hg : g < w.heap.size := HA.out.k.lt
      have hsz : w.heap.size ≤ (w.alloc (.cells #[.int .i64 v] 3)).heap.size := ((Below.refl w.heap.size w).alloc (Nat.le_refl _) _).size
      have hne : ∀ k, (⟨g, o + 3, none⟩ : Addr) ≠ ⟨h', o' + k, none⟩ := by
        intro k e
        simp only [Addr.mk.injEq] at e
        rcases hpl with ⟨rfl, _⟩ | ⟨_, hh⟩
        · exact hV2 e.1.symm
        · omega
      go_end0
      refine ⟨rfl, .slice (some ⟨h', o', none⟩) (a.c.length + 1) c', ⟨h', o', c'⟩, ⟨?_, ?_, ?_, ?_⟩, fun _ => ?_, fun _ => ?_, fun h => absurd rfl h, ?_, fun B hB hB2 hB3 => ?_, fun b hb hb1 hb2 => ?_⟩
      · exact kk.other (fun e => by simp only [Addr.mk.injEq] at e; omega)
      · exact kw.other (fun e => by simp only [Addr.mk.injEq] at e; omega)
      · exact km.other (fun e => by simp only [Addr.mk.injEq] at e; omega)
      · exact k3.same
      · exact hc'.keep ((Kept.refl (fun q => q = (⟨g, o + 3, none⟩ : Addr)) _).setCell rfl _) (fun k _ e => hne k e.symm)
      · rcases hpl with ⟨rfl, rfl, rfl, _⟩ | ⟨_, hh⟩
        · exact .inl rfl
        · exact .inr (Nat.le_trans hsz hh)
      · exact (((Kept.refl _ _).alloc _).trans (hO.kept.mono (fun q hq => .inr (.inr ⟨rfl, hq.1, hq.2⟩)))).setCell (.inr (.inl rfl)) _
      · exact (((Below.refl _ _).alloc hB3 _).trans (hO.below B (hB2 rfl) (Nat.le_trans hB3 hsz))).setCell hB _
      · exact ((Below.heap_setCell _ _ _ _ hb1).trans (hO.block b (by omega) (fun _ => hb2 rfl))).trans (Below.heap_alloc _ _ _ hb)
    · have n1 : (kind == 1) = false := by simp [h1]
      have n2 : (kind == 2) = false := by simp [h2]
      have HA := Lib.hid ha; clear ha hk hV
      go_enter Try.func52, Try.ntmps52
      go_wp2_with fail
      go_end0
      refine ⟨rfl, V, p, ?_, fun h => absurd h h2, fun h => absurd h h2, fun _ => ⟨rfl, rfl⟩, Kept.refl _ _, fun B _ _ _ => Below.refl _ _, fun _ _ _ _ => rfl⟩
      have e : over kind a v = a := by unfold over; rw [if_neg h1, if_neg h2]
      rw [e]; exact HA.out
end Go.Proofs.Ytdfkmkflcnfchaa
