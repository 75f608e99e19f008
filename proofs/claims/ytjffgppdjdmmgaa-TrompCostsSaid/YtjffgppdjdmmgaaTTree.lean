/- Operations as trees: what is asked for next, as it was answered. Plain mathematics. Own work. -/
import Derived.Test.YtjffgppdjdmmgaaTape
namespace Go.Proofs.Ytjffgppdjdmmgaa
namespace TapeM

/-- An operation: it answers, asks for an access, gets a local, sets one, leaves a note. -/
inductive Tr (α : Type) : Type
  | ret (x : α)
  | ask (a : Ac) (k : Int → Tr α)
  | get (i : Int) (k : Int → Tr α)
  | set (i v : Int) (k : Tr α)
  | note (n : Int) (k : Tr α)
namespace Tr
/-- One behind the other. -/
def bind {α β : Type} : Tr α → (α → Tr β) → Tr β
  | ret x, f => f x
  | ask a k, f => ask a fun x => (k x).bind f
  | get i k, f => get i fun x => (k x).bind f
  | set i v k, f => set i v (k.bind f)
  | note n k, f => note n (k.bind f)
theorem bind_assoc {α β γ : Type} (f : α → Tr β) (g : β → Tr γ) : ∀ t : Tr α, (t.bind f).bind g = t.bind fun x => (f x).bind g
  | ret _ => rfl
  | ask a k => congrArg (ask a) (funext fun x => bind_assoc f g (k x))
  | get i k => congrArg (get i) (funext fun x => bind_assoc f g (k x))
  | set i v k => congrArg (set i v) (bind_assoc f g k)
  | note n k => congrArg (note n) (bind_assoc f g k)
theorem bind_ret {α : Type} : ∀ t : Tr α, t.bind ret = t
  | ret _ => rfl
  | ask a k => congrArg (ask a) (funext fun x => bind_ret (k x))
  | get i k => congrArg (get i) (funext fun x => bind_ret (k x))
  | set i v k => congrArg (set i v) (bind_ret k)
  | note n k => congrArg (note n) (bind_ret k)
theorem bind_ite {α β : Type} (c : Prop) [Decidable c] (t u : Tr α) (f : α → Tr β) : (if c then t else u).bind f = if c then t.bind f else u.bind f := by split <;> rfl
/-- What comes of it. -/
def run (ans : List Int) : Tr Int → TS → Res
  | ret x, S => .go S x
  | ask a k, S => asks ans S a fun S x => run ans (k x) S
  | get i k, S => run ans (k (getL S.loc i)) S
  | set i v k, S => run ans k (setT S i v)
  | note n k, S => run ans k (noteT S n)
/-- It leaves n notes at most. -/
def nb {α : Type} : Tr α → Nat → Prop
  | ret _, _ => True
  | ask _ k, n => ∀ x, (k x).nb n
  | get _ k, n => ∀ x, (k x).nb n
  | set _ _ k, n => k.nb n
  | note _ _, 0 => False
  | note _ k, n + 1 => k.nb n
theorem nb_mono {α : Type} : ∀ (t : Tr α) {n m : Nat}, t.nb n → n ≤ m → t.nb m
  | ret _, _, _, _, _ => trivial
  | ask _ k, _, _, h, hm => fun x => nb_mono (k x) (h x) hm
  | get _ k, _, _, h, hm => fun x => nb_mono (k x) (h x) hm
  | set _ _ k, _, _, h, hm => nb_mono k h hm
  | note _ k, n + 1, 0, _, hm => absurd hm (by omega)
  | note _ k, n + 1, m + 1, h, hm => nb_mono k (n := n) (m := m) h (by omega)
theorem nb_bind {α β : Type} {f : α → Tr β} {m : Nat} (hf : ∀ x, (f x).nb m) : ∀ (t : Tr α) {n : Nat}, t.nb n → (t.bind f).nb (n + m)
  | ret x, n, _ => nb_mono (f x) (hf x) (by omega)
  | ask _ k, _, h => fun x => nb_bind hf (k x) (h x)
  | get _ k, _, h => fun x => nb_bind hf (k x) (h x)
  | set _ _ k, _, h => nb_bind hf k h
  | note _ k, n + 1, h => by
    show (note _ (k.bind f)).nb (n + 1 + m)
    rw [show n + 1 + m = (n + m) + 1 by omega]
    exact nb_bind hf k (n := n) h
/-- It asks for n accesses at most. -/
def cost {α : Type} : Tr α → Nat → Prop
  | ret _, _ => True
  | ask _ _, 0 => False
  | ask _ k, n + 1 => ∀ x, (k x).cost n
  | get _ k, n => ∀ x, (k x).cost n
  | set _ _ k, n => k.cost n
  | note _ k, n => k.cost n
theorem cost_mono {α : Type} : ∀ (t : Tr α) {n m : Nat}, t.cost n → n ≤ m → t.cost m
  | ret _, _, _, _, _ => trivial
  | ask _ k, n + 1, 0, _, hm => absurd hm (by omega)
  | ask _ k, n + 1, m + 1, h, hm => fun x => cost_mono (k x) (n := n) (m := m) (h x) (by omega)
  | get _ k, _, _, h, hm => fun x => cost_mono (k x) (h x) hm
  | set _ _ k, _, _, h, hm => cost_mono k h hm
  | note _ k, _, _, h, hm => cost_mono k h hm
theorem cost_bind {α β : Type} {f : α → Tr β} {m : Nat} (hf : ∀ x, (f x).cost m) : ∀ (t : Tr α) {n : Nat}, t.cost n → (t.bind f).cost (n + m)
  | ret x, n, _ => cost_mono (f x) (hf x) (by omega)
  | ask _ k, n + 1, h => by
    show (ask _ fun x => (k x).bind f).cost (n + 1 + m)
    rw [show n + 1 + m = (n + m) + 1 by omega]
    exact fun x => cost_bind hf (k x) (n := n) (h x)
  | get _ k, _, h => fun x => cost_bind hf (k x) (h x)
  | set _ _ k, _, h => cost_bind hf k h
  | note _ k, _, h => cost_bind hf k h
theorem run_grows (ans : List Int) : ∀ (t : Tr Int) (S : TS), S.acc <+: (run ans t S).st.acc ∧ S.nts <+: (run ans t S).st.nts
  | ret _, _ => ⟨List.prefix_refl _, List.prefix_refl _⟩
  | ask a k, S => by
    show _ <+: (asks ans S a _).st.acc ∧ _ <+: (asks ans S a _).st.nts
    unfold asks
    split
    · have := run_grows ans (k (ans.getD S.acc.length 0)) (askT S a)
      exact ⟨(List.prefix_append _ _).trans this.1, this.2⟩
    · exact ⟨List.prefix_append _ _, List.prefix_refl _⟩
  | get i k, S => run_grows ans (k (getL S.loc i)) S
  | set i v k, S => run_grows ans k (setT S i v)
  | note n k, S => by
    have := run_grows ans k (noteT S n)
    exact ⟨this.1, (List.prefix_append _ _).trans this.2⟩
theorem run_loc (ans : List Int) : ∀ (t : Tr Int) (S : TS), S.loc.length ≤ 32768 → (run ans t S).st.loc.length ≤ 32768
  | ret _, _, h => h
  | ask a k, S, h => by
    show (asks ans S a _).st.loc.length ≤ 32768
    unfold asks
    split
    · exact run_loc ans (k (ans.getD S.acc.length 0)) (askT S a) h
    · exact h
  | get i k, S, h => run_loc ans (k (getL S.loc i)) S h
  | set i v k, S, h => run_loc ans k (setT S i v) (setL_len _ _ _ h)
  | note n k, S, h => run_loc ans k (noteT S n) h
/-- It stops just behind the last answer. -/
theorem run_sizes (ans : List Int) : ∀ (t : Tr Int) (S : TS), S.acc.length ≤ ans.length →
    (∀ T, run ans t S = .stop T → T.acc.length = ans.length + 1) ∧ (∀ T x, run ans t S = .go T x → T.acc.length ≤ ans.length)
  | ret _, _, h => ⟨fun T h' => (by cases h'), fun T x h' => (by cases h'; exact h)⟩
  | ask a k, S, h => by
    show (∀ T, asks ans S a _ = .stop T → _) ∧ (∀ T x, asks ans S a _ = .go T x → _)
    unfold asks
    split
    · exact run_sizes ans (k (ans.getD S.acc.length 0)) (askT S a) (by simp [askT]; omega)
    · exact ⟨fun T h' => (by cases h'; simp [askT]; omega), fun T x h' => (by cases h')⟩
  | get i k, S, h => run_sizes ans (k (getL S.loc i)) S h
  | set i v k, S, h => run_sizes ans k (setT S i v) h
  | note n k, S, h => run_sizes ans k (noteT S n) h
/-- With answers for all that it may ask for it goes on to its end. -/
theorem run_cost (ans : List Int) : ∀ (t : Tr Int) (S : TS) (n : Nat), t.cost n → S.acc.length + n ≤ ans.length → ∃ T x, run ans t S = .go T x ∧ T.acc.length ≤ S.acc.length + n
  | ret x, S, n, _, _ => ⟨S, x, rfl, by omega⟩
  | ask a k, S, n + 1, h, hl => by
    show ∃ T x, asks ans S a _ = .go T x ∧ _
    rw [asks_go (by omega)]
    obtain ⟨T, x, h1, h2⟩ := run_cost ans (k (ans.getD S.acc.length 0)) (askT S a) n (h _) (by simp [askT]; omega)
    exact ⟨T, x, h1, by simp [askT] at h2; omega⟩
  | get i k, S, n, h, hl => run_cost ans (k (getL S.loc i)) S n (h (getL S.loc i)) hl
  | set i v k, S, n, h, hl => run_cost ans k (setT S i v) n h hl
  | note m k, S, n, h, hl => run_cost ans k (noteT S m) n h hl
/-- Locals that are alike do no harm. -/
theorem run_like (ans : List Int) : ∀ (t : Tr Int) (S T : TS), Like S T → LikeR (run ans t S) (run ans t T)
  | ret _, _, _, h => ⟨h, rfl⟩
  | ask a k, S, T, h => asks_like h a (fun S T x h => run_like ans (k x) S T h)
  | get i k, S, T, h => by
    show LikeR (run ans (k (getL S.loc i)) S) (run ans (k (getL T.loc i)) T)
    rw [h.loc.getL]
    exact run_like ans (k (getL T.loc i)) S T h
  | set i v k, S, T, h => run_like ans k _ _ ⟨h.acc, h.nts, h.loc.setL _ _⟩
  | note n k, S, T, h => run_like ans k _ _ ⟨h.acc, by simp [noteT, h.acc, h.nts], h.loc⟩
end Tr
end TapeM
end Go.Proofs.Ytjffgppdjdmmgaa
