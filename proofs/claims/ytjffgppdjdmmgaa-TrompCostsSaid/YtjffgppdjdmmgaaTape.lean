/- Operations as functions of the answers that they get: plain mathematics. Own work. -/
import Derived.Test.YtjffgppdjdmmgaaCell
import Derived.RowKit
namespace Go.Proofs.Ytjffgppdjdmmgaa
namespace TapeM

structure Ac where
  k : Int
  c : Int
  v : Int
structure Nt where
  k : Int
  a : Int
structure TS where
  acc : List Ac
  nts : List Nt
  loc : List Int
structure Op where
  k : Int
  a : Int
  b : Int
instance : Inhabited Op := ⟨⟨0, 0, 0⟩⟩
def getL (l : List Int) (i : Int) : Int := if 0 ≤ i ∧ i < l.length then l.getD i.toNat 0 else 0
def padL (l : List Int) (n : Nat) : List Int := l ++ List.replicate (n - l.length) 0
def setL (l : List Int) (i v : Int) : List Int := if 0 ≤ i ∧ i < 32768 then (padL l (i.toNat + 1)).set i.toNat v else l
def askT (S : TS) (a : Ac) : TS := ⟨S.acc ++ [a], S.nts, S.loc⟩
def setT (S : TS) (i v : Int) : TS := ⟨S.acc, S.nts, setL S.loc i v⟩
def noteT (S : TS) (k : Int) : TS := ⟨S.acc, S.nts ++ [⟨k, S.acc.length⟩], S.loc⟩
/-- One more, going round. -/
def addW (a b : Int) : Int := Go.RowKit.wrap64 (a + b)
/-- What comes of it: it goes on, with a number, or it has stopped. -/
inductive Res
  | go (S : TS) (x : Int)
  | stop (S : TS)
def Res.st : Res → TS
  | .go S _ => S
  | .stop S => S
def asks (ans : List Int) (S : TS) (a : Ac) (K : TS → Int → Res) : Res :=
  if S.acc.length < ans.length then K (askT S a) (ans.getD S.acc.length 0) else .stop (askT S a)
def stepA (ans : List Int) (o : Op) (S : TS) (sum : Int) (K : TS → Int → Res) : Res :=
  if o.k % 6 = 0 then asks ans S ⟨1, o.a, 0⟩ fun S x => K S (addW sum x)
  else if o.k % 6 = 1 then asks ans S ⟨2, o.a, o.b⟩ fun S _ => K S sum
  else if o.k % 6 = 2 then K (setT S o.a o.b) sum
  else if o.k % 6 = 3 then K (noteT S o.a) sum
  else if o.k % 6 = 4 then asks ans S ⟨2, o.b, getL S.loc o.a⟩ fun S _ => K S sum
  else asks ans S ⟨1, o.a, 0⟩ fun S x => K (setT S o.b x) (addW sum (getL (setL S.loc o.b x) o.b))
def runA (ans : List Int) : List Op → TS → Int → Res
  | [], S, sum => .go S sum
  | o :: l, S, sum => stepA ans o S sum (runA ans l)
theorem asks_go {ans : List Int} {S : TS} (h : S.acc.length < ans.length) (a : Ac) (K : TS → Int → Res) : asks ans S a K = K (askT S a) (ans.getD S.acc.length 0) := if_pos h
theorem asks_stop {ans : List Int} {S : TS} (h : ¬ S.acc.length < ans.length) (a : Ac) (K : TS → Int → Res) : asks ans S a K = .stop (askT S a) := if_neg h
theorem step0 {o : Op} (h : o.k % 6 = 0) (ans : List Int) (S : TS) (sum : Int) (K : TS → Int → Res) : stepA ans o S sum K = asks ans S ⟨1, o.a, 0⟩ fun S x => K S (addW sum x) := by unfold stepA; rw [if_pos h]
theorem step1 {o : Op} (h : o.k % 6 = 1) (ans : List Int) (S : TS) (sum : Int) (K : TS → Int → Res) : stepA ans o S sum K = asks ans S ⟨2, o.a, o.b⟩ fun S _ => K S sum := by unfold stepA; rw [if_neg (by omega), if_pos h]
theorem step2 {o : Op} (h : o.k % 6 = 2) (ans : List Int) (S : TS) (sum : Int) (K : TS → Int → Res) : stepA ans o S sum K = K (setT S o.a o.b) sum := by unfold stepA; rw [if_neg (by omega), if_neg (by omega), if_pos h]
theorem step3 {o : Op} (h : o.k % 6 = 3) (ans : List Int) (S : TS) (sum : Int) (K : TS → Int → Res) : stepA ans o S sum K = K (noteT S o.a) sum := by unfold stepA; rw [if_neg (by omega), if_neg (by omega), if_neg (by omega), if_pos h]
theorem step4 {o : Op} (h : o.k % 6 = 4) (ans : List Int) (S : TS) (sum : Int) (K : TS → Int → Res) : stepA ans o S sum K = asks ans S ⟨2, o.b, getL S.loc o.a⟩ fun S _ => K S sum := by unfold stepA; rw [if_neg (by omega), if_neg (by omega), if_neg (by omega), if_neg (by omega), if_pos h]
theorem step5 {o : Op} (h : o.k % 6 = 5) (ans : List Int) (S : TS) (sum : Int) (K : TS → Int → Res) : stepA ans o S sum K = asks ans S ⟨1, o.a, 0⟩ fun S x => K (setT S o.b x) (addW sum (getL (setL S.loc o.b x) o.b)) := by unfold stepA; rw [if_neg (by omega), if_neg (by omega), if_neg (by omega), if_neg (by omega), if_neg (by omega)]
theorem run_drop {ans : List Int} {l : List Op} {i : Nat} (h : i < l.length) (S : TS) (sum : Int) : runA ans (l.drop i) S sum = stepA ans l[i] S sum (runA ans (l.drop (i + 1))) := by
  rw [List.drop_eq_getElem_cons h]; rfl

/-- Kinds of an operation, in one. -/
theorem step_any (o : Op) (S : TS) (sum : Int) :
    (∃ (S' : TS) (x : Int), S'.acc = S.acc ∧ S.nts <+: S'.nts ∧ (∀ ans' K', stepA ans' o S sum K' = K' S' x)) ∨
    (∃ (a : Ac) (f : TS → Int → TS) (g : TS → Int → Int), (∀ T x, (f T x).acc = T.acc ∧ (f T x).nts = T.nts) ∧ ∀ ans' K', stepA ans' o S sum K' = asks ans' S a fun S x => K' (f S x) (g S x)) := by
  have h : o.k % 6 = 0 ∨ o.k % 6 = 1 ∨ o.k % 6 = 2 ∨ o.k % 6 = 3 ∨ o.k % 6 = 4 ∨ o.k % 6 = 5 := by omega
  rcases h with h | h | h | h | h | h
  · exact .inr ⟨_, fun S _ => S, fun _ x => addW sum x, fun _ _ => ⟨rfl, rfl⟩, fun ans' K' => step0 h ans' S sum K'⟩
  · exact .inr ⟨_, fun S _ => S, fun _ _ => sum, fun _ _ => ⟨rfl, rfl⟩, fun ans' K' => step1 h ans' S sum K'⟩
  · exact .inl ⟨setT S o.a o.b, sum, rfl, List.prefix_refl _, fun ans' K' => step2 h ans' S sum K'⟩
  · exact .inl ⟨noteT S o.a, sum, rfl, List.prefix_append _ _, fun ans' K' => step3 h ans' S sum K'⟩
  · exact .inr ⟨_, fun S _ => S, fun _ _ => sum, fun _ _ => ⟨rfl, rfl⟩, fun ans' K' => step4 h ans' S sum K'⟩
  · exact .inr ⟨_, fun S x => setT S o.b x, fun S x => addW sum (getL (setL S.loc o.b x) o.b), fun _ _ => ⟨rfl, rfl⟩, fun ans' K' => step5 h ans' S sum K'⟩
theorem run_grows (ans : List Int) : ∀ (l : List Op) (S : TS) (sum : Int), S.acc <+: (runA ans l S sum).st.acc ∧ S.nts <+: (runA ans l S sum).st.nts
  | [], S, sum => ⟨List.prefix_refl _, List.prefix_refl _⟩
  | o :: l, S, sum => by
    show _ <+: (stepA ans o S sum (runA ans l)).st.acc ∧ _ <+: (stepA ans o S sum (runA ans l)).st.nts
    rcases step_any o S sum with ⟨S', x, h1, h2, h3⟩ | ⟨a, f, g, h1, h2⟩
    · rw [h3]
      have := run_grows ans l S' x
      rw [h1] at this
      exact ⟨this.1, h2.trans this.2⟩
    · rw [h2]
      unfold asks
      split
      · have := run_grows ans l (f (askT S a) (ans.getD S.acc.length 0)) (g (askT S a) (ans.getD S.acc.length 0))
        rw [(h1 _ _).1, (h1 _ _).2] at this
        exact ⟨(List.prefix_append _ _).trans this.1, this.2⟩
      · exact ⟨List.prefix_append _ _, List.prefix_refl _⟩
/-- What it may come to, in numbers. -/
theorem run_sizes (ans : List Int) : ∀ (l : List Op) (S : TS) (sum : Int), S.acc.length ≤ ans.length →
    (runA ans l S sum).st.acc.length ≤ S.acc.length + l.length ∧ (runA ans l S sum).st.nts.length ≤ S.nts.length + l.length ∧
    (∀ T, runA ans l S sum = .stop T → T.acc.length = ans.length + 1) ∧ (∀ T x, runA ans l S sum = .go T x → T.acc.length ≤ ans.length)
  | [], S, sum, h => ⟨Nat.le_refl S.acc.length, Nat.le_refl S.nts.length, fun T h => (by cases h), fun T x h' => (by cases h'; exact h)⟩
  | o :: l, S, sum, h => by
    show (stepA ans o S sum (runA ans l)).st.acc.length ≤ _ ∧ (stepA ans o S sum (runA ans l)).st.nts.length ≤ _ ∧ (∀ T, stepA ans o S sum (runA ans l) = .stop T → _) ∧ (∀ T x, stepA ans o S sum (runA ans l) = .go T x → _)
    have hl : (o :: l).length = l.length + 1 := rfl
    have hc : o.k % 6 = 0 ∨ o.k % 6 = 1 ∨ o.k % 6 = 2 ∨ o.k % 6 = 3 ∨ o.k % 6 = 4 ∨ o.k % 6 = 5 := by omega
    have hA : ∀ (a : Ac) (f : TS → Int → TS) (g : TS → Int → Int), (∀ T x, (f T x).acc = T.acc ∧ (f T x).nts = T.nts) → ∀ R : Res, R = asks ans S a (fun S x => runA ans l (f S x) (g S x)) →
        R.st.acc.length ≤ S.acc.length + (o :: l).length ∧ R.st.nts.length ≤ S.nts.length + (o :: l).length ∧ (∀ T, R = .stop T → T.acc.length = ans.length + 1) ∧ (∀ T x, R = .go T x → T.acc.length ≤ ans.length) := by
      intro a f g h1 R hR
      subst hR
      unfold asks
      split
      · rename_i hlt
        have := run_sizes ans l (f (askT S a) (ans.getD S.acc.length 0)) (g (askT S a) (ans.getD S.acc.length 0)) (by rw [(h1 _ _).1]; simp [askT]; omega)
        rw [(h1 _ _).1, (h1 _ _).2] at this
        obtain ⟨g1, g2, g3, g4⟩ := this
        have e1 : (askT S a).acc.length = S.acc.length + 1 := by simp [askT]
        have e2 : (askT S a).nts.length = S.nts.length := rfl
        exact ⟨Nat.le_trans g1 (by omega), Nat.le_trans g2 (by omega), g3, g4⟩
      · rename_i hlt
        refine ⟨?_, ?_, fun T hT => ?_, fun T x hT => (by cases hT)⟩
        · simp [Res.st, askT]
        · simp [Res.st, askT]
        · cases hT
          simp [askT]; omega
    have hN : ∀ (S' : TS) (x : Int), S'.acc = S.acc → S'.nts.length ≤ S.nts.length + 1 → ∀ R : Res, R = runA ans l S' x →
        R.st.acc.length ≤ S.acc.length + (o :: l).length ∧ R.st.nts.length ≤ S.nts.length + (o :: l).length ∧ (∀ T, R = .stop T → T.acc.length = ans.length + 1) ∧ (∀ T x, R = .go T x → T.acc.length ≤ ans.length) := by
      intro S' x h1 h2 R hR
      subst hR
      have := run_sizes ans l S' x (by rw [h1]; exact h)
      rw [h1] at this
      obtain ⟨g1, g2, g3, g4⟩ := this
      exact ⟨by omega, by omega, g3, g4⟩
    rcases hc with hc | hc | hc | hc | hc | hc
    · exact hA _ (fun S _ => S) (fun _ x => addW sum x) (fun _ _ => ⟨rfl, rfl⟩) _ (step0 hc _ _ _ _)
    · exact hA _ (fun S _ => S) (fun _ _ => sum) (fun _ _ => ⟨rfl, rfl⟩) _ (step1 hc _ _ _ _)
    · exact hN (setT S o.a o.b) sum rfl (by simp [setT]) _ (step2 hc _ _ _ _)
    · exact hN (noteT S o.a) sum rfl (by simp [noteT]) _ (step3 hc _ _ _ _)
    · exact hA _ (fun S _ => S) (fun _ _ => sum) (fun _ _ => ⟨rfl, rfl⟩) _ (step4 hc _ _ _ _)
    · exact hA _ (fun S x => setT S o.b x) (fun S x => addW sum (getL (setL S.loc o.b x) o.b)) (fun _ _ => ⟨rfl, rfl⟩) _ (step5 hc _ _ _ _)
/-- With more answers the same, and more. -/
theorem run_more (ans : List Int) (k : Nat) (hk : k ≤ ans.length) : ∀ (l : List Op) (S : TS) (sum : Int), S.acc.length ≤ k →
    (∀ T x, runA (ans.take k) l S sum = .go T x → runA ans l S sum = .go T x) ∧
    ((runA (ans.take k) l S sum).st.acc <+: (runA ans l S sum).st.acc ∧ (runA (ans.take k) l S sum).st.nts <+: (runA ans l S sum).st.nts)
  | [], S, sum, _ => ⟨fun T x h => h, List.prefix_refl _, List.prefix_refl _⟩
  | o :: l, S, sum, h => by
    show (∀ T x, stepA (ans.take k) o S sum (runA (ans.take k) l) = .go T x → stepA ans o S sum (runA ans l) = .go T x) ∧ ((stepA (ans.take k) o S sum (runA (ans.take k) l)).st.acc <+: (stepA ans o S sum (runA ans l)).st.acc ∧ (stepA (ans.take k) o S sum (runA (ans.take k) l)).st.nts <+: (stepA ans o S sum (runA ans l)).st.nts)
    rcases step_any o S sum with ⟨S', x, h1, h2, h3⟩ | ⟨a, f, g, h1, h2⟩
    · rw [h3, h3]
      exact run_more ans k hk l S' x (by rw [h1]; exact h)
    · rw [h2, h2]
      have hlen : (ans.take k).length = k := by simp; omega
      by_cases hlt : S.acc.length < k
      · rw [asks_go (by rw [hlen]; exact hlt), asks_go (by omega)]
        have e : (ans.take k).getD S.acc.length 0 = ans.getD S.acc.length 0 := by
          simp [List.getD, hlt]
        rw [e]
        exact run_more ans k hk l _ _ (by rw [(h1 _ _).1]; simp [askT]; omega)
      · rw [asks_stop (by rw [hlen]; exact hlt)]
        refine ⟨fun T x hT => (by cases hT), ?_⟩
        by_cases hlt' : S.acc.length < ans.length
        · rw [asks_go hlt']
          have := run_grows ans l (f (askT S a) (ans.getD S.acc.length 0)) (g (askT S a) (ans.getD S.acc.length 0))
          rw [(h1 _ _).1, (h1 _ _).2] at this
          exact this
        · rw [asks_stop hlt']
          exact ⟨List.prefix_refl _, List.prefix_refl _⟩
/-! Locals without noughts at their end. -/
def sh (l : List Int) : Nat → Nat
  | 0 => 0
  | n + 1 => if l.getD n 0 = 0 then sh l n else n + 1
def shN (l : List Int) : Nat := sh l l.length
def short (l : List Int) : List Int := l.take (shN l)
theorem sh_le (l : List Int) : ∀ n, sh l n ≤ n
  | 0 => Nat.le_refl _
  | n + 1 => by unfold sh; split; exact Nat.le_trans (sh_le l n) (Nat.le_succ n); exact Nat.le_refl _
theorem short_len (l : List Int) : (short l).length = shN l := by
  have := sh_le l l.length
  unfold short shN
  rw [List.length_take]; omega
theorem sh_zero (l : List Int) : ∀ n i, sh l n ≤ i → i < n → l.getD i 0 = 0
  | 0, i, _, h => absurd h (Nat.not_lt_zero _)
  | n + 1, i, h1, h2 => by
    unfold sh at h1
    split at h1
    · rename_i h0
      by_cases e : i = n
      · subst e; exact h0
      · exact sh_zero l n i h1 (by omega)
    · omega
theorem sh_last (l : List Int) : ∀ n, sh l n ≠ 0 → l.getD (sh l n - 1) 0 ≠ 0
  | 0, h => absurd rfl h
  | n + 1, h => by
    unfold sh at h ⊢
    split
    · rename_i h0
      rw [if_pos h0] at h
      exact sh_last l n h
    · rename_i h0; exact h0
/-- Alike but for noughts at their end. -/
def Alike (l m : List Int) : Prop := ∀ i : Nat, l.getD i 0 = m.getD i 0
theorem getD_out {l : List Int} {i : Nat} (h : l.length ≤ i) : l.getD i 0 = 0 := by simp [List.getD, List.getElem?_eq_none h]
theorem shN_zero (l : List Int) (i : Nat) (h : shN l ≤ i) : l.getD i 0 = 0 := by
  by_cases hi : i < l.length
  · exact sh_zero l _ i h hi
  · exact getD_out (by omega)
theorem Alike.shN {l m : List Int} (h : Alike l m) : shN l = shN m := by
  have key : ∀ a b : List Int, Alike a b → TapeM.shN a ≤ TapeM.shN b := by
    intro a b hab
    by_cases h0 : TapeM.shN a = 0
    · omega
    · have h1 := sh_last a a.length h0
      rcases Nat.lt_or_ge (TapeM.shN a - 1) (TapeM.shN b) with h2 | h2
      · omega
      · have h3 := shN_zero b _ h2
        rw [← hab] at h3
        exact absurd h3 h1
  exact Nat.le_antisymm (key l m h) (key m l (fun i => (h i).symm))
theorem short_get (l : List Int) (i : Nat) : (short l).getD i 0 = l.getD i 0 := by
  rcases Nat.lt_or_ge i (shN l) with h | h
  · unfold short; simp [List.getD, h]
  · rw [shN_zero l i h, getD_out (by rw [short_len]; exact h)]
theorem Alike.short {l m : List Int} (h : Alike l m) : short l = short m := by
  refine List.ext_getElem (by rw [short_len, short_len, h.shN]) (fun i h1 h2 => ?_)
  have := h i
  rw [← short_get l, ← short_get m] at this
  simpa [List.getD, h1, h2] using this
theorem alike_short (l : List Int) : Alike (short l) l := fun i => short_get l i
theorem Alike.getL {l m : List Int} (h : Alike l m) (i : Int) : getL l i = getL m i := by
  have key : ∀ a : List Int, TapeM.getL a i = if 0 ≤ i then a.getD i.toNat 0 else 0 := by
    intro a
    unfold TapeM.getL
    by_cases h0 : 0 ≤ i
    · by_cases h1 : i < a.length
      · rw [if_pos ⟨h0, h1⟩, if_pos h0]
      · rw [if_neg (fun hh => h1 hh.2), if_pos h0, getD_out (by omega)]
    · rw [if_neg (fun hh => h0 hh.1), if_neg h0]
  rw [key, key, h]
theorem pad_get (l : List Int) (n i : Nat) : (padL l n).getD i 0 = l.getD i 0 := by
  unfold padL
  rcases Nat.lt_or_ge i l.length with h | h
  · simp [List.getD, List.getElem?_append_left h]
  · rw [getD_out h]
    simp only [List.getD, List.getElem?_append_right h, List.getElem?_replicate]
    split <;> rfl
theorem pad_len (l : List Int) (n : Nat) : (padL l n).length = max l.length n := by unfold padL; simp; omega
theorem Alike.setL {l m : List Int} (h : Alike l m) (i v : Int) : Alike (setL l i v) (setL m i v) := by
  intro j
  unfold TapeM.setL
  by_cases h0 : 0 ≤ i ∧ i < 32768
  · rw [if_pos h0, if_pos h0]
    by_cases e : i.toNat = j
    · subst e
      have h1 : i.toNat < (padL l (i.toNat + 1)).length := by rw [pad_len]; omega
      have h2 : i.toNat < (padL m (i.toNat + 1)).length := by rw [pad_len]; omega
      simp [List.getD, h1, h2]
    · have h3 := pad_get l (i.toNat + 1) j
      have h4 := pad_get m (i.toNat + 1) j
      simp only [List.getD, List.getElem?_set_ne e] at h3 h4 ⊢
      rw [h3, h4]
      have := h j
      simpa [List.getD] using this
  · rw [if_neg h0, if_neg h0]; exact h j
theorem setL_len (l : List Int) (i v : Int) (h : l.length ≤ 32768) : (setL l i v).length ≤ 32768 := by
  unfold setL
  split
  · rw [List.length_set, pad_len]; omega
  · exact h
structure Like (S T : TS) : Prop where
  acc : S.acc = T.acc
  nts : S.nts = T.nts
  loc : Alike S.loc T.loc
def LikeR : Res → Res → Prop
  | .go S x, .go T y => Like S T ∧ x = y
  | .stop S, .stop T => Like S T
  | _, _ => False
theorem asks_like {ans : List Int} {S T : TS} (h : Like S T) (a : Ac) {K K' : TS → Int → Res} (hK : ∀ S T x, Like S T → LikeR (K S x) (K' T x)) : LikeR (asks ans S a K) (asks ans T a K') := by
  have h1 : Like (askT S a) (askT T a) := ⟨by simp [askT, h.acc], h.nts, h.loc⟩
  unfold asks
  rw [h.acc]
  split
  · exact hK _ _ _ h1
  · exact h1
theorem run_like (ans : List Int) : ∀ (l : List Op) (S T : TS) (sum : Int), Like S T → LikeR (runA ans l S sum) (runA ans l T sum)
  | [], S, T, sum, h => ⟨h, rfl⟩
  | o :: l, S, T, sum, h => by
    show LikeR (stepA ans o S sum (runA ans l)) (stepA ans o T sum (runA ans l))
    have hc : o.k % 6 = 0 ∨ o.k % 6 = 1 ∨ o.k % 6 = 2 ∨ o.k % 6 = 3 ∨ o.k % 6 = 4 ∨ o.k % 6 = 5 := by omega
    rcases hc with hc | hc | hc | hc | hc | hc
    · rw [step0 hc, step0 hc]; exact asks_like h _ (fun S T x h => run_like ans l S T _ h)
    · rw [step1 hc, step1 hc]; exact asks_like h _ (fun S T x h => run_like ans l S T _ h)
    · rw [step2 hc, step2 hc]; exact run_like ans l _ _ _ ⟨h.acc, h.nts, h.loc.setL _ _⟩
    · rw [step3 hc, step3 hc]; exact run_like ans l _ _ _ ⟨h.acc, by simp [noteT, h.acc, h.nts], h.loc⟩
    · rw [step4 hc, step4 hc, h.loc.getL]; exact asks_like h _ (fun S T x h => run_like ans l S T _ h)
    · rw [step5 hc, step5 hc]
      refine asks_like h _ (fun S T x h => ?_)
      rw [(h.loc.setL o.b x).getL]
      exact run_like ans l _ _ _ ⟨h.acc, h.nts, h.loc.setL _ _⟩
theorem step_loc {ans : List Int} : ∀ (l : List Op) (S : TS) (sum : Int), S.loc.length ≤ 32768 → (runA ans l S sum).st.loc.length ≤ 32768
  | [], S, sum, h => h
  | o :: l, S, sum, h => by
    show (stepA ans o S sum (runA ans l)).st.loc.length ≤ 32768
    have hc : o.k % 6 = 0 ∨ o.k % 6 = 1 ∨ o.k % 6 = 2 ∨ o.k % 6 = 3 ∨ o.k % 6 = 4 ∨ o.k % 6 = 5 := by omega
    have hA : ∀ (a : Ac) (f : TS → Int → TS) (g : TS → Int → Int), (∀ T x, T.loc.length ≤ 32768 → (f T x).loc.length ≤ 32768) → (asks ans S a (fun S x => runA ans l (f S x) (g S x))).st.loc.length ≤ 32768 := by
      intro a f g hf
      unfold asks
      split
      · exact step_loc l _ _ (hf _ _ h)
      · exact h
    rcases hc with hc | hc | hc | hc | hc | hc
    · rw [step0 hc]; exact hA _ (fun S _ => S) (fun _ x => addW sum x) (fun _ _ h => h)
    · rw [step1 hc]; exact hA _ (fun S _ => S) (fun _ _ => sum) (fun _ _ h => h)
    · rw [step2 hc]; exact step_loc l _ _ (setL_len _ _ _ h)
    · rw [step3 hc]; exact step_loc l _ _ h
    · rw [step4 hc]; exact hA _ (fun S _ => S) (fun _ _ => sum) (fun _ _ h => h)
    · rw [step5 hc]; exact hA _ (fun S x => setT S o.b x) (fun S x => addW sum (getL (setL S.loc o.b x) o.b)) (fun _ _ h => setL_len _ _ _ h)
end TapeM
end Go.Proofs.Ytjffgppdjdmmgaa
