/- A bit out of three: what writing it and reading it do. Plain mathematics. Own work. -/
import Derived.Test.YtjffgppdjdmmgaaSdT
namespace Go.Proofs.Ytjffgppdjdmmgaa
namespace TapeM
/-- What a bit is not. -/
def other (x : Int) : Int := Go.RowKit.wrap64 (1 - x)
def putT (b l v : Int) : Tr Unit := .ask ⟨2, b, v⟩ fun _ => .set l v (.ret ())
def flipT (b l : Int) : Tr Unit := .get l fun x => putT b l (other x)
def knownT (b l : Int) : Tr Bool := .ask ⟨1, b + 1, 0⟩ fun y => .get (l + 2) fun r => .ret (y == r)
def lookT (b l : Int) : Tr Unit := .ask ⟨1, b, 0⟩ fun z => .set (l + 3) z (.ret ())
def wrTp (b l v : Int) : Tr Unit := .get l fun x => if x = bitI v then .ret () else (putT b l (bitI v)).bind fun _ =>
  .ask ⟨1, b + 2, 0⟩ fun y => .get (l + 1) fun w => if y = w then flipT (b + 1) (l + 1) else .ret ()
/-- The same, W's local got first. -/
def wrTpR (b l v : Int) : Tr Unit := .get l fun x => if x = bitI v then .ret () else (putT b l (bitI v)).bind fun _ =>
  .get (l + 1) fun w => .ask ⟨1, b + 2, 0⟩ fun y => if y = w then putT (b + 1) (l + 1) (other w) else .ret ()
def rdLast (b l x : Int) : Tr Int := (lookT b l).bind fun _ => (knownT b l).bind fun u => if u then .get (l + 3) .ret else (lookT b l).bind fun _ => .ret x
def rdTp (b l : Int) : Tr Int := (knownT b l).bind fun u => if u then .get (l + 3) .ret else
  .ask ⟨1, b, 0⟩ fun x => (knownT b l).bind fun u => if u then rdLast b l x else (flipT (b + 2) (l + 2)).bind fun _ => rdLast b l x
namespace Tr
/-- Two trees that come to the same, from wherever it is. -/
structure Alike (ans : List Int) (t u : Tr Int) : Prop where
  run : ∀ S, t.run ans S = u.run ans S
  nb : ∀ n, t.nb n → u.nb n
theorem run_ask (ans : List Int) (a : Ac) (k : Int → Tr Int) (S : TS) : (Tr.ask a k).run ans S = asks ans S a fun S x => (k x).run ans S := rfl
theorem run_get (ans : List Int) (i : Int) (k : Int → Tr Int) (S : TS) : (Tr.get i k).run ans S = (k (getL S.loc i)).run ans S := rfl
end Tr
/-- The write, both ways. -/
theorem wrTp_alike (ans : List Int) (b l v : Int) (k : Unit → Tr Int) : Tr.Alike ans ((wrTp b l v).bind k) ((wrTpR b l v).bind k) := by
  have key : ∀ S, Tr.run ans (Tr.bind (.ask ⟨1, b + 2, 0⟩ fun y => .get (l + 1) fun w => if y = w then flipT (b + 1) (l + 1) else .ret ()) k) S = Tr.run ans (Tr.bind (.get (l + 1) fun w => .ask ⟨1, b + 2, 0⟩ fun y => if y = w then putT (b + 1) (l + 1) (other w) else .ret ()) k) S := by
    intro S
    have e1 : Tr.run ans (Tr.bind (.ask ⟨1, b + 2, 0⟩ fun y => .get (l + 1) fun w => if y = w then flipT (b + 1) (l + 1) else .ret ()) k) S = asks ans S ⟨1, b + 2, 0⟩ (fun T y => Tr.run ans (Tr.bind (.get (l + 1) fun w => if y = w then flipT (b + 1) (l + 1) else .ret ()) k) T) := rfl
    have e2 : Tr.run ans (Tr.bind (.get (l + 1) fun w => .ask ⟨1, b + 2, 0⟩ fun y => if y = w then putT (b + 1) (l + 1) (other w) else .ret ()) k) S = asks ans S ⟨1, b + 2, 0⟩ (fun T y => Tr.run ans (Tr.bind (if y = getL S.loc (l + 1) then putT (b + 1) (l + 1) (other (getL S.loc (l + 1))) else .ret ()) k) T) := rfl
    rw [e1, e2]
    unfold asks
    split
    · show Tr.run ans (Tr.bind (if _ = getL S.loc (l + 1) then flipT (b + 1) (l + 1) else .ret ()) k) (askT S _) = Tr.run ans (Tr.bind (if _ = getL S.loc (l + 1) then putT (b + 1) (l + 1) (other (getL S.loc (l + 1))) else .ret ()) k) (askT S _)
      split
      · rfl
      · rfl
    · rfl
  refine ⟨fun S => ?_, fun n h x => ?_⟩
  · show Tr.run ans (Tr.bind (if getL S.loc l = bitI v then _ else _) k) S = Tr.run ans (Tr.bind (if getL S.loc l = bitI v then _ else _) k) S
    split
    · rfl
    · show asks ans S ⟨2, b, bitI v⟩ _ = asks ans S ⟨2, b, bitI v⟩ _
      unfold asks
      split
      · exact key (setT (askT S ⟨2, b, bitI v⟩) l (bitI v))
      · rfl
  · have h := h x
    show (Tr.bind (if x = bitI v then _ else _) k).nb n
    have h : (Tr.bind (if x = bitI v then _ else _) k).nb n := h
    by_cases e : x = bitI v
    · rw [if_pos e] at h ⊢
      exact h
    · rw [if_neg e] at h ⊢
      intro _ w y
      have h : (Tr.bind (if y = w then flipT (b + 1) (l + 1) else .ret ()) k).nb n := h 0 y w
      show (Tr.bind (if y = w then putT (b + 1) (l + 1) (other w) else .ret ()) k).nb n
      by_cases e2 : y = w
      · rw [if_pos e2] at h ⊢
        exact h w
      · rw [if_neg e2] at h ⊢
        exact h
theorem wrTp_nb (b l v : Int) : (wrTp b l v).nb 0 := fun x => by
  show (if x = bitI v then (.ret () : Tr Unit) else _).nb 0
  split
  · trivial
  · intro _ y w
    show (if y = w then flipT (b + 1) (l + 1) else (.ret () : Tr Unit)).nb 0
    split
    · exact fun _ _ => trivial
    · trivial
theorem rdLast_nb (b l x : Int) : (rdLast b l x).nb 0 := fun _ _ _ => by
  show (if _ then (.get (l + 3) .ret : Tr Int) else _).nb 0
  split
  · exact fun _ => trivial
  · exact fun _ => trivial
theorem rdTp_nb (b l : Int) : (rdTp b l).nb 0 := fun _ _ => by
  show (if _ then (.get (l + 3) .ret : Tr Int) else _).nb 0
  split
  · exact fun _ => trivial
  · intro x _ _
    show (if _ then rdLast b l x else _).nb 0
    split
    · exact rdLast_nb b l x
    · exact fun _ _ => rdLast_nb b l x
theorem wrTp_cost (b l v : Int) : (wrTp b l v).cost 3 := fun x => by
  show (if x = bitI v then (.ret () : Tr Unit) else _).cost 3
  split
  · trivial
  · intro _ y w
    show (if y = w then flipT (b + 1) (l + 1) else (.ret () : Tr Unit)).cost 1
    split
    · exact fun _ _ => trivial
    · trivial
theorem rdLast_cost (b l x : Int) : (rdLast b l x).cost 3 := fun _ _ _ => by
  show (if _ then (.get (l + 3) .ret : Tr Int) else _).cost 1
  split
  · exact fun _ => trivial
  · exact fun _ => trivial
theorem rdTp_cost (b l : Int) : (rdTp b l).cost 7 := fun _ _ => by
  show (if _ then (.get (l + 3) .ret : Tr Int) else _).cost 6
  split
  · exact fun _ => trivial
  · intro x _ _
    show (if _ then rdLast b l x else _).cost 4
    split
    · exact Tr.cost_mono _ (rdLast_cost b l x) (by decide)
    · exact fun _ _ => rdLast_cost b l x
namespace Tr
/-- All it asks for is of a kind. -/
def only {α : Type} (P : Ac → Prop) : Tr α → Prop
  | ret _ => True
  | ask a k => P a ∧ ∀ x, (k x).only P
  | get _ k => ∀ x, (k x).only P
  | set _ _ k => k.only P
  | note _ k => k.only P
theorem only_bind {α β : Type} {P : Ac → Prop} {f : α → Tr β} (hf : ∀ x, (f x).only P) : ∀ t : Tr α, t.only P → (t.bind f).only P
  | ret x, _ => hf x
  | ask _ k, h => ⟨h.1, fun x => only_bind hf (k x) (h.2 x)⟩
  | get _ k, h => fun x => only_bind hf (k x) (h x)
  | set _ _ k, h => only_bind hf k h
  | note _ k, h => only_bind hf k h
theorem run_only {P : Ac → Prop} (ans : List Int) : ∀ (t : Tr Int) (S : TS), t.only P → (∀ a ∈ S.acc, P a) → ∀ a ∈ (run ans t S).st.acc, P a
  | ret _, _, _, h => h
  | ask a k, S, ht, h => by
    have h1 : ∀ b ∈ (askT S a).acc, P b := fun b hb => by
      rcases List.mem_append.1 (show b ∈ S.acc ++ [a] from hb) with hb | hb
      · exact h b hb
      · rw [List.mem_singleton.1 hb]; exact ht.1
    show ∀ b ∈ (asks ans S a _).st.acc, P b
    unfold asks
    split
    · exact run_only ans (k (ans.getD S.acc.length 0)) (askT S a) (ht.2 _) h1
    · exact h1
  | get i k, S, ht, h => run_only ans (k (getL S.loc i)) S (ht _) h
  | set i v k, S, ht, h => run_only ans k (setT S i v) ht h
  | note n k, S, ht, h => run_only ans k (noteT S n) ht h
end Tr
/-- What a write at 10 asks for, what a read. -/
def WrAc (a : Ac) : Prop := (a.k = 2 ∧ (a.c = 10 ∨ a.c = 11)) ∨ (a.k = 1 ∧ a.c = 12)
def RdAc (a : Ac) : Prop := (a.k = 2 ∧ a.c = 12) ∨ (a.k = 1 ∧ (a.c = 10 ∨ a.c = 11))
theorem wrTp_only (l v : Int) : (wrTp 10 l v).only WrAc := fun x => by
  show (if x = bitI v then (.ret () : Tr Unit) else _).only WrAc
  split
  · trivial
  · refine ⟨.inl ⟨rfl, .inl rfl⟩, fun _ => ⟨.inr ⟨rfl, rfl⟩, fun y w => ?_⟩⟩
    show (if y = w then flipT (10 + 1) (l + 1) else (.ret () : Tr Unit)).only WrAc
    split
    · exact fun _ => ⟨.inl ⟨rfl, .inr rfl⟩, fun _ => trivial⟩
    · trivial
theorem known_only (l : Int) : (knownT 10 l).only RdAc := ⟨.inr ⟨rfl, .inr rfl⟩, fun _ _ => trivial⟩
theorem look_only (l : Int) : (lookT 10 l).only RdAc := ⟨.inr ⟨rfl, .inl rfl⟩, fun _ => trivial⟩
theorem rdLast_only (l x : Int) : (rdLast 10 l x).only RdAc := Tr.only_bind (fun _ => Tr.only_bind (fun u => by
  split
  · exact fun _ => trivial
  · exact Tr.only_bind (f := fun _ => Tr.ret x) (fun _ => trivial) _ (look_only l)) _ (known_only l)) _ (look_only l)
theorem rdTp_only (l : Int) : (rdTp 10 l).only RdAc := Tr.only_bind (fun u => by
  split
  · exact fun _ => trivial
  · refine ⟨.inr ⟨rfl, .inl rfl⟩, fun x => Tr.only_bind (fun u => ?_) _ (known_only l)⟩
    split
    · exact rdLast_only l x
    · exact Tr.only_bind (fun _ => rdLast_only l x) _ (fun _ => ⟨.inl ⟨rfl, rfl⟩, fun _ => trivial⟩)) _ (known_only l)
end TapeM
end Go.Proofs.Ytjffgppdjdmmgaa
