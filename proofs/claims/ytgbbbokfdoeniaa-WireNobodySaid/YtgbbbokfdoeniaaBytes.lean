/- Slices of bytes: what they read as, what a call owns of them, appending, copying, texts of them. Own work. -/
import Derived.Test.YtgbbbokfdoeniaaRows
import Derived.WalkKit
import Derived.ProofKit
import Derived.OpenShut
import Derived.WalkLawsBesides
import Derived.WalkSpells
import Derived.BigQuiet
import Derived.Deep.QuietTactic
import Derived.Laws.AppendOwn
import Derived.Laws.AppendOwnNone
import Derived.Laws.OwnMore
import Derived.Laws.BytesArg
import Derived.OwnWalk
import Derived.Lib.Hide
import Derived.Outline
namespace Go.Proofs.Ytgbbbokfdoeniaa
open Go.ChangeShapes Go.WideShapes Go.ChangeAt Go.RowKit

theorem ret_int {k : IntKind} {a b : Int} (h : a = b) : Ending.returned (.int k a) = .returned (.int k b) := by rw [h]
theorem ret_bool {a b : Bool} (h : a = b) : Ending.returned (.bool a) = .returned (.bool b) := by rw [h]
theorem ret_str {a b : ByteArray} (h : a = b) : Ending.returned (.string a) = .returned (.string b) := by rw [h]
theorem infoU8 : (Try.prog.info? 5).map (fun i => (i.zero, i.size, i.bytes)) = some (some (.int .u8 0), 1, 1) := by kernel_rfl

/-- A byte as a cell holds it. -/
def byteV (c : UInt8) : Value := .int .u8 (c.toNat : Int)
/-- The slice's places read as the bytes L, in blocks below B. -/
def BR (w : World) (B : Nat) (A : Option Addr) (c : Nat) (L : List UInt8) : Prop :=
  L.length ≤ c ∧ c ≤ maxLen ∧ (A = none → c = 0) ∧ ∀ k (h : k < L.length), ∃ ad, A = some ad ∧ ad.block < B ∧ w.cell? (ad.add k) = some (.int .u8 (L[k].toNat : Int))
theorem add_block (a : Addr) (n : Nat) : (a.add n).block = a.block := by unfold Addr.add; split <;> rfl
theorem add_add (a : Addr) (i j : Nat) : (a.add i).add j = a.add (i + j) := by
  unfold Addr.add
  by_cases hi : i = 0 <;> by_cases hj : j = 0 <;> simp [hi, hj, Nat.add_assoc]
theorem cell_lt {w : World} {p : Addr} {x : Value} (h : w.cell? p = some x) : p.block < w.heap.size := World.block_lt_of_cell? _ _ h
section
variable {w w' : World} {B B' c : Nat} {A : Option Addr} {L : List UInt8}
theorem BR.len (h : BR w B A c L) : L.length ≤ c := h.1
theorem BR.max (h : BR w B A c L) : L.length ≤ maxLen := Nat.le_trans h.1 h.2.1
theorem BR.keep (h : BR w B A c L) (hk : ∀ p : Addr, p.block < B → w'.cell? p = w.cell? p) : BR w' B A c L :=
  ⟨h.1, h.2.1, h.2.2.1, fun k hl => by
    obtain ⟨ad, e, hb, hc⟩ := h.2.2.2 k hl
    exact ⟨ad, e, hb, (hk _ (by rw [add_block]; exact hb)).trans hc⟩⟩
theorem BR.below (h : BR w B A c L) (hb : Below B w w') : BR w' B A c L := h.keep fun _ hp => hb.cell hp
theorem BR.more (h : BR w B A c L) (hB : B ≤ B') : BR w B' A c L :=
  ⟨h.1, h.2.1, h.2.2.1, fun k hl => by
    obtain ⟨ad, e, hb, hc⟩ := h.2.2.2 k hl
    exact ⟨ad, e, by omega, hc⟩⟩
theorem BR.here (h : BR w B A c L) : BR w w.heap.size A c L :=
  ⟨h.1, h.2.1, h.2.2.1, fun k hl => by
    obtain ⟨ad, e, hb, hc⟩ := h.2.2.2 k hl
    exact ⟨ad, e, by have := cell_lt hc; rwa [add_block] at this, hc⟩⟩
theorem BR.drewN (h : BR w B A c L) (n : Nat) : BR (w.drewN n) B A c L := h
theorem BR.nil (w : World) (B : Nat) : BR w B none 0 [] := ⟨Nat.le_refl _, Nat.zero_le _, fun _ => rfl, fun k hk => absurd hk (by simp)⟩
/-- s[k:] -/
theorem BR.cut (h : BR w B A c L) {k : Nat} (hk : k ≤ L.length) : BR w B (if c = k then A else A.map (·.add (k * 1))) (c - k) (L.drop k) := by
  refine ⟨by rw [List.length_drop]; have := h.1; omega, by have := h.2.1; omega, fun e => ?_, fun j hj => ?_⟩
  · split at e
    · omega
    · have : A = none := by cases A <;> simp_all
      have := h.2.2.1 this; omega
  · rw [List.length_drop] at hj
    obtain ⟨ad, rfl, hb, hc⟩ := h.2.2.2 (k + j) (by omega)
    rw [if_neg (by have := h.1; omega)]
    refine ⟨ad.add (k * 1), rfl, by rw [add_block]; exact hb, ?_⟩
    rw [add_add, Nat.mul_one, hc, List.getElem_drop]
/-- s[:k] -/
theorem BR.take (h : BR w B A c L) {k : Nat} (hk : k ≤ L.length) : BR w B A c (L.take k) := by
  refine ⟨by rw [List.length_take]; have := h.1; omega, h.2.1, h.2.2.1, fun j hj => ?_⟩
  rw [List.length_take] at hj
  obtain ⟨ad, e, hb, hc⟩ := h.2.2.2 j (by omega)
  exact ⟨ad, e, hb, by rw [hc, List.getElem_take]⟩
end
/-- string(b) -/
theorem conv_str {w : World} {B c : Nat} {A : Option Addr} {L : List UInt8} (h : BR w B A c L) : (convert 22 9 (.slice A L.length c)).run Try.prog w = .ok (.string ⟨L.toArray⟩) w := by
  cases hA : A with
  | none =>
    subst hA
    have h0 := h.2.2.1 rfl
    have h1 := h.1
    have : L = [] := List.eq_nil_of_length_eq_zero (by omega)
    subst this
    exact run_convert_bytes_nil w _ _ Try.underlying22 Try.underlying5 _ _ _ Try.underlying9
  | some ad =>
    subst hA
    rw [run_convert_bytes_string w _ _ _ _ _ _ Try.underlying22 Try.underlying5 Try.underlying9]
    have hl : (loadCells ad L.length).run Try.prog w = .ok ((L.map fun c => (c.toNat : Int)).map (Value.int .u8)).toArray w := by
      have := run_loadCells_list (P := Try.prog) w ad ((L.map fun c => (c.toNat : Int)).map (Value.int .u8)) (fun j v hj => by
        simp only [List.getElem?_map, Option.map_map] at hj
        have hjl : j < L.length := by
          rcases Nat.lt_or_ge j L.length with h' | h'
          · exact h'
          · rw [List.getElem?_eq_none h'] at hj; cases hj
        rw [List.getElem?_eq_getElem hjl] at hj
        obtain ⟨ad', e, _, hc⟩ := h.2.2.2 j hjl
        cases e
        rw [hc]; exact hj)
      simpa using this
    rw [run_bytesToString w _ _ _ _ hl, foldl_push_bytes]
    congr 2
    ext1
    simp [ByteArray.empty, ByteArray.emptyWithCapacity, List.map_map, Function.comp_def]
    rfl

/-- A row of bytes of the call's own. -/
def OwnB (w : World) (base : Nat) (v : Value) (L : List UInt8) : Prop := w.ownsRow base 5 1 v L.length (L.map byteV)
theorem OwnB.reads {w : World} {base : Nat} {v : Value} {L : List UInt8} (h : OwnB w base v L) : ∃ A c, v = .slice A L.length c ∧ BR w w.heap.size A c L := by
  unfold OwnB at h
  have hh := h
  rcases h.2 with ⟨hv, h0⟩ | ⟨g, cap, cur, hv, _, hg, hn, hm, _, _⟩
  · exact ⟨none, 0, by rw [hv, h0], by omega, Nat.zero_le _, fun _ => rfl, fun k hk => absurd hk (by omega)⟩
  · refine ⟨some ⟨g, 0, none⟩, cap, hv, hn, hm, fun e => (by cases e), fun k hk => ⟨_, rfl, (Array.getElem?_eq_some_iff.1 hg).1, ?_⟩⟩
    exact hh.cells (g := g) (by rw [hv]; rfl) k _ (by simp [hk, byteV])
theorem OwnB.nil (w : World) (base : Nat) : OwnB w base (.slice none 0 0) [] := World.ownsRow_nil _ _ _ _
theorem OwnB.below {w w' : World} {base B : Nat} {v : Value} {L : List UInt8} (h : OwnB w base v L) (hb : Below B w w') (hB : w.heap.size ≤ B) : OwnB w' base v L :=
  World.ownsRow.kept (row := none) h ⟨hb.os, hb.tape, hb.output, hb.size, fun k hk _ => hb.block k (by omega)⟩ (by cases hv : v.ownBlock <;> simp)
theorem OwnB.alloc {w : World} {base : Nat} {v : Value} {L : List UInt8} (h : OwnB w base v L) (o : Obj) : OwnB (w.alloc o) base v L := World.ownsRow.alloc h o
theorem OwnB.lower {w : World} {base base' : Nat} {v : Value} {L : List UInt8} (h : OwnB w base v L) (hb : base' ≤ base) : OwnB w base' v L := by
  refine ⟨h.1, ?_⟩
  rcases h.2 with hn | ⟨g, cap, cur, hv, hg, r⟩
  · exact .inl hn
  · exact .inr ⟨g, cap, cur, hv, by omega, r⟩
/-- A new literal of bytes. -/
theorem OwnB.lit (w : World) (base : Nat) (hb : base ≤ w.heap.size) (L : List UInt8) (n : Nat) (hn : L.length = n) (hm : n ≤ maxLen) (cs : Array Value) (hc : cs = (L.map byteV).toArray) :
    OwnB (w.alloc (.cells cs 5)) base (.slice (some ⟨w.heap.size, 0, none⟩) n n) L := by
  subst hn; subst hc
  have := World.ownsRow_lit (e := 5) (size := 1) w (L.map byteV).toArray L.length hb hm (by simp)
  simpa [OwnB] using this
/-- A new literal of bytes, to be read. -/
theorem br_lit (w : World) (L : List UInt8) (n : Nat) (hn : L.length = n) (hm : n ≤ maxLen) (cs : Array Value) (hc : cs = (L.map byteV).toArray) :
    BR (w.alloc (.cells cs 5)) (w.heap.size + 1) (some ⟨w.heap.size, 0, none⟩) n L := by
  obtain ⟨A, c, e, h⟩ := (OwnB.lit w 0 (Nat.zero_le _) L n hn hm cs hc).reads
  cases e
  simpa using h
theorem byteV_nat {n : Nat} (h : n < 256) : byteV (UInt8.ofNat n) = .int .u8 n := by
  unfold byteV; simp; omega

/-- append of any bytes onto a row of the call's own. -/
theorem app_bytes {w : World} {ops : Array Oper} {rest : List Oper} {o : Oper} {a : Act} {Q : Exit → Act → World → Prop} (hgd : o.guard = none) (s x : Operand)
    (ho : o.op = .call { callee := .builtin .append, args := #[s, x], argTypes := #[22, 22] })
    (base : Nat) (v : Value) (L : List UInt8) (hs : a.eval s = v) (hown : OwnB w base v L)
    (B : Nat) (A : Option Addr) (m c : Nat) (M : List UInt8) (hx : a.eval x = .slice A m c) (hr : BR w B A c M) (hm : M.length = m)
    (hlen : L.length + M.length ≤ 140737488355328) (hbase : base ≤ w.heap.size)
    (h : ∀ v' w', OwnB w' base v' (L ++ M) → Below base w w' → wpList Try.prog ops Q rest (a.put o.dst v') w') : wpList Try.prog ops Q (o :: rest) a w := by
  subst hm
  obtain ⟨i0, hi, hz0, hz1, hz2⟩ := info_parts infoU8
  cases A with
  | none =>
    have h0 := hr.2.2.1 rfl
    have h1 := hr.1
    have : M = [] := List.eq_nil_of_length_eq_zero (by omega)
    subst this
    subst h0
    refine wpList_append_own_none hgd s x 22 ho base 5 i0 1 Try.underlying22 hi v L.length _ hs hown hx ?_
    exact h v w (by simpa using hown) (Below.refl _ _)
  | some ad =>
    refine wpList_append_own w hgd s x 22 ho base 5 i0 (.int .u8 0) 1 1 Try.underlying22 hi hz0 hz1 hz2 rfl (by decide) v L.length _ hs hown ad M.length c (M.map byteV) hx (by simp) ?_ ?_ (by unfold maxLen; omega) (by omega) hbase ?_
    · intro j u hu
      rw [List.getElem?_map] at hu
      have hj : j < M.length := by
        rcases Nat.lt_or_ge j M.length with h' | h'
        · exact h'
        · rw [List.getElem?_eq_none h'] at hu; cases hu
      rw [List.getElem?_eq_getElem hj] at hu
      obtain ⟨ad', e, _, hc⟩ := hr.2.2.2 j hj
      cases e
      rw [hc]; exact hu
    · intro u hu
      rw [List.mem_map] at hu
      obtain ⟨y, _, rfl⟩ := hu
      rfl
    · intro v' w' h1 h2 _
      refine h v' w' ?_ ((Below.refl base w).grown h2 hbase fun k hk => (hown.lt k hk).1)
      unfold OwnB
      simpa using h1
theorem below_alloc (w : World) (o : Obj) : Below w.heap.size w (w.alloc o) := (Below.refl _ _).alloc (Nat.le_refl _) _

theorem eql_nil (w : World) (A : Option Addr) (n c : Nat) : (binOp .eql 22 (.slice A n c) (.slice none 0 0)).run Try.prog w = .ok (.bool A.isNone) w :=
  Lib.run_eql_slice_nil w _ _ A n c 0 0 Try.underlying22
end Go.Proofs.Ytgbbbokfdoeniaa
