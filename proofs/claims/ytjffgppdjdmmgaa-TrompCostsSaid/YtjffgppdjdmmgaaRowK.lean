/- Slices of elements of k cells in memory, with room behind them (nil let in); one more. Own work. -/
import Derived.Test.YtjffgppdjdmmgaaRowS
namespace Go.Proofs.Ytjffgppdjdmmgaa
open Go.ChangeShapes Go.WideShapes Go.ChangeAt Go.RowKit CellM

/-- .slice A n c holds the cells xs, k a piece; h: its block. -/
structure RowK (w : World) (k : Nat) (A : Option Addr) (h c n : Nat) (xs : List Value) : Prop where
  len : xs.length = n * k
  le : n ≤ c
  max : c ≤ maxLen
  addr : (c = 0 ∧ A = none) ∨ A = some ⟨h, 0, none⟩
  at_ : ∀ j x, xs[j]? = some x → Has w ⟨h, j, none⟩ x
  room : ∀ j, j < c * k → ∃ x, Has w ⟨h, j, none⟩ x
section
variable {w w' : World} {k : Nat} {A : Option Addr} {h c n : Nat} {xs ys : List Value} {F : Addr → Prop}
theorem RowK.keep (H : RowK w k A h c n xs) (hk : Kept F w w') (hf : ∀ j, j < c * k → ¬ F ⟨h, j, none⟩) : RowK w' k A h c n xs :=
  ⟨H.len, H.le, H.max, H.addr, fun j x hx => hk.has _ _ (H.at_ j x hx) (hf j (by
    have h1 := (List.getElem?_eq_some_iff.1 hx).1
    rw [H.len] at h1
    exact Nat.lt_of_lt_of_le h1 (Nat.mul_le_mul_right k H.le))), fun j hj => by
    obtain ⟨x, hx⟩ := H.room j hj
    exact ⟨x, hk.has _ _ hx (hf j hj)⟩⟩
theorem RowK.below (H : RowK w k A h c n xs) (hb : Below w.heap.size w w') : RowK w' k A h c n xs := H.keep (F := fun _ => False) (.below hb) (fun _ _ h => h)
theorem RowK.nil (w : World) (k h : Nat) : RowK w k none h 0 0 [] := ⟨by simp, Nat.le_refl _, Nat.zero_le _, .inl ⟨rfl, rfl⟩, fun j x hx => by simp at hx, fun j hj => by simp at hj⟩
theorem RowK.lt (H : RowK w k A h c n xs) (hk : 0 < k) (hc : c ≠ 0) : h < w.heap.size := by
  obtain ⟨x, hx⟩ := H.room 0 (Nat.mul_pos (Nat.pos_of_ne_zero hc) hk)
  exact hx.lt
/-- An element's cell. -/
theorem RowK.get (H : RowK w k A h c n xs) {i : Nat} (hi : i < n) : A = some ⟨h, 0, none⟩ ∧ c ≠ 0 :=
  ⟨by
    rcases H.addr with ⟨h0, _⟩ | h1
    · have := H.le; omega
    · exact h1, by have := H.le; omega⟩
theorem RowK.own {B : Nat} {T : TypeId} {v : Value} (H : w.ownsRow B T k v n xs) (hne : n ≠ 0) : ∃ g c, B ≤ g ∧ v = .slice (some ⟨g, 0, none⟩) n c ∧ RowK w k (some ⟨g, 0, none⟩) g c n xs := by
  have hl := H.1
  rcases H.2 with ⟨_, h0⟩ | ⟨g, cap, cur, hv, hg, hh, hn, hm, hs, hx⟩
  · exact absurd h0 hne
  · have hh2 : w.heap[g]? = some (.cells cur T (0, 0)) := hh
    have hhas : ∀ j, j < cur.size → ∃ x, Has w ⟨g, j, none⟩ x := fun j hj => ⟨cur[j], by rw [cell_of_row _ _ j cur _ (0, 0) hh2]; exact Array.getElem?_eq_getElem hj, by simp [World.frozen?, hh2]⟩
    refine ⟨g, cap, hg, hv, hl, hn, hm, .inr rfl, fun j x hx' => ?_, fun j hj => hhas j (by omega)⟩
    have hj := (List.getElem?_eq_some_iff.1 hx').1
    rw [hl] at hj
    obtain ⟨y, hy⟩ := hhas j (by
      have := Nat.mul_le_mul_right k hn
      omega)
    have hc := H.cells (g := g) (by rw [hv]; rfl) j x hx'
    have : (⟨g, 0, none⟩ : Addr).add j = ⟨g, j, none⟩ := by unfold Addr.add; split <;> simp_all
    rw [this] at hc
    exact ⟨hc, hy.2⟩
/-- What an append of one element leaves. -/
structure OntoK (w w' : World) (v' : Value) (k : Nat) (A : Option Addr) (h c n : Nat) (xs ys : List Value) : Prop where
  ex : ∃ A' h' c', v' = .slice A' (n + 1) c' ∧ RowK w' k A' h' c' (n + 1) (xs ++ ys) ∧ ((h' = h ∧ c' = c ∧ n < c) ∨ (c ≤ n ∧ w.heap.size ≤ h'))
  kept : Kept (fun p => n < c ∧ p.block = h) w w'
  below : ∀ B, (n < c → B ≤ h) → B ≤ w.heap.size → Below B w w'
  block : ∀ b, b < w.heap.size → (n < c → b ≠ h) → w'.heap[b]? = w.heap[b]?
theorem run_app_k {T TS : TypeId} {z : Value} {bytes : Nat} (hu : Try.prog.underlying TS = some (.slice T)) (hinfo : (Try.prog.info? T).map (fun i => (i.zero, i.size, i.bytes)) = some (some z, k, bytes)) (hzs : z.cells.size = k) (hk : 0 < k) (hby : bytes ≤ 64)
    (H : RowK w k A h c n xs) (hl : n ≤ 100000) (ad : Addr) (hy : ys.length = k) (hone : ∀ u ∈ ys, u.oneCell' = true) (hnews : ∀ j u, ys[j]? = some u → w.cell? (ad.add j) = some u) (ty : TypeId) :
    ∃ v' w', (Builtin.append_ #[TS, TS] ty #[.slice A n c, .slice (some ad) 1 1]).run Try.prog w = .ok v' w' ∧ OntoK w w' v' k A h c n xs ys := by
  obtain ⟨i0, hi, hz0, hz1, hz2⟩ := info_parts hinfo
  have hbytes : (n + 1) * bytes ≤ 140737488355328 := Nat.le_trans (Nat.mul_le_mul (show n + 1 ≤ 100001 by omega) hby) (by decide)
  have h63 : n + 1 ≤ maxLen := by unfold maxLen; omega
  have hown : ∀ (w' : World) (v' : Value), w.grownBy w' none → c ≤ n → w'.ownsRow w.heap.size T k v' (n + 1) (xs ++ ys) → OntoK w w' v' k A h c n xs ys := by
    intro w' v' hg hc ho
    obtain ⟨g, c', hgB, hv, hr⟩ := RowK.own ho (by omega)
    exact ⟨⟨_, g, c', hv, hr, .inr ⟨hc, hgB⟩⟩, (Kept.refl _ _).grown hg, fun B _ hB => Below.grown (Below.refl _ _) hg hB (fun k hk => by cases hk), fun b hb _ => hg.block b hb (fun e => by cases e)⟩
  rcases H.addr with ⟨h0, hA⟩ | hA
  · have hn0 : n = 0 := by have := H.le; omega
    subst hn0; subst h0; subst hA
    have hxs : xs = [] := List.eq_nil_of_length_eq_zero (by rw [H.len]; simp)
    subst hxs
    obtain ⟨v', w', hrun, r1, r2, _⟩ := run_append_own (P := Try.prog) w w.heap.size TS ty T i0 z k bytes hu hi hz0 hz1 hz2 hzs hk (.slice none 0 0) 0 [] (World.ownsRow_nil w _ _ _) ad 1 1 ys (by rw [hy, Nat.one_mul]) hnews hone h63 hbytes (Nat.le_refl _)
    exact ⟨v', w', hrun, hown w' v' r2 (Nat.le_refl _) r1⟩
  · subst hA
    by_cases hr : n + 1 ≤ c
    · have hnc : n * k + k ≤ c * k := by
        have := Nat.mul_le_mul_right k hr
        rw [Nat.add_mul, Nat.one_mul] at this; exact this
      have hsp : ∀ j, j < ys.length → ∃ x, Has w ⟨h, n * k + j, none⟩ x := fun j hj => H.room _ (by rw [hy] at hj; omega)
      have hrun := run_append_room_cells (P := Try.prog) w TS ty T i0 hu hi h 0 n c ad 1 1 ys (by rw [hz1, hy, Nat.one_mul]) hnews hone hr (fun j hj => by
        obtain ⟨x, hx⟩ := hsp j hj
        rw [hz1, Nat.zero_add, hx.1]; rfl) (fun j hj => by
        obtain ⟨x, hx⟩ := hsp j hj
        rw [hz1, Nat.zero_add]; exact hx.2)
      rw [hz1, Nat.zero_add] at hrun
      have hkk := kept_sets h ys (n * k) w
      refine ⟨_, _, hrun, ⟨⟨some ⟨h, 0, none⟩, h, c, rfl, ⟨by rw [List.length_append, H.len, hy, Nat.add_mul, Nat.one_mul], hr, H.max, .inr rfl, fun j x hx => ?_, fun j hj => ?_⟩, .inl ⟨rfl, rfl, by omega⟩⟩, hkk.mono (fun p hp => ⟨by omega, hp.1⟩), fun B hB _ => below_sets h (hB (by omega)) _ _ _, fun b _ hb => block_sets h (hb (by omega)) _ _ _⟩⟩
      · rcases Nat.lt_or_ge j xs.length with hj | hj
        · rw [List.getElem?_append_left hj] at hx
          rw [H.len] at hj
          exact hkk.has _ _ (H.at_ j x hx) (fun hp => by have := hp.2.1; simp only at this; omega)
        · rw [List.getElem?_append_right hj] at hx
          rw [H.len] at hj hx
          have := has_sets h ys (n * k) w hsp (j - n * k) x hx
          rw [show n * k + (j - n * k) = j by omega] at this
          exact this
      · obtain ⟨x, hx⟩ := H.room j hj
        exact hkk.live _ _ hx
    · obtain ⟨v', w', hrun, r1, r2⟩ := run_append_arg_grows (P := Try.prog) w TS ty T i0 z k bytes hu hi hz0 hz1 hz2 hzs hk ⟨h, 0, none⟩ n c xs H.len (fun j u hj => by
        have : (⟨h, 0, none⟩ : Addr).add j = ⟨h, j, none⟩ := by unfold Addr.add; split <;> simp_all
        rw [this]; exact (H.at_ j u hj).1) ad 1 1 ys (by rw [hy, Nat.one_mul]) hnews (by omega) h63 hbytes
      exact ⟨v', w', hrun, hown w' v' r2 (by omega) r1⟩
end
section
variable {w : World} {ops : Array Oper} {o : Oper} {rest : List Oper} {a : Act} {K : Act → World → Prop} {Q : Exit → Act → World → Prop} {E : Prop}
/-- append of one element, at a step of a region that draws -/
theorem step_app_k (hgd : o.guard = none) (s x : Operand) (TS T : TypeId) (ho : o.op = .call { callee := .builtin .append, args := #[s, x], argTypes := #[TS, TS] })
    (k : Nat) (z : Value) (bytes : Nat) (hu : Try.prog.underlying TS = some (.slice T)) (hinfo : (Try.prog.info? T).map (fun i => (i.zero, i.size, i.bytes)) = some (some z, k, bytes)) (hzs : z.cells.size = k) (hk : 0 < k) (hby : bytes ≤ 64)
    {A : Option Addr} {h c n : Nat} {xs ys : List Value} (H : RowK w k A h c n xs) (hl : n ≤ 100000) (hs : a.eval s = .slice A n c) (ad : Addr) (hx : a.eval x = .slice (some ad) 1 1)
    (hy : ys.length = k) (hone : ∀ u ∈ ys, u.oneCell' = true) (hnews : ∀ j u, ys[j]? = some u → w.cell? (ad.add j) = some u) (hK : ∀ v' w', OntoK w w' v' k A h c n xs ys → K (a.put o.dst v') w') :
    if Region.wanted o (yielded ops a.tmps) = true then Oper.wp Try.prog o a w K Q else E := by
  have hw : Region.wanted o (yielded ops a.tmps) = true := by simp [Region.wanted, hgd]
  rw [if_pos hw]
  obtain ⟨v', w', hrun, hO⟩ := run_app_k hu hinfo hzs hk hby H hl ad hy hone hnews o.type
  unfold Oper.wp
  simp [execOp, ho, resolve, invoke, builtin, hs, hx, hrun, Result.andThen]
  exact hK v' w' hO
/-- .. and in the text's order -/
theorem app_k (hgd : o.guard = none) (s x : Operand) (TS T : TypeId) (ho : o.op = .call { callee := .builtin .append, args := #[s, x], argTypes := #[TS, TS] })
    (k : Nat) (z : Value) (bytes : Nat) (hu : Try.prog.underlying TS = some (.slice T)) (hinfo : (Try.prog.info? T).map (fun i => (i.zero, i.size, i.bytes)) = some (some z, k, bytes)) (hzs : z.cells.size = k) (hk : 0 < k) (hby : bytes ≤ 64)
    {A : Option Addr} {h c n : Nat} {xs ys : List Value} (H : RowK w k A h c n xs) (hl : n ≤ 100000) (hs : a.eval s = .slice A n c) (ad : Addr) (hx : a.eval x = .slice (some ad) 1 1)
    (hy : ys.length = k) (hone : ∀ u ∈ ys, u.oneCell' = true) (hnews : ∀ j u, ys[j]? = some u → w.cell? (ad.add j) = some u) (hK : ∀ v' w', OntoK w w' v' k A h c n xs ys → wpList Try.prog ops Q rest (a.put o.dst v') w') :
    wpList Try.prog ops Q (o :: rest) a w := by
  refine wpList_plain hgd fun K' hK' => ?_
  obtain ⟨v', w', hrun, hO⟩ := run_app_k hu hinfo hzs hk hby H hl ad hy hone hnews o.type
  unfold Oper.wp
  simp [execOp, ho, resolve, invoke, builtin, hs, hx, hrun, Result.andThen]
  exact hK' _ _ (hK v' w' hO)
end
def valsI (l : List Int) : List Value := l.map (Value.int .i64)
theorem valsI_at {l : List Int} {k : Nat} (hk : k < l.length) : (valsI l)[k]? = some (.int .i64 l[k]) := by unfold valsI; simp [hk]
theorem underI : Try.prog.underlying 24 = some (.slice 3) := by kernel_rfl
theorem news_at (w : World) (xs : List Value) (cs : Array Value) (t : TypeId) (hc : cs = xs.toArray) : ∀ j u, xs[j]? = some u → (w.alloc (.cells cs t)).cell? ((⟨w.heap.size, 0, none⟩ : Addr).add j) = some u := by
  intro j u hj
  have : (⟨w.heap.size, 0, none⟩ : Addr).add j = ⟨w.heap.size, j, none⟩ := by unfold Addr.add; split <;> simp_all
  rw [this]
  exact (has_new w cs t j u (by rw [hc]; simpa using hj)).1
theorem bl_drewN (w : World) (n : Nat) : Below w.heap.size w (w.drewN n) := below_drewN (Below.refl _ _) n
theorem bl_drewN_alloc (w : World) (n : Nat) (o : Obj) : Below w.heap.size w ((w.drewN n).alloc o) := (bl_drewN w n).alloc (Nat.le_refl _) o
theorem bl_alloc_drew (w : World) (o : Obj) : Below w.heap.size w (w.alloc o).drew := ((Below.refl _ _).alloc (Nat.le_refl _) o).drew
end Go.Proofs.Ytjffgppdjdmmgaa
