/- SteadyTurns' mathematics: by one writer a steady bit's writes take turns. Own work. -/
import Derived.Test.YthijoklafbnhlaaSdT
namespace Go.Proofs.Ythijoklafbnhlaa
namespace TapeM
/-- Each is written. -/
def wrAll (wr : Int → Tr Unit) : List Int → Tr Int
  | [] => .ret 0
  | x :: l => (wr x).bind fun _ => wrAll wr l
theorem wrAll_nb {wr : Int → Tr Unit} (hw : ∀ x, (wr x).nb 0) : ∀ l : List Int, (wrAll wr l).nb 0
  | [] => trivial
  | x :: l => Tr.nb_bind (m := 0) (fun _ => wrAll_nb hw l) (wr x) (n := 0) (hw x)
theorem wrAll_drop {wr : Int → Tr Unit} {l : List Int} {i : Nat} (h : i < l.length) : wrAll wr (l.drop i) = (wr l[i]).bind fun _ => wrAll wr (l.drop (i + 1)) := by
  rw [List.drop_eq_getElem_cons h]; rfl
theorem getL_setL (l : List Int) (i v : Int) (h0 : 0 ≤ i) (h1 : i < 32768) : getL (setL l i v) i = v := by
  have hl := pad_len l (i.toNat + 1)
  have e : setL l i v = (padL l (i.toNat + 1)).set i.toNat v := if_pos ⟨h0, h1⟩
  have hk : i.toNat < (padL l (i.toNat + 1)).length := by omega
  rw [e]
  unfold getL
  rw [if_pos ⟨h0, by rw [List.length_set]; omega⟩]
  simp [List.getD, hk]
theorem getL_other (l : List Int) (i j v : Int) (hne : i ≠ j) : getL (setL l i v) j = getL l j := by
  have key : ∀ a : List Int, getL a j = if 0 ≤ j then a.getD j.toNat 0 else 0 := by
    intro a
    unfold getL
    by_cases h0 : 0 ≤ j
    · by_cases h1 : j < a.length
      · rw [if_pos ⟨h0, h1⟩, if_pos h0]
      · rw [if_neg (fun hh => h1 hh.2), if_pos h0, getD_out (by omega)]
    · rw [if_neg (fun hh => h0 hh.1), if_neg h0]
  rw [key, key]
  by_cases h0 : 0 ≤ j
  · rw [if_pos h0, if_pos h0]
    unfold setL
    by_cases h1 : 0 ≤ i ∧ i < 32768
    · rw [if_pos h1]
      have h2 := pad_get l (i.toNat + 1) j.toNat
      simp only [List.getD] at h2 ⊢
      rw [List.getElem?_set_ne (by omega), h2]
    · rw [if_neg h1]
  · rw [if_neg h0, if_neg h0]
/-- m writes that take turns, from 1 on. -/
def alt (m : Nat) : List Ac := (List.range m).map fun i : Nat => ⟨2, 1, ((i : Int) + 1) % 2⟩
theorem alt_succ (m : Nat) : alt (m + 1) = alt m ++ [⟨2, 1, ((m : Int) + 1) % 2⟩] := by unfold alt; rw [List.range_succ, List.map_append]; rfl
theorem alt_len (m : Nat) : (alt m).length = m := by simp [alt]
theorem alt_get (m i : Nat) (h : i < (alt m).length) : (alt m)[i] = ⟨2, 1, ((i : Int) + 1) % 2⟩ := by simp [alt]
theorem bitI_or (x : Int) : bitI x = 0 ∨ bitI x = 1 := by unfold bitI; split <;> simp
theorem turns (ans : List Int) : ∀ (l : List Int) (S : TS) (m : Nat), S.acc = alt m → getL S.loc 0 = (m : Int) % 2 → m + l.length ≤ ans.length →
    ∃ T m', (wrAll (fun x => wrSd 1 0 x) l).run ans S = .go T 0 ∧ T.acc = alt m' ∧ m' ≤ m + l.length
  | [], S, m, h, _, _ => ⟨S, m, rfl, h, by simp⟩
  | x :: l, S, m, h, hg, hl => by
    rw [List.length_cons] at hl
    show ∃ T m', Tr.run ans ((wrSd 1 0 x).bind fun _ => wrAll (fun x => wrSd 1 0 x) l) S = .go T 0 ∧ _
    rw [wrSd_bind]
    show ∃ T m', Tr.run ans (if getL S.loc 0 = bitI x then wrAll (fun x => wrSd 1 0 x) l else .ask ⟨2, 1, bitI x⟩ fun _ => .set 0 (bitI x) (wrAll (fun x => wrSd 1 0 x) l)) S = .go T 0 ∧ _
    by_cases e : getL S.loc 0 = bitI x
    · rw [if_pos e]
      obtain ⟨T, m', h1, h2, h3⟩ := turns ans l S m h hg (by omega)
      exact ⟨T, m', h1, h2, by rw [List.length_cons]; omega⟩
    · rw [if_neg e]
      have hb : bitI x = ((m : Int) + 1) % 2 := by
        rw [hg] at e
        rcases bitI_or x with hx | hx <;> rw [hx] at e ⊢ <;> omega
      show ∃ T m', asks ans S ⟨2, 1, bitI x⟩ _ = .go T 0 ∧ _
      have hlen : S.acc.length = m := by rw [h, alt_len]
      rw [asks_go (by omega)]
      obtain ⟨T, m', h1, h2, h3⟩ := turns ans l (setT (askT S ⟨2, 1, bitI x⟩) 0 (bitI x)) (m + 1) (by
        show S.acc ++ [_] = _
        rw [h, alt_succ, hb]) (by
        show getL (setL S.loc 0 (bitI x)) 0 = _
        rw [getL_setL _ _ _ (by decide) (by decide), hb]
        rfl) (by omega)
      exact ⟨T, m', h1, h2, by rw [List.length_cons]; omega⟩
end TapeM
end Go.Proofs.Ythijoklafbnhlaa
