/- What begins, what is over: the history follows the state: plain mathematics. Own work. -/
import Derived.Test.YtdfkmkflcnfchaaSim8
namespace Go.Proofs.Ytdfkmkflcnfchaa
open CellM

theorem flat_one {g : Ev → List Int} : ∀ (L : List Ev) (i : Nat) (x : Ev), L[i]? = some x → (∀ j y, L[j]? = some y → j ≠ i → g y = []) → L.flatMap g = g x
  | [], _, _, h, _ => by simp at h
  | a :: L, 0, x, h, hn => by
    simp at h; subst h
    rw [List.flatMap_cons, List.flatMap_eq_nil_iff.2 (fun y hy => ?_), List.append_nil]
    obtain ⟨j, hj, rfl⟩ := List.mem_iff_getElem.1 hy
    exact hn (j + 1) _ (by rw [List.getElem?_cons_succ, List.getElem?_eq_getElem hj]) (by omega)
  | a :: L, i + 1, x, h, hn => by
    rw [List.flatMap_cons, hn 0 a rfl (by omega), List.nil_append]
    exact flat_one L i x (by simpa using h) (fun j y hy hj => hn (j + 1) y (by simpa using hy) (by omega))
section
variable {S : St} {r : Rs}
theorem Sim.one (h : Sim S r) (t : Nat) : r.L.flatMap (oneT (r.now + 1) t) = if (S.d t).k = 2 then [(S.d t).w] else [] := by
  have hno : ∀ e ∈ r.L, (e.t = t → ¬ e.o < 0) → oneT (r.now + 1) t e = [] := by
    intro e he hh
    unfold oneT
    rw [if_neg]
    rintro ⟨h1, _, _, h4⟩
    have := h.times e he
    rcases h4 with h4 | h4
    · exact hh h1 h4
    · omega
  cases hf : findO r.L t with
  | none =>
    rw [if_neg (by rw [h.idle_of hf]; decide), List.flatMap_eq_nil_iff]
    intro e he
    exact hno e he (findO_none hf e he)
  | some i =>
    obtain ⟨hi, h1, h2⟩ := findO_some hf
    rw [List.getD_eq_getElem?_getD, List.getElem?_eq_getElem hi, Option.getD_some] at h1 h2
    have hmem : r.L[i] ∈ r.L := List.getElem_mem _
    rw [flat_one r.L i r.L[i] (List.getElem?_eq_getElem hi) (fun j y hy hj => ?_)]
    · obtain ⟨h4, h5, h6, _⟩ := h.some_ _ hmem h2
      rw [h1, show ((t : Int)).toNat = t by omega] at h5 h6
      have ht := h.times _ hmem
      unfold oneT
      by_cases hk : r.L[i].k = 2
      · rw [if_pos ⟨h1, hk, by omega, .inl h2⟩, if_pos (by rw [h5]; exact hk), h6 hk]
      · rw [if_neg (fun hh => hk hh.2.1), if_neg (by rw [h5]; exact hk)]
    · obtain ⟨hj2, rfl⟩ := List.getElem?_eq_some_iff.1 hy
      refine hno _ (List.getElem_mem _) (fun e1 e2 => ?_)
      have hp := List.pairwise_iff_getElem.1 h.uniq
      rcases Nat.lt_or_gt_of_ne hj with hlt | hlt
      · exact hp j i hj2 hi hlt e2 h2 (by rw [e1, h1])
      · exact hp i j hi hj2 hlt h2 e2 (by rw [e1, h1])
theorem Sim.overs_c (h : Sim S r) (h2 : S.kind = 2) : ∀ n, (overs S n).c = S.value :: thr r.L (r.now + 1) n
  | 0 => by simp [overs, read0, h2, thr]
  | n + 1 => by
    have e : thr r.L (r.now + 1) (n + 1) = thr r.L (r.now + 1) n ++ r.L.flatMap (oneT (r.now + 1) n) := rfl
    rw [e, h.one n]
    by_cases hk : (S.d n).k = 2
    · rw [overs_yes hk, over_c, if_pos h2, h.overs_c h2 n, if_pos hk]; rfl
    · rw [overs_no hk, h.overs_c h2 n, if_neg hk, List.append_nil]
theorem Sim.overs_m1 (h : Sim S r) (h1 : S.kind = 1) : ∀ n, (overs S n).m = true ↔ 0 < (thr r.L (r.now + 1) n).length
  | 0 => by simp [overs, read0, thr]
  | n + 1 => by
    have e : thr r.L (r.now + 1) (n + 1) = thr r.L (r.now + 1) n ++ r.L.flatMap (oneT (r.now + 1) n) := rfl
    rw [e, h.one n, List.length_append]
    by_cases hk : (S.d n).k = 2
    · rw [overs_yes hk, over_m, if_pos h1, if_pos hk]; simp
    · rw [overs_no hk, h.overs_m1 h1 n, if_neg hk]; simp
theorem Sim.seen_new (h : Sim S r) (w : Int) : seenL r.L w (r.now + 1) = w :: thr r.L (r.now + 1) 8 := by
  unfold seenL
  rw [List.flatMap_eq_nil_iff.2 (fun e he => ?_), List.append_nil]
  unfold later
  have := h.times e he
  rw [if_neg]; omega
theorem seen_pos (L : List Ev) (w f : Int) : 0 < (seenL L w f).length := by unfold seenL; simp
/-- Something begins. -/
theorem Sim.beg (h : Sim S r) (t k c v : Int) : Sim (beg S t k v) (begr r t k c v) := by
  by_cases he : Go.Proofs.Ytdfkmkflcnfchaa.errB S t k = 0
  · have her : errBr r t k = 0 := by rw [← h.errB]; exact he
    obtain ⟨ht, hk, h0⟩ := errB_zero he
    obtain ⟨hj0, hj8⟩ := isT_iff ht
    obtain ⟨j, rfl⟩ := Int.eq_ofNat_of_zero_le hj0
    rw [show ((j : Int)).toNat = j by omega] at h0
    have hfn := findO_none ((h.find j).1 h0)
    have hr : begr r j k c v = ⟨r.kind, r.top, r.value, r.now + 1, r.L ++ [⟨j, k, c, cap S.top v, r.now + 1, -1, r.value⟩]⟩ := by
      unfold begr; rw [if_neg (by rw [her]; simp), h.top]
    rw [hr]
    have hne : ∀ e ∈ r.L, e.o < 0 → e.t.toNat ≠ j := fun e hm ho hh => by
      have := h.thread e hm
      exact hfn e hm (by omega) ho
    have htimes : ∀ e ∈ r.L ++ [(⟨j, k, c, cap S.top v, r.now + 1, -1, r.value⟩ : Ev)], e.f ≤ r.now + 1 ∧ (e.o < 0 ∨ e.o ≤ r.now + 1) := by
      intro e hm
      rcases List.mem_append.1 hm with h1 | h1
      · have := h.times e h1; omega
      · simp at h1; subst h1; simp
    have hthread : ∀ e ∈ r.L ++ [(⟨j, k, c, cap S.top v, r.now + 1, -1, r.value⟩ : Ev)], 0 ≤ e.t ∧ e.t < 8 := by
      intro e hm
      rcases List.mem_append.1 hm with h1 | h1
      · exact h.thread e h1
      · simp at h1; subst h1; exact ⟨hj0, hj8⟩
    have huniq : (r.L ++ [(⟨j, k, c, cap S.top v, r.now + 1, -1, r.value⟩ : Ev)]).Pairwise fun a b => a.o < 0 → b.o < 0 → a.t ≠ b.t := by
      rw [List.pairwise_append]
      refine ⟨h.uniq, by simp, fun a ha b hb => ?_⟩
      simp at hb; subst hb
      intro ho _ hh
      exact hfn a ha hh ho
    have hnone : ∀ u : Nat, (∀ e ∈ r.L ++ [(⟨j, k, c, cap S.top v, r.now + 1, -1, r.value⟩ : Ev)], e.t = u → ¬ e.o < 0) → u ≠ j ∧ (S.d u).k = 0 := by
      intro u hu
      refine ⟨fun e => ?_, h.none_ u (fun e hm => hu e (List.mem_append_left _ hm))⟩
      subst e
      exact hu _ (List.mem_append_right _ (List.mem_singleton.2 rfl)) rfl (by simp)
    have hold : ∀ e ∈ r.L, seenL (r.L ++ [(⟨j, k, c, cap S.top v, r.now + 1, -1, r.value⟩ : Ev)]) e.w e.f = seenL r.L e.w e.f ++ later e.f ⟨j, k, c, cap S.top v, r.now + 1, -1, r.value⟩ := by
      intro e hm
      refine seen_push _ _ _ _ ?_
      have := h.times e hm
      simp only; omega
    rcases hk with rfl | rfl
    · rw [Go.Proofs.Ytdfkmkflcnfchaa.beg_read he, show ((j : Int)).toNat = j by omega]
      refine ⟨h.kind, h.top, h.value, by have := h.now; simp only; omega, htimes, hthread, huniq, fun u hu => ?_, fun e hm ho => ?_, fun hk u => ?_⟩
      · obtain ⟨h1, h2⟩ := hnone u hu
        unfold begR; rw [put_d, if_neg h1]; exact h2
      · unfold begR
        rcases List.mem_append.1 hm with h1 | h1
        · rw [put_d, if_neg (hne e h1 ho), hold e h1]
          have : later e.f (⟨j, 1, c, cap S.top v, r.now + 1, -1, r.value⟩ : Ev) = [] := by unfold later; rw [if_neg (by simp)]
          rw [this, List.append_nil]
          exact h.some_ e h1 ho
        · simp at h1; subst h1
          simp only
          rw [show ((j : Int)).toNat = j by omega, put_d, if_pos rfl, seen_push _ _ _ _ (by simp), h.seen_new]
          have : later (r.now + 1) (⟨j, 1, c, cap S.top v, r.now + 1, -1, r.value⟩ : Ev) = [] := by unfold later; rw [if_neg (by simp)]
          rw [this, List.append_nil]
          refine ⟨by simp, overs_k S 8, fun hh => by omega, fun _ => ⟨fun h2 => ?_, fun h1 => ?_⟩⟩
          · rw [h.overs_c h2 8, h.value]
          · rw [h.overs_m1 h1 8, List.length_cons]; omega
      · unfold begR; rw [put_d]; split
        · exact overs_m (S := S) hk 8
        · exact h.m hk u
    · rw [Go.Proofs.Ytdfkmkflcnfchaa.beg_write he, show ((j : Int)).toNat = j by omega]
      refine ⟨h.kind, h.top, h.value, by have := h.now; simp only; omega, htimes, hthread, huniq, fun u hu => ?_, fun e hm ho => ?_, fun hk u => ?_⟩
      · obtain ⟨h1, h2⟩ := hnone u hu
        unfold begW; rw [put_d, if_neg h1, meet_d, if_neg (by rw [h2]; simp)]; exact h2
      · unfold begW
        rcases List.mem_append.1 hm with h1 | h1
        · rw [put_d, if_neg (hne e h1 ho), hold e h1]
          have hth := h.thread e h1
          have htm := h.times e h1
          have : later e.f (⟨j, 2, c, cap S.top v, r.now + 1, -1, r.value⟩ : Ev) = [cap S.top v] := by unfold later; rw [if_pos (by simp; omega)]
          rw [this]
          obtain ⟨q1, q2, q3, q4⟩ := h.some_ e h1 ho
          have hpos := seen_pos r.L e.w e.f
          rw [meet_d]
          by_cases hk1 : e.k = 1
          · rw [if_pos ⟨by omega, by rw [q2]; exact hk1⟩, over_k, over_c, over_m]
            refine ⟨q1, q2, fun hh => by omega, fun _ => ⟨fun h2 => ?_, fun h1k => ?_⟩⟩
            · have h2' : S.kind = 2 := h2
              rw [if_pos h2', (q4 hk1).1 h2']
            · have h1k' : S.kind = 1 := h1k
              rw [if_pos h1k', List.length_append]; simp; omega
          · rw [if_neg (by rw [q2]; exact fun hh => hk1 hh.2)]
            exact ⟨q1, q2, q3, fun hh => absurd hh hk1⟩
        · simp at h1; subst h1
          simp only
          rw [show ((j : Int)).toNat = j by omega, put_d, if_pos rfl]
          exact ⟨by simp, rfl, fun _ => rfl, fun hh => by omega⟩
      · unfold begW; rw [put_d]; split
        · rfl
        · rw [meet_d]; split
          · rw [over_m, if_neg (show ¬ S.kind = 1 from hk)]; exact h.m hk u
          · exact h.m hk u
  · have her : errBr r t k ≠ 0 := by rw [← h.errB]; exact he
    rw [beg_bad he]
    unfold begr; rw [if_pos her]; exact h
/-- Something is over. -/
theorem Sim.fin (h : Sim S r) (t : Int) : Sim (fin S t) (endr r t) := by
  cases hf : findO r.L t with
  | none =>
    have he : Go.Proofs.Ytdfkmkflcnfchaa.errE S t ≠ 0 := by
      rw [h.errE]; unfold errEr; rw [if_pos (findA_neg.2 hf)]; decide
    unfold Go.Proofs.Ytdfkmkflcnfchaa.fin endr; rw [if_pos he, hf]; exact h
  | some i =>
    have he : Go.Proofs.Ytdfkmkflcnfchaa.errE S t = 0 := by
      rw [h.errE]; unfold errEr; rw [if_neg (by rw [findA_val hf]; omega)]
    obtain ⟨ht, h0⟩ := errE_zero he
    obtain ⟨hj0, hj8⟩ := isT_iff ht
    obtain ⟨j, rfl⟩ := Int.eq_ofNat_of_zero_le hj0
    have htn : ((j : Int)).toNat = j := by omega
    obtain ⟨hm, h1, h2⟩ := busy_of hf
    obtain ⟨hi, _, _⟩ := findO_some hf
    obtain ⟨q1, q2, q3, _⟩ := h.some_ _ hm h2
    have hx : r.L[i]? = some (r.L.getD i default) := by rw [List.getD_eq_getElem?_getD, List.getElem?_eq_getElem hi]; rfl
    obtain ⟨x, hxe⟩ : ∃ x, r.L.getD i default = x := ⟨_, rfl⟩
    rw [hxe] at hm h1 h2 q1 q2 q3 hx
    rw [h1, htn] at q2 q3
    have hend : endr r j = ⟨r.kind, r.top, if x.k = 2 then x.v else r.value, r.now + 1, r.L.set i (over8 x (r.now + 1))⟩ := by
      unfold endr endL; rw [hf]; simp only; rw [hxe]
    have hS : Go.Proofs.Ytdfkmkflcnfchaa.fin S j = ⟨S.kind, S.top, if x.k = 2 then x.v else S.value, fun u => if u = j then idle else S.d u⟩ := by
      unfold Go.Proofs.Ytdfkmkflcnfchaa.fin endS
      rw [if_neg (by rw [he]; simp), htn, q2]
      by_cases hk : x.k = 2
      · rw [if_pos hk, if_pos hk, q3 hk]; rfl
      · rw [if_neg hk, if_neg hk]; rfl
    rw [hend, hS]
    have hsub : ∀ e, e ∈ r.L.set i (over8 x (r.now + 1)) → e.o < 0 → e ∈ r.L ∧ e.t ≠ j := by
      intro e hm' ho
      obtain ⟨a, ha, rfl⟩ := List.mem_iff_getElem.1 hm'
      rw [List.length_set] at ha
      rw [List.getElem_set] at ho ⊢
      have hnow := h.now
      split at ho
      · simp only [over8] at ho; omega
      · next hne =>
        rw [if_neg hne]
        refine ⟨List.getElem_mem _, fun ht2 => ?_⟩
        have hp := List.pairwise_iff_getElem.1 h.uniq
        have hxi : r.L[i] = x := by
          rw [List.getElem?_eq_getElem hi] at hx
          exact Option.some.inj hx
        rcases Nat.lt_or_gt_of_ne hne with hlt | hlt
        · exact hp i a hi ha hlt (by rw [hxi]; exact h2) ho (by rw [hxi, h1, ht2])
        · exact hp a i ha hi hlt ho (by rw [hxi]; exact h2) (by rw [hxi, h1, ht2])
    refine ⟨h.kind, h.top, ?_, by have := h.now; simp only; omega, fun e hm' => ?_, fun e hm' => ?_, ?_, fun u hu => ?_, fun e hm' ho => ?_, fun hk u => ?_⟩
    · simp only; rw [h.value]
    · rcases List.mem_or_eq_of_mem_set hm' with h3 | h3
      · have := h.times e h3; simp only; omega
      · subst h3
        have := h.times x hm
        simp only [over8]; omega
    · rcases List.mem_or_eq_of_mem_set hm' with h3 | h3
      · exact h.thread e h3
      · subst h3; exact h.thread x hm
    · rw [List.pairwise_iff_getElem]
      intro a b ha hb hab hoa hob hh
      rw [List.length_set] at ha hb
      rw [List.getElem_set] at hoa hob hh
      rw [List.getElem_set] at hh
      have hnow := h.now
      by_cases e1 : i = a
      · rw [if_pos e1] at hoa; simp only [over8] at hoa; omega
      · by_cases e2 : i = b
        · rw [if_pos e2] at hob; simp only [over8] at hob; omega
        · rw [if_neg e1] at hoa hh; rw [if_neg e2] at hob hh
          exact List.pairwise_iff_getElem.1 h.uniq a b ha hb hab hoa hob hh
    · simp only
      by_cases e : u = j
      · rw [if_pos e]; rfl
      · rw [if_neg e]
        refine h.none_ u (fun y hy hyt hyo => ?_)
        obtain ⟨a, ha, rfl⟩ := List.mem_iff_getElem.1 hy
        have hai : i ≠ a := by
          intro hh; subst hh
          rw [List.getElem?_eq_getElem hi] at hx
          cases hx
          rw [h1] at hyt; omega
        have hmem : r.L[a] ∈ r.L.set i (over8 x (r.now + 1)) := by
          have : (r.L.set i (over8 x (r.now + 1)))[a]'(by rw [List.length_set]; exact ha) = r.L[a] := by rw [List.getElem_set, if_neg hai]
          rw [← this]; exact List.getElem_mem _
        exact hu _ hmem hyt hyo
    · obtain ⟨h3, h4⟩ := hsub e hm' ho
      have hth := h.thread e h3
      have htm := h.times e h3
      simp only
      rw [if_neg (by omega), seen_over hx h2 (by omega)]
      exact h.some_ e h3 ho
    · simp only; split
      · rfl
      · exact h.m hk u
/-- What a call tells. -/
theorem Sim.told (h : Sim S r) (t draw : Int) : finV S t draw = endVr r t draw := by
  cases hf : findO r.L t with
  | none =>
    have he : Go.Proofs.Ytdfkmkflcnfchaa.errE S t ≠ 0 := by
      rw [h.errE]; unfold errEr; rw [if_pos (findA_neg.2 hf)]; decide
    unfold finV endVr; rw [if_pos he, hf]
  | some i =>
    have he : Go.Proofs.Ytdfkmkflcnfchaa.errE S t = 0 := by
      rw [h.errE]; unfold errEr; rw [if_neg (by rw [findA_val hf]; omega)]
    obtain ⟨ht, h0⟩ := errE_zero he
    obtain ⟨hj0, hj8⟩ := isT_iff ht
    obtain ⟨j, rfl⟩ := Int.eq_ofNat_of_zero_le hj0
    have htn : ((j : Int)).toNat = j := by omega
    obtain ⟨hm, h1, h2⟩ := busy_of hf
    obtain ⟨hi, _, _⟩ := findO_some hf
    obtain ⟨q1, q2, q3, q4⟩ := h.some_ _ hm h2
    have hx : r.L[i]? = some (r.L.getD i default) := by rw [List.getD_eq_getElem?_getD, List.getElem?_eq_getElem hi]; rfl
    have htm := h.times _ hm
    have hse := seen_over hx h2 (n := r.now + 1) (w := (r.L.getD i default).w) (f := (r.L.getD i default).f) (by omega)
    unfold finV endVr endL
    rw [if_neg (by rw [he]; simp), hf, htn]
    simp only
    rw [hse]
    rw [h1, htn] at q2 q3 q4
    obtain ⟨x, hxe⟩ : ∃ x, r.L.getD i default = x := ⟨_, rfl⟩
    rw [hxe] at q1 q2 q3 q4 ⊢
    unfold endV
    rw [q2]
    by_cases hk : x.k = 2
    · rw [if_pos hk, if_pos hk]
    · rw [if_neg hk, if_neg hk]
      have hk1 : x.k = 1 := by omega
      obtain ⟨q5, q6⟩ := q4 hk1
      unfold CellM.told tellR
      by_cases h2k : S.kind = 2
      · rw [if_pos h2k, if_neg (by rw [← h.kind, h2k]; simp), if_pos (by rw [← h.kind]; exact h2k), q5 h2k]
      · rw [if_neg h2k]
        by_cases h1k : S.kind = 1
        · by_cases hm' : (S.d j).m = true
          · rw [if_pos hm', if_pos ⟨by rw [← h.kind]; exact h1k, (q6 h1k).1 hm'⟩, h.top]
          · rw [if_neg hm', if_neg (fun hh => hm' ((q6 h1k).2 hh.2)), if_neg (by rw [← h.kind]; exact h2k), h.value]
        · rw [if_neg (by rw [h.m h1k]; simp), if_neg (by rw [← h.kind]; exact fun hh => h1k hh.1), if_neg (by rw [← h.kind]; exact h2k), h.value]
end
end Go.Proofs.Ytdfkmkflcnfchaa
