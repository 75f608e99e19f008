/- A unary number: what writing it and reading it do. Plain mathematics. Own work. -/
import Derived.Test.YthijoklafbnhlaaSdM
namespace Go.Proofs.Ythijoklafbnhlaa
namespace TapeM
/-- What a bit is that is up, that is down. -/
def upV (i : Nat) : Int := if i = 0 then 0 else 1
def downV (i : Nat) : Int := if i = 0 then 1 else 0
def isUpB (i : Nat) (y : Int) : Bool := (y == 1) == !(i == 0)
/-- The bits below n are put down, from the highest one on. -/
def downT (b l : Int) : Nat → Tr Unit
  | 0 => .ret ()
  | n + 1 => (wrSd (b + n) (l + n) (downV n)).bind fun _ => downT b l n
def wrUn (b l : Int) (x : Nat) : Tr Unit := (wrSd (b + x) (l + x) (upV x)).bind fun _ => downT b l x
/-- n bits are read, from i on; t, if none is up. -/
def upT (b : Int) (t : Nat) : Nat → Nat → Tr Int
  | 0, _ => .ret t
  | n + 1, i => (rdSd (b + i)).bind fun y => if isUpB i y then .ret i else upT b t n (i + 1)
def rdUn (b : Int) (t : Nat) : Tr Int := upT b t (t + 1) 0
theorem bitI_up (i : Nat) : bitI (upV i) = upV i := by unfold bitI upV; by_cases h : i = 0 <;> simp [h]
theorem bitI_down (i : Nat) : bitI (downV i) = downV i := by unfold bitI downV; by_cases h : i = 0 <;> simp [h]
theorem isUp_up (i : Nat) : isUpB i (upV i) = true := by unfold isUpB upV; by_cases h : i = 0 <;> simp [h]
theorem isUp_down (i : Nat) : isUpB i (downV i) = false := by unfold isUpB downV; by_cases h : i = 0 <;> simp [h]
theorem downT_nb (b l : Int) : ∀ n, (downT b l n).nb 0
  | 0 => trivial
  | n + 1 => Tr.nb_bind (m := 0) (fun _ => downT_nb b l n) _ (n := 0) (bitI_nb _ _ _)
theorem wrUn_nb (b l : Int) (x : Nat) : (wrUn b l x).nb 0 := Tr.nb_bind (m := 0) (fun _ => downT_nb b l x) _ (n := 0) (bitI_nb _ _ _)
theorem upT_nb (b : Int) (t : Nat) : ∀ n i, (upT b t n i).nb 0
  | 0, _ => trivial
  | n + 1, i => Tr.nb_bind (m := 0) (fun y => by
      show (if isUpB i y then Tr.ret (i : Int) else upT b t n (i + 1)).nb 0
      split
      · trivial
      · exact upT_nb b t n (i + 1)) _ (n := 0) (rdSd_nb _)
theorem rdUn_nb (b : Int) (t : Nat) : (rdUn b t).nb 0 := upT_nb b t _ _
/-- The accesses' numbers, told to the cells. -/
def putA (as : List Ac) (c : List Int) : List Int := as.foldl (fun c a => c.set a.c.toNat a.v) c
theorem putA_app (a b : List Ac) (c : List Int) : putA (a ++ b) c = putA b (putA a c) := List.foldl_append ..
theorem putA_len (as : List Ac) (c : List Int) : (putA as c).length = c.length := by
  induction as generalizing c with
  | nil => rfl
  | cons a as ih => show (putA as (c.set a.c.toNat a.v)).length = _; rw [ih, List.length_set]
/-- The locals are what the cells are. -/
def Mirror (lo c : List Int) : Prop := c.length = 256 ∧ lo.length ≤ 256 ∧ ∀ i : Nat, i < 256 → getL lo i = c.getD i 0
theorem getL_short (lo : List Int) (i : Int) : getL (short lo) i = getL lo i := (alike_short lo).getL i
theorem Mirror.short {lo c : List Int} (h : Mirror lo c) : Mirror (short lo) c :=
  ⟨h.1, by rw [short_len]; exact Nat.le_trans (sh_le lo lo.length) h.2.1, fun i hi => (getL_short lo i).trans (h.2.2 i hi)⟩
theorem mirror_zero : Mirror [] (List.replicate 256 0) := ⟨List.length_replicate, Nat.zero_le _, fun i _ => by
  have : (List.replicate 256 (0 : Int)).getD i 0 = 0 := by
    rw [List.getD_eq_getElem?_getD, List.getElem?_replicate]; split <;> rfl
  rw [this]
  unfold getL
  rw [if_neg (by rw [List.length_nil]; omega)]⟩
theorem getD_set (c : List Int) (i j : Nat) (v : Int) (hi : i < c.length) : (c.set i v).getD j 0 = if i = j then v else c.getD j 0 := by
  simp only [List.getD, List.getElem?_set]
  by_cases h : i = j
  · subst h; simp [hi]
  · simp [h]
theorem setL_short (l : List Int) (i : Nat) (v : Int) (hi : i < 256) (hl : l.length ≤ 256) : (setL l i v).length ≤ 256 := by
  have e : setL l i v = (padL l (i + 1)).set i v := if_pos ⟨by omega, by omega⟩
  rw [e, List.length_set]
  unfold padL
  simp
  omega
theorem set_getD (c : List Int) (i : Nat) (hi : i < c.length) : c.set i (c.getD i 0) = c := by
  apply List.ext_getElem?
  intro j
  rw [List.getElem?_set]
  by_cases h : i = j
  · subst h; simp [hi, List.getD]
  · simp [h]
/-- A bit is put. -/
theorem put_run {ans : List Int} {i : Nat} {v : Int} (hv : bitI v = v) (hi : i < 256) (k : Unit → Tr Int) {S : TS} {c : List Int} (hM : Mirror S.loc c) (hacc : S.acc.length < ans.length) :
    ∃ T as, ((wrSd (0 + (i : Int)) (0 + (i : Int)) v).bind k).run ans S = (k ()).run ans T ∧ T.acc = S.acc ++ as ∧ as.length ≤ 1 ∧ (∀ a ∈ as, a.k = 2 ∧ a.c = (i : Int)) ∧ putA as c = c.set i v ∧ Mirror T.loc (c.set i v) := by
  rw [wrSd_bind, hv, Int.zero_add]
  show ∃ T as, Tr.run ans (if getL S.loc i = v then k () else .ask ⟨2, i, v⟩ fun _ => .set i v (k ())) S = _ ∧ _
  have hci : getL S.loc i = c.getD i 0 := hM.2.2 i hi
  have hic : i < c.length := by rw [hM.1]; exact hi
  by_cases e : getL S.loc i = v
  · rw [if_pos e]
    have hc : c.set i v = c := by rw [← e, hci]; exact set_getD c i hic
    exact ⟨S, [], rfl, by simp, by simp, by simp, hc.symm, hc.symm ▸ hM⟩
  · rw [if_neg e]
    have e1 : Tr.run ans (.ask ⟨2, i, v⟩ fun _ => .set i v (k ())) S = asks ans S ⟨2, i, v⟩ (fun S _ => Tr.run ans (k ()) (setT S i v)) := rfl
    rw [e1, asks_go hacc]
    refine ⟨setT (askT S ⟨2, i, v⟩) i v, [⟨2, i, v⟩], ?_, ?_, ?_, ?_, ?_, ?_⟩
    · rfl
    · rfl
    · simp
    · simp
    · rfl
    have h3 : ∀ j : Nat, j < 256 → getL (setL S.loc i v) j = (c.set i v).getD j 0 := fun j hj => by
      rw [getD_set c i j v hic]
      by_cases h : i = j
      · subst h; rw [if_pos rfl, getL_setL _ _ _ (by omega) (by omega)]
      · rw [if_neg h, getL_other _ _ _ _ (by omega)]; exact hM.2.2 j hj
    have h2 : (setL S.loc (i : Int) v).length ≤ 256 := setL_short S.loc i v hi hM.2.1
    have h1 : (c.set i v).length = 256 := (List.length_set ..).trans hM.1
    unfold Mirror
    refine ⟨h1, ?_, ?_⟩
    · simp only [setT, askT]; exact h2
    · simp only [setT, askT]; exact h3
/-- The bits below n put down. -/
def downs : Nat → List Int → List Int
  | 0, c => c
  | n + 1, c => downs n (c.set n (downV n))
theorem downs_len : ∀ n c, (downs n c).length = c.length
  | 0, _ => rfl
  | n + 1, _ => (downs_len n _).trans (List.length_set ..)
theorem downs_other : ∀ (n : Nat) (c : List Int) (j : Nat), n ≤ j → (downs n c).getD j 0 = c.getD j 0
  | 0, _, _, _ => rfl
  | n + 1, c, j, h => by
    show (downs n (c.set n (downV n))).getD j 0 = _
    rw [downs_other n _ j (by omega)]
    simp only [List.getD, List.getElem?_set]
    rw [if_neg (by omega)]
theorem downs_at : ∀ (n : Nat) (c : List Int) (j : Nat), j < n → n ≤ c.length → (downs n c).getD j 0 = downV j
  | 0, _, _, h, _ => absurd h (by omega)
  | n + 1, c, j, h, hc => by
    show (downs n (c.set n (downV n))).getD j 0 = _
    by_cases e : j = n
    · subst e
      rw [downs_other j _ j (Nat.le_refl _), getD_set c j j _ (by omega), if_pos rfl]
    · exact downs_at n _ j (by omega) (by rw [List.length_set]; omega)
theorem down_run {ans : List Int} : ∀ (n : Nat), n ≤ 256 → ∀ (k : Unit → Tr Int) {S : TS} {c : List Int}, Mirror S.loc c → S.acc.length + n ≤ ans.length →
    ∃ T as, ((downT 0 0 n).bind k).run ans S = (k ()).run ans T ∧ T.acc = S.acc ++ as ∧ as.length ≤ n ∧ (∀ a ∈ as, a.k = 2 ∧ ∃ j : Nat, j < n ∧ a.c = (j : Int)) ∧ putA as c = downs n c ∧ Mirror T.loc (downs n c)
  | 0, _, k, S, c, hM, _ => ⟨S, [], rfl, by simp, by simp, by simp, rfl, hM⟩
  | n + 1, hn, k, S, c, hM, hacc => by
    show ∃ T as, Tr.run ans (((wrSd (0 + (n : Int)) (0 + (n : Int)) (downV n)).bind fun _ => downT 0 0 n).bind k) S = _ ∧ _
    rw [Tr.bind_assoc]
    obtain ⟨T1, a1, e1, h1, l1, k1, p1, M1⟩ := put_run (ans := ans) (bitI_down n) (by omega : n < 256) (fun _ => (downT 0 0 n).bind k) hM (by omega)
    have hT1 : T1.acc.length ≤ S.acc.length + 1 := by rw [h1, List.length_append]; omega
    obtain ⟨T2, a2, e2, h2, l2, k2, p2, M2⟩ := down_run (ans := ans) n (by omega) k M1 (by omega)
    refine ⟨T2, a1 ++ a2, e1.trans e2, by rw [h2, h1, List.append_assoc], by rw [List.length_append]; omega, fun a ha => ?_, by rw [putA_app, p1, p2]; rfl, M2⟩
    rcases List.mem_append.1 ha with ha | ha
    · exact ⟨(k1 a ha).1, n, by omega, (k1 a ha).2⟩
    · obtain ⟨g1, j, g2, g3⟩ := k2 a ha
      exact ⟨g1, j, by omega, g3⟩
/-- What the cells are behind a write. -/
def wrote (x : Nat) (c : List Int) : List Int := downs x (c.set x (upV x))
theorem wrUn_run {ans : List Int} {x : Nat} (hx : x < 256) {S : TS} {c : List Int} (hM : Mirror S.loc c) (hacc : S.acc.length + (x + 1) ≤ ans.length) :
    ∃ T as, ((wrUn 0 0 x).bind fun _ => .ret 0).run ans S = .go T 0 ∧ T.acc = S.acc ++ as ∧ as.length ≤ x + 1 ∧ (∀ a ∈ as, a.k = 2 ∧ ∃ j : Nat, j ≤ x ∧ a.c = (j : Int)) ∧ putA as c = wrote x c ∧ Mirror T.loc (wrote x c) := by
  show ∃ T as, Tr.run ans (((wrSd (0 + (x : Int)) (0 + (x : Int)) (upV x)).bind fun _ => downT 0 0 x).bind _) S = _ ∧ _
  rw [Tr.bind_assoc]
  obtain ⟨T1, a1, e1, h1, l1, k1, p1, M1⟩ := put_run (ans := ans) (bitI_up x) hx (fun _ => (downT 0 0 x).bind fun _ => .ret 0) hM (by omega)
  have hT1 : T1.acc.length ≤ S.acc.length + 1 := by rw [h1, List.length_append]; omega
  obtain ⟨T2, a2, e2, h2, l2, k2, p2, M2⟩ := down_run (ans := ans) x (by omega) (fun _ => .ret 0) M1 (by omega)
  refine ⟨T2, a1 ++ a2, e1.trans e2, by rw [h2, h1, List.append_assoc], by rw [List.length_append]; omega, fun a ha => ?_, by rw [putA_app, p1, p2]; rfl, M2⟩
  rcases List.mem_append.1 ha with ha | ha
  · exact ⟨(k1 a ha).1, x, Nat.le_refl _, (k1 a ha).2⟩
  · obtain ⟨g1, j, g2, g3⟩ := k2 a ha
    exact ⟨g1, j, by omega, g3⟩
theorem up_run {c : List Int} {t x : Nat} (hd : ∀ j, j < x → c.getD j 0 = downV j) (hx : c.getD x 0 = upV x) (ht : t < c.length) : ∀ (n i : Nat) (S : TS), S.acc.length = i → i ≤ x → x ≤ t → i + n = t + 1 →
    ∃ T, (upT 0 t n i).run c S = .go T x ∧ T.acc.length = x + 1
  | 0, i, S, _, h1, h2, h3 => absurd h3 (by omega)
  | n + 1, i, S, h0, h1, h2, h3 => by
    show ∃ T, asks c S ⟨1, 0 + (i : Int), 0⟩ (fun S y => Tr.run c (if isUpB i y then .ret i else upT 0 t n (i + 1)) S) = _ ∧ _
    rw [asks_go (by omega), h0]
    by_cases e : i = x
    · subst e
      rw [hx, isUp_up, if_pos rfl]
      exact ⟨_, rfl, by simp [askT, h0]⟩
    · rw [hd i (by omega), isUp_down, if_neg (by decide)]
      exact up_run hd hx ht n (i + 1) _ (by simp [askT, h0]) (by omega) h2 (by omega)
theorem rdUn_run {c : List Int} (hc : c.length = 256) {t x : Nat} (hx : x ≤ t) (ht : t < 256) (S : TS) (h0 : S.acc = []) : ∃ T, (rdUn 0 t).run (wrote x c) S = .go T x ∧ T.acc.length = x + 1 := by
  have hl : (c.set x (upV x)).length = 256 := by rw [List.length_set]; exact hc
  refine up_run (c := wrote x c) (fun j hj => downs_at x _ j hj (by omega)) ?_ (by unfold wrote; rw [downs_len]; omega) (t + 1) 0 S (by rw [h0]; rfl) (by omega) hx (by omega)
  unfold wrote
  rw [downs_other x _ x (Nat.le_refl _), getD_set c x x _ (by omega), if_pos rfl]
end TapeM
end Go.Proofs.Ythijoklafbnhlaa
