/- Plain facts on owners: what an owner becomes, put for a list, and in which order two stand. No program is named here. Conditions: none. -/
namespace Go.Proofs.Ytelnmbhnokadlaa

structure Ow where
  kind : Int
  n : Int
namespace Ow
def hid : Ow := ⟨8, 0⟩
/-- The element of a number, hidden where there is none. -/
def at_ (z : Int) (l : List Ow) : Ow := if 0 ≤ z then l.getD z.toNat hid else hid
/-- An owner, put for a list. -/
def put (o : Ow) (l : List Ow) : Ow := if o.kind = 2 then at_ 0 l else if o.kind = 3 then at_ o.n l else o
def cmp (a b : Int) : Int := if a < b then -1 else if b < a then 1 else 0
/-- The order of two owners. -/
def ord (a b : Ow) : Int := if cmp a.kind b.kind = 0 then cmp a.n b.n else cmp a.kind b.kind

theorem put_two {o : Ow} {l : List Ow} (h : o.kind = 2) : put o l = at_ 0 l := by unfold put; rw [if_pos h]
theorem put_three {o : Ow} {l : List Ow} (h : o.kind = 3) : put o l = at_ o.n l := by unfold put; rw [if_neg (by omega), if_pos h]
theorem put_other {o : Ow} {l : List Ow} (h2 : ¬ o.kind = 2) (h3 : ¬ o.kind = 3) : put o l = o := by unfold put; rw [if_neg h2, if_neg h3]
theorem at_in {z : Int} {l : List Ow} (k : Nat) (hz : z = k) (h : k < l.length) : at_ z l = l[k] := by
  subst hz
  unfold at_
  rw [if_pos (by omega), Int.toNat_natCast, List.getD_eq_getElem?_getD, List.getElem?_eq_getElem h]; rfl
theorem at_out {z : Int} {l : List Ow} (h : z < 0 ∨ (l.length : Int) ≤ z) : at_ z l = hid := by
  unfold at_
  split
  · rw [List.getD_eq_getElem?_getD, List.getElem?_eq_none (by omega)]; rfl
  · rfl
theorem at_map {z : Int} {l m : List Ow} : put (at_ z l) m = at_ z (l.map fun o => put o m) := by
  rcases Int.lt_or_le z 0 with h | h
  · rw [at_out (.inl h), at_out (.inl h)]; rfl
  · rcases Int.lt_or_le z l.length with g | g
    · obtain ⟨k, rfl⟩ := Int.eq_ofNat_of_zero_le h
      rw [at_in k rfl (by omega), at_in k rfl (by simp; omega)]
      simp
    · rw [at_out (.inr g), at_out (.inr (by simpa using g))]; rfl
/-- Put for one list, and then for another one, is put for both at once. -/
theorem put_put (o : Ow) (l m : List Ow) : put (put o l) m = put o (l.map fun o => put o m) := by
  by_cases h2 : o.kind = 2
  · rw [put_two h2, put_two h2, at_map]
  · by_cases h3 : o.kind = 3
    · rw [put_three h3, put_three h3, at_map]
    · rw [put_other h2 h3, put_other h2 h3, put_other h2 h3]

theorem cmp_ways (a b : Int) : (cmp a b = -1 ∧ cmp b a = 1 ∧ a < b) ∨ (cmp a b = 0 ∧ cmp b a = 0 ∧ a = b) ∨ (cmp a b = 1 ∧ cmp b a = -1 ∧ b < a) := by
  unfold cmp
  split <;> (try split) <;> (try split) <;> (try split) <;> omega
theorem ord_ways (a b : Ow) : (ord a b = -1 ∧ ord b a = 1 ∧ (a.kind < b.kind ∨ a.kind = b.kind ∧ a.n < b.n)) ∨ (ord a b = 0 ∧ ord b a = 0 ∧ a = b) ∨ (ord a b = 1 ∧ ord b a = -1 ∧ (b.kind < a.kind ∨ b.kind = a.kind ∧ b.n < a.n)) := by
  unfold ord
  rcases cmp_ways a.kind b.kind with ⟨h1, h2, h3⟩ | ⟨h1, h2, h3⟩ | ⟨h1, h2, h3⟩
  · rw [if_neg (by omega), if_neg (by omega)]; exact .inl ⟨h1, h2, .inl h3⟩
  · rw [if_pos h1, if_pos h2]
    rcases cmp_ways a.n b.n with ⟨g1, g2, g3⟩ | ⟨g1, g2, g3⟩ | ⟨g1, g2, g3⟩
    · exact .inl ⟨g1, g2, .inr ⟨h3, g3⟩⟩
    · refine .inr (.inl ⟨g1, g2, ?_⟩)
      cases a; cases b; simp_all
    · exact .inr (.inr ⟨g1, g2, .inr ⟨h3.symm, g3⟩⟩)
  · rw [if_neg (by omega), if_neg (by omega)]; exact .inr (.inr ⟨h1, h2, .inl h3⟩)
theorem ord_less {a b c : Ow} (h1 : ord a b = -1) (h2 : ord b c = -1) : ord a c = -1 := by
  rcases ord_ways a b with ⟨_, _, h3⟩ | ⟨h, _, _⟩ | ⟨h, _, _⟩
  · rcases ord_ways b c with ⟨_, _, h4⟩ | ⟨h, _, _⟩ | ⟨h, _, _⟩
    · rcases ord_ways a c with ⟨h, _, _⟩ | ⟨_, _, h5⟩ | ⟨_, _, h5⟩
      · exact h
      · subst h5; omega
      · omega
    · omega
    · omega
  · omega
  · omega
end Ow
end Go.Proofs.Ytelnmbhnokadlaa
