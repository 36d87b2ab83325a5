/- Plain facts on owners and types: which may be, which text they have, what they become, put for a list. No program is named here. Conditions: none. -/
import Derived.Test.YtjghgpmkepfdhaaGreatDoorZab
import Derived.Lib.Join
namespace Go.Proofs.YtjghgpmkepfdhaaGreatDoor
open Go

structure Ow where
  kind : Int
  n : Int
namespace Ow
def hid : Ow := ⟨8, 0⟩
/-- The element of a number, hidden where there is none. -/
def at_ (z : Int) (l : List Ow) : Ow := if 0 ≤ z then l.getD z.toNat hid else hid
/-- An owner, put for a list. -/
def put (o : Ow) (l : List Ow) : Ow := if o.kind = 2 then at_ 0 l else if o.kind = 3 then at_ o.n l else o
theorem put_two {o : Ow} {l : List Ow} (h : o.kind = 2) : put o l = at_ 0 l := by unfold put; rw [if_pos h]
theorem put_three {o : Ow} {l : List Ow} (h : o.kind = 3) : put o l = at_ o.n l := by unfold put; rw [if_neg (by omega), if_pos h]
theorem put_other {o : Ow} {l : List Ow} (h2 : ¬ o.kind = 2) (h3 : ¬ o.kind = 3) : put o l = o := by unfold put; rw [if_neg h2, if_neg h3]
theorem at_in {z : Int} {l : List Ow} (k : Nat) (hz : z = k) (h : k < l.length) : at_ z l = l[k] := by
  subst hz
  unfold at_
  rw [if_pos (by omega), Int.toNat_natCast, List.getD_eq_getElem?_getD, List.getElem?_eq_getElem h]; rfl
theorem at_out {z : Int} {l : List Ow} (h : z < 0 ∨ (l.length : Int) ≤ z) : at_ z l = hid := by
  unfold at_
  split
  · rw [List.getD_eq_getElem?_getD, List.getElem?_eq_none (by omega)]; rfl
  · rfl

/-- Whether an owner may be where there are so many parameters. -/
def right (o : Ow) (p : Int) : Bool :=
  if o.kind = 3 then decide (1 ≤ o.n ∧ o.n ≤ p) else if o.kind = 7 then decide (0 ≤ o.n)
  else decide (o.n = 0 ∧ (o.kind = 1 ∨ o.kind = 2 ∨ o.kind = 4 ∨ o.kind = 5 ∨ o.kind = 6))
/-- The word of a kind. -/
def word (k : Int) : ByteArray :=
  if k = 1 then ⟨#[114, 101, 112]⟩ else if k = 2 then ⟨#[112, 101, 101, 114]⟩ else if k = 4 then ⟨#[119, 111, 114, 108, 100]⟩
  else if k = 5 then ⟨#[97, 110, 121]⟩ else if k = 6 then ⟨#[117, 110, 105, 113, 117, 101]⟩ else if k = 7 then ⟨#[63]⟩ else ⟨#[]⟩
/-- The text of an owner. -/
def text (o : Ow) (ps : List ByteArray) : ByteArray :=
  if right o ps.length then (if o.kind = 3 then ps.getD (o.n - 1).toNat ⟨#[]⟩ else word o.kind) else ⟨#[]⟩

theorem text_no {o : Ow} {ps : List ByteArray} (h : right o ps.length = false) : text o ps = ⟨#[]⟩ := by
  unfold text; rw [if_neg (by simp [h])]
theorem text_word {o : Ow} {ps : List ByteArray} (h : right o ps.length = true) (h3 : ¬ o.kind = 3) : text o ps = word o.kind := by
  unfold text; rw [if_pos h, if_neg h3]
theorem text_par {n : Int} {ps : List ByteArray} (k : Nat) (hk : k < ps.length) (hn : n = k + 1) : text ⟨3, n⟩ ps = ps[k] := by
  subst hn
  unfold text right
  rw [if_pos (by simp; omega), if_pos rfl, show ((k : Int) + 1 - 1).toNat = k by omega, List.getD_eq_getElem?_getD, List.getElem?_eq_getElem hk]
  rfl
theorem word_le (k : Int) : (word k).size ≤ 6 := by
  unfold word
  repeat' split
  all_goals decide
/-- No text of an owner is longer than the longest parameter, or than a word. -/
theorem text_le {o : Ow} {ps : List ByteArray} {B : Nat} (h6 : 6 ≤ B) (h : ∀ i, (hi : i < ps.length) → ps[i].size ≤ B) : (text o ps).size ≤ B := by
  unfold text
  split
  · split
    · rw [List.getD_eq_getElem?_getD]
      cases hq : ps[(o.n - 1).toNat]? with
      | none => exact Nat.zero_le _
      | some b =>
        obtain ⟨hi, rfl⟩ := List.getElem?_eq_some_iff.1 hq
        exact h _ hi
    · exact Nat.le_trans (word_le _) h6
  · exact Nat.zero_le _
end Ow

structure Ty where
  kind : Int
  cls : ByteArray
  n : Int
  o0 : Ow
  o1 : Ow
  o2 : Ow
  o3 : Ow
namespace Ty
/-- The owner of a number. -/
def own (t : Ty) (i : Nat) : Ow := if i = 0 then t.o0 else if i = 1 then t.o1 else if i = 2 then t.o2 else t.o3
/-- How many owners stand behind the class. -/
def cnt (t : Ty) : Nat := if t.n < 0 then 0 else if 3 < t.n then 3 else t.n.toNat
theorem cnt_le (t : Ty) : t.cnt ≤ 3 := by unfold cnt; repeat' split
                                          all_goals omega
/-- A type's owners. -/
def owners (t : Ty) : List Ow := if t.kind = 2 then [t.o0, t.o1, t.o2, t.o3].take (t.cnt + 1) else []
theorem owners_len {t : Ty} (h : t.kind = 2) : t.owners.length = t.cnt + 1 := by
  have := t.cnt_le
  unfold owners; rw [if_pos h]; simp; omega
theorem owners_none {t : Ty} (h : ¬ t.kind = 2) : t.owners = [] := by unfold owners; rw [if_neg h]
theorem list4 (t : Ty) (i : Nat) (h : i < 4) : [t.o0, t.o1, t.o2, t.o3][i]? = some (t.own i) := by
  match i, h with
  | 0, _ => rfl
  | 1, _ => rfl
  | 2, _ => rfl
  | 3, _ => rfl
theorem owners_at {t : Ty} (h : t.kind = 2) (i : Nat) (hi : i < t.owners.length) : t.owners[i] = t.own i := by
  have hl := owners_len h
  have hc := t.cnt_le
  have h1 : t.owners[i]? = some (t.own i) := by
    unfold owners
    rw [if_pos h, List.getElem?_take, if_pos (by omega), list4 t i (by omega)]
  rw [List.getElem?_eq_getElem hi] at h1
  exact Option.some.inj h1
def isZero (o : Ow) : Bool := decide (o.kind = 0) && decide (o.n = 0)
/-- Whether the owner of a number may not be. -/
def bad (t : Ty) (p : Int) (i : Nat) : Bool :=
  if (i : Int) ≤ t.n then !((t.own i).right p) || (decide (0 < i) && decide ((t.own i).kind = 6)) else !(isZero (t.own i))
def okOw (t : Ty) (p : Int) : Bool := !(t.bad p 0) && !(t.bad p 1) && !(t.bad p 2) && !(t.bad p 3)
theorem okOw_no {t : Ty} {p : Int} (i : Nat) (hi : i < 4) (h : t.bad p i = true) : t.okOw p = false := by
  unfold okOw
  match i, hi with
  | 0, _ => simp [h]
  | 1, _ => simp [h]
  | 2, _ => simp [h]
  | 3, _ => simp [h]
theorem okOw_yes {t : Ty} {p : Int} (h : ∀ i, i < 4 → t.bad p i = false) : t.okOw p = true := by
  unfold okOw
  rw [h 0 (by omega), h 1 (by omega), h 2 (by omega), h 3 (by omega)]; rfl
theorem bad_of_okOw {t : Ty} {p : Int} (h : t.okOw p = true) (i : Nat) (hi : i < 4) : t.bad p i = false := by
  unfold okOw at h
  simp only [Bool.and_eq_true, Bool.not_eq_true'] at h
  obtain ⟨⟨⟨h0, h1⟩, h2⟩, h3⟩ := h
  match i, hi with
  | 0, _ => exact h0
  | 1, _ => exact h1
  | 2, _ => exact h2
  | 3, _ => exact h3
/-- Whether nothing but the kind is told. -/
def bare (t : Ty) : Bool := decide (t.cls = ⟨#[]⟩) && decide (t.n = 0) && isZero t.o0 && isZero t.o1 && isZero t.o2 && isZero t.o3
/-- Whether a type may be where there are so many parameters. -/
def right (t : Ty) (p : Int) : Bool :=
  if t.kind = 0 ∨ t.kind = 1 then t.bare
  else if t.kind = 2 then Wd.nameB t.cls && decide (0 ≤ t.n) && decide (t.n ≤ 3) && t.okOw p else false
theorem right_bare {t : Ty} {p : Int} (h : t.kind = 0 ∨ t.kind = 1) : t.right p = t.bare := by unfold right; rw [if_pos h]
theorem right_obj {t : Ty} {p : Int} (h : t.kind = 2) : t.right p = (Wd.nameB t.cls && decide (0 ≤ t.n) && decide (t.n ≤ 3) && t.okOw p) := by
  unfold right; rw [if_neg (by omega), if_pos h]
theorem right_other {t : Ty} {p : Int} (h0 : ¬ t.kind = 0) (h1 : ¬ t.kind = 1) (h2 : ¬ t.kind = 2) : t.right p = false := by
  unfold right; rw [if_neg (by omega), if_neg h2]

/-! ### Texts -/
def ahead (t : Ty) (ps : List ByteArray) : List UInt8 := if t.o0.kind = 7 then [] else (t.o0.text ps).data.toList ++ [32]
/-- The owners behind the class. -/
def others (t : Ty) : List Ow := [t.o1, t.o2, t.o3].take t.cnt
def behind (t : Ty) (ps : List ByteArray) : List UInt8 :=
  if t.others = [] then [] else 60 :: (Lib.join (t.others.map fun o => (o.text ps).data.toList) [44, 32] ++ [62])
def txt (t : Ty) (ps : List ByteArray) : List UInt8 :=
  if t.right ps.length then (if t.kind = 0 then [118, 111, 105, 100] else if t.kind = 1 then [105, 110, 116] else t.ahead ps ++ (t.cls.data.toList ++ t.behind ps)) else []
theorem txt_no {t : Ty} {ps : List ByteArray} (h : t.right ps.length = false) : t.txt ps = [] := by unfold txt; rw [if_neg (by simp [h])]
theorem txt_void {t : Ty} {ps : List ByteArray} (h : t.right ps.length = true) (h0 : t.kind = 0) : t.txt ps = [118, 111, 105, 100] := by unfold txt; rw [if_pos h, if_pos h0]
theorem txt_int {t : Ty} {ps : List ByteArray} (h : t.right ps.length = true) (h0 : t.kind = 1) : t.txt ps = [105, 110, 116] := by unfold txt; rw [if_pos h, if_neg (by omega), if_pos h0]
theorem txt_obj {t : Ty} {ps : List ByteArray} (h : t.right ps.length = true) (h0 : t.kind = 2) : t.txt ps = t.ahead ps ++ (t.cls.data.toList ++ t.behind ps) := by
  unfold txt; rw [if_pos h, if_neg (by omega), if_neg (by omega)]

/-! ### Holes, unique, put -/
def holes (t : Ty) : Nat := (t.owners.filter fun o => decide (o.kind = 7)).length
def uniq (t : Ty) : Bool := decide (t.kind = 2) && decide (t.o0.kind = 6)
/-- The type whose owners up to a number are put for a list. -/
def putTo (t : Ty) (l : List Ow) (k : Nat) : Ty :=
  { t with o0 := if 0 < k then t.o0.put l else t.o0, o1 := if 1 < k then t.o1.put l else t.o1, o2 := if 2 < k then t.o2.put l else t.o2, o3 := if 3 < k then t.o3.put l else t.o3 }
theorem putTo_zero (t : Ty) (l : List Ow) : t.putTo l 0 = t := rfl
def with_ (t : Ty) (l : List Ow) : Ty := t.putTo l t.owners.length
end Ty
end Go.Proofs.YtjghgpmkepfdhaaGreatDoor
