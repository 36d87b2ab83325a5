/- The pure walk: what the lower layers answer: words, numbers, owners, types. Conditions: none.
Plain facts for the laws of layer 10: the same as itself; the chapter's example. Conditions: none. -/
import Derived.Test.YtjghgpmkepfdhaaGreatDoorZag
import Derived.Test.YtjghgpmkepfdhaaGreatDoorZai
import Derived.Test.YtjghgpmkepfdhaaGreatDoorZat
import Derived.Test.YtjghgpmkepfdhaaGreatDoorZas
import Derived.Test.YtjghgpmkepfdhaaGreatDoorZau
import Derived.Test.YtjghgpmkepfdhaaGreatDoorZaw
import Derived.Test.YtjghgpmkepfdhaaGreatDoorZah
namespace Go.Proofs.YtjghgpmkepfdhaaGreatDoor
open Go.RowKit
set_option linter.unusedVariables false
def tyOf (t : Pn.Ty) : Ty := ⟨t.kind, t.cls, t.n, ⟨t.o0.kind, t.o0.n⟩, ⟨t.o1.kind, t.o1.n⟩, ⟨t.o2.kind, t.o2.n⟩, ⟨t.o3.kind, t.o3.n⟩⟩
def rtT (t : Pn.Ty) (n : Int) : Bool := (tyOf t).right n
def roO (o : Pn.Ow) (n : Int) : Bool := Ow.right ⟨o.kind, o.n⟩ n
theorem name_p (s : ByteArray) : PCalls Tryz.prog 48 [.sc (.string s)] (.sc (.bool (Wd.nameB s))) :=
  pcalls_plain (vs := [.string s]) rfl rfl fun w hG => name_any s w hG.words
theorem refName_p (s : ByteArray) : PCalls Tryz.prog 56 [.sc (.string s)] (.sc (.bool (Wd.nameB s))) :=
  pcalls_plain (vs := [.string s]) rfl rfl fun w hG => refName_any s w
theorem digits_p (n : Int) (h0 : -9223372036854775808 ≤ n) (h1 : n ≤ 9223372036854775807) : PCalls Tryz.prog 196 [.sc (.int .i64 n)] (.sc (.string ⟨(Lib.itoa n).toArray⟩)) :=
  pcalls_plain (vs := [.int .i64 n]) rfl rfl fun w hG => digits_any n h0 h1 w hG.pow
theorem kright_p (t : Pn.Ty) (n : Int) : PCalls Tryz.prog 93 [.ag (Pn.encTy t), .sc (.int .i64 n)] (.sc (.bool (rtT t n))) :=
  pcalls_plain (vs := [.agg (tyOf t).cells, .int .i64 n]) rfl rfl fun w hG => right_any (tyOf t) n w hG.words
theorem refKright_p (t : Pn.Ty) (n : Int) : PCalls Tryz.prog 128 [.ag (Pn.encTy t), .sc (.int .i64 n)] (.sc (.bool (rtT t n))) :=
  pcalls_plain (vs := [.agg (tyOf t).cells, .int .i64 n]) rfl rfl fun w hG => refRight_any (tyOf t) n w
theorem oright_p (o : Pn.Ow) (n : Int) : PCalls Tryz.prog 119 [.ag (Pn.encOw o), .sc (.int .i64 n)] (.sc (.bool (roO o n))) :=
  pcalls_plain (vs := [.agg #[.int .i64 o.kind, .int .i64 o.n], .int .i64 n]) rfl rfl fun w hG => oright_any ⟨o.kind, o.n⟩ n w
theorem refOright_p (o : Pn.Ow) (n : Int) : PCalls Tryz.prog 57 [.ag (Pn.encOw o), .sc (.int .i64 n)] (.sc (.bool (roO o n))) :=
  pcalls_plain (vs := [.agg #[.int .i64 o.kind, .int .i64 o.n], .int .i64 n]) rfl rfl fun w hG => refORight_any ⟨o.kind, o.n⟩ n w
/-- The lower layers' answers, for this program. -/
def low : Low := ⟨Wd.nameB, rtT, roO, refName_p, refKright_p, refOright_p⟩
/-- A number's text, read: the same as a bound on the number. -/
theorem number_p (s : ByteArray) : PCalls Tryz.prog 195 [.sc (.string s)] (.tp [.sc (.int .i64 ((Wd.number s).getD 0 : Nat)), .sc (.bool (Wd.number s).isSome)]) := by
  intro w S us hGw hS hus
  obtain ⟨u, rfl⟩ : ∃ u, us = [u] := by
    have := hus.1
    match us, this with
    | [u], _ => exact ⟨u, rfl⟩
  have h1 : u = .string s := RT_sc (hus.2 0 u _ rfl rfl)
  subst h1
  refine (number_any s w).mono ?_
  rintro e w' ⟨rfl, rfl⟩
  refine ⟨numV s, S, rfl, ⟨[.int .i64 ((Wd.number s).getD 0 : Nat), .bool (Wd.number s).isSome], rfl, rfl, ?_⟩, Below.refl _ _, fun b o h => h, fun b o h => .inl h, hS⟩
  intro j v x hv hx
  match j with
  | 0 => cases hv; cases hx; exact RC.sc _ rfl
  | 1 => cases hv; cases hx; exact RC.sc _ rfl
  | j + 2 => simp at hv
theorem number_itoa (n : Int) : (Wd.number ⟨(Lib.itoa n).toArray⟩).isSome = decide (0 ≤ n ∧ n ≤ 999999999) := by
  by_cases h0 : 0 ≤ n
  · obtain ⟨u, rfl⟩ : ∃ u : Nat, n = (u : Int) := ⟨n.toNat, by omega⟩
    have hi : Lib.itoa (u : Int) = Lib.decDigits u := by unfold Lib.itoa; rw [if_neg (by omega)]; rfl
    rw [hi]
    by_cases h1 : u ≤ 999999999
    · rw [Wd.number_dec u (by omega)]
      simp; omega
    · cases hn : Wd.number ⟨(Lib.decDigits u).toArray⟩ with
      | none => simp; omega
      | some m =>
        exfalso
        have hb := Wd.num_bound _ m hn
        unfold Wd.number at hn
        split at hn
        · cases hn
        · have h2 : (ByteArray.mk (Lib.decDigits u).toArray).data.toList = Lib.decDigits u := by simp
          rw [h2, Wd.numFrom_dec] at hn
          cases hn
          omega
  · have hi : Lib.itoa n = 45 :: Lib.decDigits n.natAbs := by unfold Lib.itoa; rw [if_pos (by omega)]
    rw [hi]
    have hn : Wd.number ⟨(45 :: Lib.decDigits n.natAbs).toArray⟩ = none := by
      unfold Wd.number
      split
      · rfl
      · have h2 : (ByteArray.mk (45 :: Lib.decDigits n.natAbs).toArray).data.toList = 45 :: Lib.decDigits n.natAbs := by simp
        rw [h2, Wd.numFrom, if_neg (by decide)]
    rw [hn]
    simp; omega
end Go.Proofs.YtjghgpmkepfdhaaGreatDoor
namespace Go.Proofs.YtjghgpmkepfdhaaGreatDoor
open Go.RowKit
set_option linter.unusedVariables false
set_option linter.unusedSimpArgs false
namespace Pn
theorem all2_refl {α : Type} {R : α → α → Bool} : ∀ {l : List α}, (∀ x ∈ l, R x x = true) → all2 R l l = true
  | [], _ => rfl
  | x :: l, h => by rw [all2, h x (by simp), all2_refl fun y hy => h y (by simp [hy])]; rfl
theorem sameX_refl (x : Xp) : sameX x x = true := by
  have key : ∀ n x, cntX x ≤ n → sameX x x = true := by
    intro n
    induction n with
    | zero => intro x h; rw [cntX_eq] at h; omega
    | succ n ih =>
      intro x h
      rw [sameX_eq, all2_refl fun y hy => ih y (by have := cntX_kid hy; rw [cntX_eq] at h; omega)]
      simp
  exact key _ x (Nat.le_refl _)
theorem sameS_refl (x : Sm) : sameS x x = true := by
  have key : ∀ n x, cntS x ≤ n → sameS x x = true := by
    intro n
    induction n with
    | zero => intro x h; rw [cntS_eq] at h; omega
    | succ n ih =>
      intro x h
      rw [cntS_eq] at h
      rw [sameS_eq, sameX_refl, all2_refl fun y _ => sameX_refl y, all2_refl fun y hy => ih y (by have := cntS_in hy; omega), all2_refl fun y hy => ih y (by have := cntS_in hy; omega)]
      simp
  exact key _ x (Nat.le_refl _)
theorem eqVr_refl (x : Vr) : eqVr false x x = true := by unfold eqVr; simp
theorem likeM_refl (m : Me) : likeM false m m = true := by
  unfold likeM
  rw [all2_refl fun v _ => eqVr_refl v, all2_refl fun v _ => eqVr_refl v, all2_refl fun x _ => sameS_refl x]
  simp
theorem oneC_refl (c : Cl) : oneC false c c = true := by
  rw [oneC_eq, all2_refl fun v _ => eqVr_refl v, all2_refl fun m _ => likeM_refl m, all2_refl (R := fun x y => decide (x = y)) fun x _ => by simp, all2_refl (R := fun x y => decide (x = y)) fun x _ => by simp]
  simp
theorem sameP_refl (p : List Cl) : all2 (fun x y => oneC false x y) p p = true := all2_refl fun c _ => oneC_refl c
/-- The chapter's example. -/
def exV : Vr := ⟨⟨#[102]⟩, ⟨2, ⟨#[65]⟩, 0, ⟨7, 0⟩, ⟨0, 0⟩, ⟨0, 0⟩, ⟨0, 0⟩⟩, 0⟩
def exP : List Cl := [⟨⟨#[65]⟩, [], ⟨#[]⟩, [], [exV], [], 0⟩]
def exR : List (List AV) := [[.sc (.string ⟨#[65]⟩), .nl, .sc (.string ⟨#[]⟩), .nl, .ls none [encVr exV], .nl, .sc (.int .i64 0)]]
end Pn
theorem nameB_none : Wd.nameB ⟨#[]⟩ = false := Wd.name_len _ (.inl (by decide))
theorem RC_rows {w : World} {S : Nat → Nat → Prop} {v : Value} {rows rows' : List (List AV)} (hl : rows.length = rows'.length) (hr : ∀ (i : Nat) r, rows[i]? = some r → ∃ r', rows'[i]? = some r' ∧ r.length = r'.length ∧ ∀ (j : Nat) x, r[j]? = some x → ∃ x', r'[j]? = some x' ∧ ∀ u, RC w S u x' → RC w S u x)
    (h : RC w S v (.ls none rows')) : RC w S v (.ls none rows) := by
  cases h with
  | e A c =>
    have : rows = [] := List.length_eq_zero_iff.1 hl
    subst this
    exact RC.e A c
  | ls b o n c k _ f hn hc hm hk h1 h2 =>
    refine RC.ls b o n c k rows f (by omega) hc hm (fun i r h => ?_) h1 fun i j r x hi hj => ?_
    · obtain ⟨r', g1, g2, _⟩ := hr i r h
      rw [g2]; exact hk i r' g1
    · obtain ⟨r', g1, _, g3⟩ := hr i r hi
      obtain ⟨x', k1, k2⟩ := g3 j x hj
      exact k2 _ (h2 i j r' x' g1 k1)
theorem PCalls.arg0 {P : Program} {F : FuncId} {rows rows' : List (List AV)} {r : AV} (hc : ∀ w S v, RC w S v (.ls none rows') → RC w S v (.ls none rows)) (h : PCalls P F [.ls none rows] r) : PCalls P F [.ls none rows'] r := by
  intro w S vs hG hS hvs
  refine h w S vs hG hS ⟨hvs.1, fun j v x hv hx => ?_⟩
  match j with
  | 0 =>
    cases hx
    exact hc w S v (hvs.2 0 v _ hv rfl)
  | j + 1 => simp at hx
theorem exR_ok (w : World) (S : Nat → Nat → Prop) (v : Value) (h : RC w S v (.ls none Pn.exR)) : RC w S v (.ls none (List.map Pn.encCl Pn.exP)) := by
  refine RC_rows (by rfl) (fun i r hi => ?_) h
  match i with
  | 0 =>
    cases hi
    refine ⟨_, rfl, rfl, fun j x hj => ?_⟩
    have hn : ∀ u, RC w S u .nl → RC w S u (.ls none []) := fun u hu => by cases hu; exact RC.e none 0
    match j with
    | 0 => cases hj; exact ⟨_, rfl, fun u hu => hu⟩
    | 1 => cases hj; exact ⟨_, rfl, hn⟩
    | 2 => cases hj; exact ⟨_, rfl, fun u hu => hu⟩
    | 3 => cases hj; exact ⟨_, rfl, hn⟩
    | 4 => cases hj; exact ⟨_, rfl, fun u hu => hu⟩
    | 5 => cases hj; exact ⟨_, rfl, hn⟩
    | 6 => cases hj; exact ⟨_, rfl, fun u hu => hu⟩
    | j + 7 => cases hj
  | i + 1 => cases hi
theorem exP_right : Pn.rightG Wd.nameB rtT roO Pn.exP = true := by kernel_rfl
end Go.Proofs.YtjghgpmkepfdhaaGreatDoor
