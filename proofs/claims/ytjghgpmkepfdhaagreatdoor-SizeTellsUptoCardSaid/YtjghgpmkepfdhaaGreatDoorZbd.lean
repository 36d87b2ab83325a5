/- The document's answers, told by plain functions. Conditions: none.
The program's functions, told by plain functions. Conditions: none.
A card's input opened as rows of the pure walk: classes, of any depth; how much is in them, by the bulk. Conditions: none. -/
import Derived.Test.YtjghgpmkepfdhaaGreatDoorZae
import Derived.Test.YtjghgpmkepfdhaaGreatDoorChecked
import Derived.Test.YtjghgpmkepfdhaaGreatDoorZag
import Derived.Test.YtjghgpmkepfdhaaGreatDoorZbc
import Derived.Test.YtjghgpmkepfdhaaGreatDoorZba
import Derived.Test.YtjghgpmkepfdhaaGreatDoorZaf
import Derived.Test.YtjghgpmkepfdhaaGreatDoorZaz
import Derived.Test.YtjghgpmkepfdhaaGreatDoorZbb
import Derived.Test.YtjghgpmkepfdhaaGreatDoorRows
import Derived.Deep.Slices
import Derived.Deep.Fields
import Derived.ChangeSame
import Derived.OpenShut
namespace Go.Proofs.YtjghgpmkepfdhaaGreatDoor
open Go.RowKit
set_option linter.unusedVariables false
set_option linter.unusedSimpArgs false
set_option maxRecDepth 100000
set_option maxHeartbeats 4000000
theorem right10 (b : Low) (p : List Pn.Cl) (hb : Pn.wPs p ≤ 4611686018427387904) : PCalls Tryz.prog 11 [(.ls none (List.map Pn.encCl p))] (.sc (.bool (Pn.rightP b.nm b.rt b.ro p))) := by
  refine pcalls_fine fun hfa => ?_
  have hF1 := hfa 0 _ rfl
  have hF1l := hF1.lenm
  refine pcalls_rf mixed Tryz.func11 rfl ?_
  refine Wp.sr [] ?_
  refine Wp.sr [] ?_
  refine Wp.seq ?_
  refine Wp.sr [] ?_
  refine Wp.block ?_
  refine Wp.lp (α := (Nat) × (Nat)) (fun | ⟨j, n⟩ => ⟨mk 31 [(0, (.ls none (List.map Pn.encCl p))), (3, (.sc (.int .i64 ((n : Nat) : Int)))), (4, (.sc (.int .i64 ((j : Nat) : Int))))], [], y0⟩) (fun | ⟨j, n⟩ => j ≤ p.length ∧ (p.take j).all (fun c => !decide ((p.length : Int) > 20) && Pn.classB b.nm b.rt b.ro c) = true ∧ n = Pn.cntPs (p.take j)) (fun | ⟨j, n⟩ => p.length - j) (0, 0) ?_ ?_
  · exact ⟨Nat.zero_le _, by simp, by simp [Pn.cntPs]⟩
  rintro ⟨j, n⟩ hv2
  obtain ⟨hlj, htj, hsj⟩ := hv2
  refine Wp.seq ?_
  refine Wp.sr [.n (lenm Pn.encCl p)] ?_
  refine Wp.cd (decide ((((j : Nat) : Int) : Int) < ((p.length : Nat) : Int))) (fun h3 => ?_) (fun h3 => ?_)
  · have h3 := of_decide_eq_true h3
    refine Wp.skip ?_
    refine Wp.seq ?_
    refine Wp.block ?_
    refine Wp.seq ?_
    by_cases h4 : (((p.length : Nat) : Int) : Int) > 20
    · skip
      refine Wp.sr [.n (lenm Pn.encCl p), .g (show (decide ((((p.length : Nat) : Int) : Int) > 20)) = true from (by first | (simp [h4]; done) | (simp only [h4, decide_false, decide_true, Bool.not_true, Bool.not_false, Bool.false_eq_true, not_false_eq_true, beq_self_eq_true]; done)))] ?_
      refine Wp.ct (B := true) rfl ?_
      refine Wp.sr [] ?_
      refine Wp.ret ?_
      refine ⟨rfl, ?_⟩
      refine ⟨rfl, ?_⟩
      refine ⟨rfl, ?_⟩
      refine ⟨rfl, ?_⟩
      refine fin_r (.sc (.bool false)) ?_
      unfold Pn.rightP
      rw [Pn.all_false (List.getElem?_eq_getElem (show j < p.length by omega)) (by simp [h3, h4]; try omega)]
      simp
    · skip
      obtain ⟨x7, hx6⟩ : ∃ z0, (p)[j]? = some z0 := ⟨_, List.getElem?_eq_getElem (by omega)⟩
      have hR9 : Fine (.ag (Pn.cCl x7)) := hF1.row hx6 rfl
      have hF10 : Fine (.ls none (List.map Pn.encStr x7.params)) := hR9.at 1 rfl
      have hF10l := hF10.lenm
      have hF11 : Fine (.ls none (List.map Pn.encOw x7.above)) := hR9.at 3 rfl
      have hF11l := hF11.lenm
      have hF12 : Fine (.ls none (List.map Pn.encVr x7.fields)) := hR9.at 4 rfl
      have hF12l := hF12.lenm
      have hF13 : Fine (.ls none (List.map Pn.encMe x7.methods)) := hR9.at 5 rfl
      have hF13l := hF13.lenm
      have hw_x7 := Pn.wPs_in (List.mem_of_getElem? hx6)
      have hv_x7 := Pn.cntMs_w x7.methods
      have ht_x7 := Pn.cntPs_next hx6
      have hl_x7 := Pn.sum_le Pn.cntPs_app p (j + 1)
      have hz := Pn.cntPs_w p
      refine Wp.sr [.n (lenm Pn.encCl p), .g (show (decide ((((p.length : Nat) : Int) : Int) > 20)) = false from (by first | (simp [h4]; done) | (simp only [h4, decide_false, decide_true, Bool.not_true, Bool.not_false, Bool.false_eq_true, not_false_eq_true, beq_self_eq_true]; done))), .i (map_get Pn.encCl hx6), .c (class10 b x7 (by omega))] ?_
      refine Wp.cd (!(Pn.classB b.nm b.rt b.ro x7)) (fun h14 => ?_) (fun h14 => ?_)
      · have h14 : ¬ ((Pn.classB b.nm b.rt b.ro x7) = true) := by simpa using h14
        refine Wp.sr [] ?_
        refine Wp.ret ?_
        refine ⟨rfl, ?_⟩
        refine ⟨rfl, ?_⟩
        refine ⟨rfl, ?_⟩
        refine ⟨rfl, ?_⟩
        refine fin_r (.sc (.bool false)) ?_
        unfold Pn.rightP
        rw [Pn.all_false hx6 (by simp [h3, h4, h14])]
        simp
      · have h14 : ((Pn.classB b.nm b.rt b.ro x7) = true) := by simpa using h14
        refine Wp.skip ?_
        refine Wp.rg [.i (map_get Pn.encCl hx6), .c (stmts09 x7 (by omega)), .z (int_add (x := ((n : Nat) : Int)) (y := (((Pn.cntMs x7.methods) : Nat) : Int)) (z := (((n + (Pn.cntMs x7.methods)) : Nat) : Int)) (by omega) (by omega) (by omega))] ?_
        refine Wp.rg [.z (int_add (x := ((j : Nat) : Int)) (y := 1) (z := (((j + 1) : Nat) : Int)) (by omega) (by omega) (by omega))] ?_
        refine ⟨((j + 1), (n + (Pn.cntMs x7.methods))), .rf, ?_, ?_⟩
        · exact ⟨Pn.len_lt hx6, Pn.all_next hx6 htj (by simp [h3, h4, h14]; try omega), by omega⟩
        · simp only; omega
  · have h3 := of_decide_eq_false h3
    refine Wp.exit ?_
    refine ⟨rfl, ?_⟩
    refine ⟨rfl, ?_⟩
    refine Wp.sr [] ?_
    refine Wp.ret ?_
    refine fin_r (.sc (.bool (decide ((((n : Nat) : Int) : Int) ≤ 400)))) ?_
    unfold Pn.rightP
    rw [Pn.all_end htj (by assumption)]
    have e2 : j = p.length := by omega
    subst e2
    rw [List.take_length] at hsj
    simp [hsj]
end Go.Proofs.YtjghgpmkepfdhaaGreatDoor
namespace Go.Proofs.YtjghgpmkepfdhaaGreatDoor
open Go.RowKit
set_option linter.unusedVariables false
set_option linter.unusedSimpArgs false
set_option maxRecDepth 100000
set_option maxHeartbeats 4000000
def likeP (p q : List Pn.Cl) : Bool := Pn.all2 (fun x y => Pn.oneC false x y) p q
theorem likeP_eq (p q : List Pn.Cl) : likeP p q = Pn.all2 (fun x y => Pn.oneC false x y) p q := rfl
theorem rightG_ok (p : List Pn.Cl) : Pn.rightG Wd.nameB rtT roO p = Pn.rightP Wd.nameB rtT roO p := Pn.rightG_eq nameB_none rtT roO p

theorem sizeTells10 (p q : List Pn.Cl) (hb : (Pn.tyP p).length ≤ 4611686018427387904) (hw : Pn.wPs p ≤ 4611686018427387904) (hf : ∀ c ∈ p, ∀ m ∈ c.methods, Pn.fitSs m.body = true) (hq : Pn.cntPs q ≤ 4611686018427387904) : PCalls Tryz.prog 3 [(.ls none (List.map Pn.encCl p)), (.ls none (List.map Pn.encCl q))] (.sc (.bool true)) := by
  have hpc := Pn.cntPs_w p
  refine pcalls_fine fun hfa => ?_
  have hF1 := hfa 0 _ rfl
  have hF1l := hF1.lenm
  have hF2 := hfa 1 _ rfl
  have hF2l := hF2.lenm
  refine pcalls_rf mixed Tryz.func3 rfl ?_
  refine Wp.sr [] ?_
  refine Wp.seq ?_
  refine Wp.sr [.c (heavy10 p (by omega)), .c (heavy10 q (by omega))] ?_
  refine Wp.cd ((Pn.heavyP p) || (Pn.heavyP q)) (fun h3 => ?_) (fun h3 => ?_)
  · skip
    refine Wp.sr [.c awake10] ?_
    refine Wp.ret ?_
    refine ⟨rfl, ?_⟩
    refine fin_r (.sc (.bool true)) ?_
    first
      | rfl
      | (rw [rightG_ok, Pn.holesL_P, Pn.sameP_refl, likeP_eq]; simp; done)
  · have h3 := Bool.eq_false_iff.1 h3
    refine Wp.skip ?_
    refine Wp.sr [.c (of10p p hb), .c (of10 p hb)] ?_
    refine Wp.sr [.c (right10p p hb hf), .c (right10 low p hw), .e (eqCnt ((((p.length : Nat) : Int) : Int), ((((Pn.fldP p) : Nat) : Int) : Int), ((((Pn.mthP p) : Nat) : Int) : Int), ((((Pn.vrP p) : Nat) : Int) : Int), ((((Pn.cntPs p) : Nat) : Int) : Int), ((((Pn.dpP p) : Nat) : Int) : Int), ((((Pn.holesL (Pn.tyP p)) : Nat) : Int) : Int)) ((((p.length : Nat) : Int) : Int), ((((Pn.fldP p) : Nat) : Int) : Int), ((((Pn.mthP p) : Nat) : Int) : Int), ((((Pn.vrP p) : Nat) : Int) : Int), ((((Pn.cntPs p) : Nat) : Int) : Int), ((((Pn.dpP p) : Nat) : Int) : Int), ((((Pn.hlP p) : Nat) : Int) : Int))), .c (same10p p q), .c (Like09 p q false), .c (same10p p p), .c awake10] ?_
    refine Wp.ret ?_
    refine fin_r (.sc (.bool (((((decide ((Pn.rightG Wd.nameB rtT roO p) = (Pn.rightP Wd.nameB rtT roO p))) && (false ^^ (decide (((((p.length : Nat) : Int) : Int), ((((Pn.fldP p) : Nat) : Int) : Int), ((((Pn.mthP p) : Nat) : Int) : Int), ((((Pn.vrP p) : Nat) : Int) : Int), ((((Pn.cntPs p) : Nat) : Int) : Int), ((((Pn.dpP p) : Nat) : Int) : Int), ((((Pn.holesL (Pn.tyP p)) : Nat) : Int) : Int)) = ((((p.length : Nat) : Int) : Int), ((((Pn.fldP p) : Nat) : Int) : Int), ((((Pn.mthP p) : Nat) : Int) : Int), ((((Pn.vrP p) : Nat) : Int) : Int), ((((Pn.cntPs p) : Nat) : Int) : Int), ((((Pn.dpP p) : Nat) : Int) : Int), ((((Pn.hlP p) : Nat) : Int) : Int)))))) && (decide ((Pn.all2 (fun x y => Pn.oneC false x y) p q) = (likeP p q)))) && (Pn.all2 (fun x y => Pn.oneC false x y) p p)) || false))) ?_
    first
      | rfl
      | (rw [rightG_ok, Pn.holesL_P, Pn.sameP_refl, likeP_eq]; simp; done)
end Go.Proofs.YtjghgpmkepfdhaaGreatDoor
namespace Go.Proofs.YtjghgpmkepfdhaaGreatDoor
open Go.ChangeShapes Go.WideShapes Go.Deep Go.RowKit
set_option linter.unusedVariables false
set_option linter.unusedSimpArgs false

theorem list_of {α : Type} (Q : Nat → α → Prop) : ∀ n : Nat, (∀ i, i < n → ∃ a, Q i a) → ∃ l : List α, l.length = n ∧ ∀ i, (h : i < l.length) → Q i l[i]
  | 0, _ => ⟨[], rfl, fun i h => absurd h (by simp)⟩
  | n + 1, h => by
    obtain ⟨l, hl, hq⟩ := list_of Q n (fun i hi => h i (by omega))
    obtain ⟨a, ha⟩ := h n (by omega)
    refine ⟨l ++ [a], by simp [hl], fun i hi => ?_⟩
    by_cases hin : i < l.length
    · rw [List.getElem_append_left hin]; exact hq i hin
    · have : i = n := by simp at hi; omega
      subst this
      rw [List.getElem_append_right (by omega)]
      simpa [hl] using ha
theorem no_spot {W : World} {a : Addr} {v : Value} (h0 : W.cell? a = some v) : a.spot = none := by
  unfold World.cell? at h0
  split at h0
  · split at h0
    · cases h0
    · rename_i hns
      cases hs : a.spot with
      | none => rfl
      | some z => rw [hs] at hns; simp at hns
  · cases h0
theorem wf_i64 {n : Int} (h : (Lit.int .i64 n).wf = true) : -9223372036854775808 ≤ n ∧ n ≤ 9223372036854775807 := by
  simpa [Lit.wf, IntKind.min, IntKind.max, IntKind.signed, IntKind.bits] using h
namespace Pn
def sumW {α : Type} (wt : α → Nat) : List α → Nat
  | [] => 0
  | x :: l => wt x + sumW wt l
def wtX (e : Xp) : Nat := cntX e + 1
def wtMe (m : Me) : Nat := 1 + m.params.length + m.locals.length + wSs m.body
def wtCl (c : Cl) : Nat := c.fields.length + sumW wtMe c.methods
theorem sum_one {α : Type} : ∀ l : List α, sumW (fun _ => 1) l = l.length
  | [] => rfl
  | x :: l => by rw [sumW, sum_one l, List.length_cons]; omega
theorem sum_X : ∀ l, sumW wtX l = cntXs l + l.length
  | [] => by simp [sumW, cntXs]
  | x :: l => by rw [sumW, sum_X l, wtX, cntXs, List.length_cons]; omega
theorem sum_S : ∀ l, sumW wS l = wSs l
  | [] => by simp [sumW, wSs]
  | x :: l => by rw [sumW, sum_S l, wSs]
theorem fitXs_of {l : List Xp} (h : ∀ v ∈ l, fitX v = true) : fitXs l = true := by rw [fitXs_eq, List.all_eq_true]; exact h
theorem fitSs_of : ∀ {l : List Sm}, (∀ v ∈ l, fitS v = true) → fitSs l = true
  | [], _ => by rw [fitSs]
  | x :: l, h => by rw [fitSs, h x (by simp), fitSs_of fun v hv => h v (by simp [hv])]; rfl
theorem wMs_le : ∀ l, wMs l ≤ sumW wtMe l
  | [] => by simp [wMs]
  | m :: l => by have := wMs_le l; rw [wMs, sumW, wtMe]; omega
theorem wPs_le : ∀ p, wPs p ≤ sumW wtCl p
  | [] => by simp [wPs]
  | c :: l => by have := wPs_le l; have := wMs_le c.methods; rw [wPs, sumW, wtCl]; omega
theorem tyMs_le : ∀ l, (tyMs l).length ≤ sumW wtMe l
  | [] => by simp [tyMs]
  | m :: l => by
    have h1 := tyMs_le l
    have h2 := tyL_len m.body
    have h3 := cntSs_w m.body
    have h4 := tyV_len m.params
    have h5 := tyV_len m.locals
    simp only [tyMs, tyM, sumW, wtMe, List.length_append, List.length_cons]
    omega
theorem tyP_le : ∀ p, (tyP p).length ≤ sumW wtCl p
  | [] => by simp [tyP]
  | c :: l => by
    have h1 := tyP_le l
    have h2 := tyMs_le c.methods
    have h3 := tyV_len c.fields
    simp only [tyP, tyC, sumW, wtCl, List.length_append]
    omega
end Pn
/-- All cells that are there. -/
def SA (W : World) (b o : Nat) : Prop := (W.cell? ⟨b, o, none⟩).isSome = true
theorem RL_one {R : Value → AV → Prop} {v : Value} {x : AV} (h : R v x) : RL R [v] [x] := ⟨rfl, fun j a b ha hb => by
  match j with
  | 0 => cases ha; cases hb; exact h
  | j + 1 => cases ha⟩
theorem RL_nil {R : Value → AV → Prop} {cs : List Value} {k : Nat} (h : cs.length = k) : RL R (cs.drop k) [] := by
  have : cs.drop k = [] := List.drop_eq_nil_of_le (by omega)
  rw [this]
  exact ⟨rfl, fun j a b ha hb => by cases ha⟩
theorem RL_app {R : Value → AV → Prop} {a b : List Value} {x y : List AV} (h : RL R a x) (g : RL R b y) : RL R (a ++ b) (x ++ y) := by
  refine ⟨by rw [List.length_append, List.length_append, h.1, g.1], fun j u v hu hv => ?_⟩
  rcases Nat.lt_or_ge j a.length with hj | hj
  · rw [List.getElem?_append_left hj] at hu
    rw [List.getElem?_append_left (by have := h.1; omega)] at hv
    exact h.2 j u v hu hv
  · rw [List.getElem?_append_right hj] at hu
    rw [List.getElem?_append_right (by have := h.1; omega)] at hv
    have e := h.1
    rw [← e] at hv
    exact g.2 _ u v hu hv
theorem RL_cut {R : Value → AV → Prop} {cs : List Value} {o k : Nat} {x y : List AV} (h : RL R ((cs.drop o).take k) x) (g : RL R (cs.drop (o + k)) y) : RL R (cs.drop o) (x ++ y) := by
  have e : cs.drop o = (cs.drop o).take k ++ cs.drop (o + k) := by
    have := (List.take_append_drop k (cs.drop o)).symm
    rwa [List.drop_drop] at this
  rw [e]
  exact RL_app h g

theorem lst2 {α : Type} (l : List α) (h : l.length = 2) : ∃ a0 a1, l = [a0, a1] := by
  match l, h with
  | [a0, a1], _ => exact ⟨a0, a1, rfl⟩
theorem lst3 {α : Type} (l : List α) (h : l.length = 3) : ∃ a0 a1 a2, l = [a0, a1, a2] := by
  match l, h with
  | [a0, a1, a2], _ => exact ⟨a0, a1, a2, rfl⟩
theorem lst4 {α : Type} (l : List α) (h : l.length = 4) : ∃ a0 a1 a2 a3, l = [a0, a1, a2, a3] := by
  match l, h with
  | [a0, a1, a2, a3], _ => exact ⟨a0, a1, a2, a3, rfl⟩
theorem lst7 {α : Type} (l : List α) (h : l.length = 7) : ∃ a0 a1 a2 a3 a4 a5 a6, l = [a0, a1, a2, a3, a4, a5, a6] := by
  match l, h with
  | [a0, a1, a2, a3, a4, a5, a6], _ => exact ⟨a0, a1, a2, a3, a4, a5, a6, rfl⟩
theorem lst10 {α : Type} (l : List α) (h : l.length = 10) : ∃ a0 a1 a2 a3 a4 a5 a6 a7 a8 a9, l = [a0, a1, a2, a3, a4, a5, a6, a7, a8, a9] := by
  match l, h with
  | [a0, a1, a2, a3, a4, a5, a6, a7, a8, a9], _ => exact ⟨a0, a1, a2, a3, a4, a5, a6, a7, a8, a9, rfl⟩
section
variable {H : Type} {enc : TypeId × Value → H} {W : World} {base : Nat} {sp : Nat → Bool} {held : Bool}
theorem sum_bulk {α : Type} {wt : α → Nat} : ∀ (l : List α) (ds : List (DataW H)), l.length = ds.length → (∀ (i : Nat) (e : α) (d : DataW H), l[i]? = some e → ds[i]? = some d → wt e ≤ Rows.uptoBulk d) → Pn.sumW wt l ≤ Rows.uptoBulkAll ds
  | [], _, _, _ => by rw [Pn.sumW]; omega
  | e :: r, [], h, _ => by simp at h
  | e :: r, d :: s, h, hq => by
    have h0 := hq 0 e d rfl rfl
    have h1 := sum_bulk r s (by simpa using h) (fun i e d he hd => hq (i + 1) e d (by simpa using he) (by simpa using hd))
    rw [Pn.sumW, Rows.uptoBulkAll]
    omega
/-- A slice, opened: each of its elements. -/
theorem open_list {α : Type} {t s : TypeId} {k : Nat} {en : α → List AV} {wt : α → Nat} {ft : α → Prop} {n : Nat} (hs : Tryz.prog.underlying s = some (.slice t)) (hk : Tryz.prog.cellsOf t = k) (hk0 : 0 < k) (hen : ∀ v, (en v).length = k)
    (ih : ∀ m, m < n → ∀ {cs : List Value} {x : DataW H × List MemPlace}, DataW.trod enc Tryz.prog W base sp held m t cs = some x → ∃ v : α, RL (RC W (SA W)) cs (en v) ∧ wt v ≤ Rows.uptoBulk x.1 ∧ ft v)
    {cs : List Value} {y : DataW H × List MemPlace} (h : DataW.trod enc Tryz.prog W base sp held n s cs = some y) : ∃ l : List α, RL (RC W (SA W)) cs [.ls none (l.map en)] ∧ Pn.sumW wt l + 1 ≤ Rows.uptoBulk y.1 ∧ ∀ v ∈ l, ft v := by
  rcases DataW.trod_slice hs h with ⟨rfl, rfl⟩ | ⟨a, len, cap, elems, rest, m, hm, rfl, rfl, hb, hl, hcm, hel, hi, _, _⟩
  · exact ⟨[], RL_one (RC.e none 0), by simp [Pn.sumW, Rows.uptoBulk], by simp⟩
  · obtain ⟨l, hll, hq⟩ := list_of (fun i (v : α) => ∃ cs : List Value, cs.length = k ∧ (∀ j, j < k → W.cell? ((a.add (i * k)).add j) = cs[j]?) ∧ RL (RC W (SA W)) cs (en v) ∧ ft v ∧ ∀ y, elems[i]? = some y → wt v ≤ Rows.uptoBulk y.1) len (fun i him => by
      have hii := hi i him
      rw [hk] at hii
      have hei : elems[i]? = some elems[i] := List.getElem?_eq_getElem (by omega)
      rw [hei] at hii
      obtain ⟨cs', hc, ht⟩ := Option.bind_eq_some_iff.1 hii
      obtain ⟨_, hcl, hat⟩ := World.cells?_some hc
      obtain ⟨v, h1, h2, h3⟩ := ih m (by omega) ht
      exact ⟨v, cs', hcl, hat, h1, h3, fun y hy => by rw [hei] at hy; cases hy; exact h2⟩)
    refine ⟨l, RL_one ?_, ?_, fun v hv => ?_⟩
    · rcases Nat.eq_zero_or_pos len with h0 | hpos
      · subst h0
        have : l = [] := List.length_eq_zero_iff.1 hll
        subst this
        exact RC.e (some a) cap
      · obtain ⟨cs0, g1, g2, _⟩ := hq 0 (by omega)
        have z0 := g2 0 hk0
        have hz : (a.add (0 * k)).add 0 = a := by simp [Addr.add]
        rw [hz, List.getElem?_eq_getElem (by omega)] at z0
        have hsp := no_spot z0
        obtain ⟨b, o, sp'⟩ := a
        have hsp' : sp' = none := hsp
        subst hsp'
        have hadd : ∀ n o, (⟨b, o, none⟩ : Addr).add n = ⟨b, o + n, none⟩ := by
          intro n o
          unfold Addr.add
          split
          · rename_i e; subst e; rfl
          · rfl
        have hcell : ∀ i (hil : i < l.length) j, j < k → ∃ u, W.cell? ⟨b, o + (i * k + j), none⟩ = some u := fun i hil j hj => by
          obtain ⟨cs1, e1, e2, _⟩ := hq i hil
          have := e2 j hj
          rw [hadd, hadd, Nat.add_assoc, List.getElem?_eq_getElem (by omega)] at this
          exact ⟨_, this⟩
        refine RC.ls b o len cap k (l.map en) (fun i j => (W.cell? ⟨b, o + (i * k + j), none⟩).getD (.int .i64 0)) (by rw [List.length_map, hll]) hl hcm (fun i r hr => ?_) (fun i j hin hjk => ?_) fun i j r x hr hx => ?_
        · rw [List.getElem?_map, Option.map_eq_some_iff] at hr
          obtain ⟨v, _, rfl⟩ := hr
          exact hen v
        · obtain ⟨u, hu⟩ := hcell i (by omega) j hjk
          refine ⟨by unfold SA; rw [hu]; rfl, ?_⟩
          rw [hu]; rfl
        · rw [List.getElem?_map, Option.map_eq_some_iff] at hr
          obtain ⟨v, hv, rfl⟩ := hr
          obtain ⟨hil, rfl⟩ := List.getElem?_eq_some_iff.1 hv
          obtain ⟨cs1, e1, e2, e3, _⟩ := hq i hil
          have hjk : j < k := by rw [← hen l[i]]; exact (List.getElem?_eq_some_iff.1 hx).1
          have h5 := e2 j hjk
          rw [hadd, hadd, Nat.add_assoc, List.getElem?_eq_getElem (by omega)] at h5
          have h6 := e3.2 j cs1[j] x (List.getElem?_eq_getElem (by omega)) hx
          rw [h5]
          exact h6
    · have := sum_bulk (wt := wt) l (elems.map (·.1)) (by rw [List.length_map]; omega) (fun i e d he hd => by
        obtain ⟨y, hy, rfl⟩ : ∃ y, elems[i]? = some y ∧ y.1 = d := by simpa using hd
        obtain ⟨hil, rfl⟩ := List.getElem?_eq_some_iff.1 he
        obtain ⟨_, _, _, _, _, h⟩ := hq i hil
        exact h y hy)
      show Pn.sumW wt l + 1 ≤ Rows.uptoBulkAll _ + Rows.uptoBulkAll _ + 1
      omega
    · obtain ⟨i, hil, rfl⟩ := List.getElem_of_mem hv
      obtain ⟨_, _, _, _, h, _⟩ := hq i hil
      exact h
theorem open_St {n : Nat} {cs : List Value} {x : DataW H × List MemPlace} (h : DataW.trod enc Tryz.prog W base sp held n 9 cs = some x) : ∃ v : ByteArray, RL (RC W (SA W)) cs (Pn.encStr v) ∧ (fun _ => 1) v ≤ Rows.uptoBulk x.1 ∧ (fun _ => True) v := by
  obtain ⟨k, e, r, w⟩ := DataW.trod_string Tryz.underlying9 h
  refine ⟨k, by rw [e]; exact RL_one (RC.sc _ rfl), by rw [r]; simp [Rows.uptoBulk], trivial⟩
theorem open_Ow {n : Nat} {cs : List Value} {x : DataW H × List MemPlace} (h : DataW.trod enc Tryz.prog W base sp held n 46 cs = some x) : ∃ v : Pn.Ow, RL (RC W (SA W)) cs (Pn.encOw v) ∧ (fun _ => 1) v ≤ Rows.uptoBulk x.1 ∧ (fun _ => True) v := by
  obtain ⟨ys, n1, hn1, rfl, hlen, hyl, hf⟩ := DataW.trod_struct Tryz.underlying46 h
  rw [show Tryz.prog.cellsOf 46 = 2 by kernel_rfl] at hlen
  obtain ⟨y0, y1, rfl⟩ := lst2 ys hyl
  have h0 : DataW.trod enc Tryz.prog W base sp held n1 3 ((cs.drop 0).take (Tryz.prog.cellsOf 3)) = some y0 := hf 0 _ rfl
  rw [show Tryz.prog.cellsOf 3 = 1 by kernel_rfl] at h0
  obtain ⟨k0, e0, r0, w0⟩ := DataW.trod_int Tryz.underlying3 h0
  have q0 : RL (RC W (SA W)) ((cs.drop 0).take 1) [.sc (.int .i64 k0)] := by rw [e0]; exact RL_one (RC.sc _ rfl)
  have b0 : 1 ≤ Rows.uptoBulk y0.1 := by rw [r0]; simp [Rows.uptoBulk]
  have h1 : DataW.trod enc Tryz.prog W base sp held n1 3 ((cs.drop 1).take (Tryz.prog.cellsOf 3)) = some y1 := hf 1 _ rfl
  rw [show Tryz.prog.cellsOf 3 = 1 by kernel_rfl] at h1
  obtain ⟨k1, e1, r1, w1⟩ := DataW.trod_int Tryz.underlying3 h1
  have q1 : RL (RC W (SA W)) ((cs.drop 1).take 1) [.sc (.int .i64 k1)] := by rw [e1]; exact RL_one (RC.sc _ rfl)
  have b1 : 1 ≤ Rows.uptoBulk y1.1 := by rw [r1]; simp [Rows.uptoBulk]
  refine ⟨⟨k0, k1⟩, RL_cut q0 (RL_cut q1 (RL_nil hlen)), ?_, trivial⟩
  simp only [List.map, Rows.uptoBulk, Rows.uptoBulkAll]
  omega
theorem open_own {n : Nat} {cs : List Value} {x : DataW H × List MemPlace} (h : DataW.trod enc Tryz.prog W base sp held n 47 cs = some x) : ∃ a b c d : Pn.Ow, RL (RC W (SA W)) cs (Pn.encOw a ++ (Pn.encOw b ++ (Pn.encOw c ++ (Pn.encOw d ++ [])))) ∧ 1 ≤ Rows.uptoBulk x.1 := by
  obtain ⟨xs, m, hm, rfl, hlen, hxl, hat⟩ := DataW.trod_array Tryz.underlying47 h
  rw [show Tryz.prog.cellsOf 47 = 8 by kernel_rfl] at hlen
  rw [show Tryz.prog.cellsOf 46 = 2 by kernel_rfl] at hat
  obtain ⟨y0, y1, y2, y3, rfl⟩ := lst4 xs hxl
  obtain ⟨a, q0, _, _⟩ := open_Ow (hat 0 (by omega))
  obtain ⟨b, q1, _, _⟩ := open_Ow (hat 1 (by omega))
  obtain ⟨c, q2, _, _⟩ := open_Ow (hat 2 (by omega))
  obtain ⟨d, q3, _, _⟩ := open_Ow (hat 3 (by omega))
  exact ⟨a, b, c, d, RL_cut (o := 0) q0 (RL_cut q1 (RL_cut q2 (RL_cut q3 (RL_nil hlen)))), by simp [Rows.uptoBulk]⟩
theorem open_Ty {n : Nat} {cs : List Value} {x : DataW H × List MemPlace} (h : DataW.trod enc Tryz.prog W base sp held n 49 cs = some x) : ∃ v : Pn.Ty, RL (RC W (SA W)) cs (Pn.encTy v) ∧ (fun _ => 1) v ≤ Rows.uptoBulk x.1 ∧ (fun _ => True) v := by
  obtain ⟨ys, n1, hn1, rfl, hlen, hyl, hf⟩ := DataW.trod_struct Tryz.underlying49 h
  rw [show Tryz.prog.cellsOf 49 = 11 by kernel_rfl] at hlen
  obtain ⟨y0, y1, y2, y3, rfl⟩ := lst4 ys hyl
  have h0 : DataW.trod enc Tryz.prog W base sp held n1 3 ((cs.drop 0).take (Tryz.prog.cellsOf 3)) = some y0 := hf 0 _ rfl
  rw [show Tryz.prog.cellsOf 3 = 1 by kernel_rfl] at h0
  obtain ⟨k0, e0, r0, w0⟩ := DataW.trod_int Tryz.underlying3 h0
  have q0 : RL (RC W (SA W)) ((cs.drop 0).take 1) [.sc (.int .i64 k0)] := by rw [e0]; exact RL_one (RC.sc _ rfl)
  have b0 : 1 ≤ Rows.uptoBulk y0.1 := by rw [r0]; simp [Rows.uptoBulk]
  have h1 : DataW.trod enc Tryz.prog W base sp held n1 9 ((cs.drop 1).take (Tryz.prog.cellsOf 9)) = some y1 := hf 1 _ rfl
  rw [show Tryz.prog.cellsOf 9 = 1 by kernel_rfl] at h1
  obtain ⟨k1, e1, r1, w1⟩ := DataW.trod_string Tryz.underlying9 h1
  have q1 : RL (RC W (SA W)) ((cs.drop 1).take 1) [.sc (.string k1)] := by rw [e1]; exact RL_one (RC.sc _ rfl)
  have b1 : 1 ≤ Rows.uptoBulk y1.1 := by rw [r1]; simp [Rows.uptoBulk]
  have h2 : DataW.trod enc Tryz.prog W base sp held n1 3 ((cs.drop 2).take (Tryz.prog.cellsOf 3)) = some y2 := hf 2 _ rfl
  rw [show Tryz.prog.cellsOf 3 = 1 by kernel_rfl] at h2
  obtain ⟨k2, e2, r2, w2⟩ := DataW.trod_int Tryz.underlying3 h2
  have q2 : RL (RC W (SA W)) ((cs.drop 2).take 1) [.sc (.int .i64 k2)] := by rw [e2]; exact RL_one (RC.sc _ rfl)
  have b2 : 1 ≤ Rows.uptoBulk y2.1 := by rw [r2]; simp [Rows.uptoBulk]
  have h3 : DataW.trod enc Tryz.prog W base sp held n1 47 ((cs.drop 3).take (Tryz.prog.cellsOf 47)) = some y3 := hf 3 _ rfl
  rw [show Tryz.prog.cellsOf 47 = 8 by kernel_rfl] at h3
  obtain ⟨o0, o1, o2, o3, q3, b3⟩ := open_own h3
  refine ⟨⟨k0, k1, k2, o0, o1, o2, o3⟩, RL_cut q0 (RL_cut q1 (RL_cut q2 (RL_cut q3 (RL_nil hlen)))), ?_, trivial⟩
  simp only [List.map, Rows.uptoBulk, Rows.uptoBulkAll]
  omega
theorem open_Vr {n : Nat} {cs : List Value} {x : DataW H × List MemPlace} (h : DataW.trod enc Tryz.prog W base sp held n 62 cs = some x) : ∃ v : Pn.Vr, RL (RC W (SA W)) cs (Pn.encVr v) ∧ (fun _ => 1) v ≤ Rows.uptoBulk x.1 ∧ (fun _ => True) v := by
  obtain ⟨ys, n1, hn1, rfl, hlen, hyl, hf⟩ := DataW.trod_struct Tryz.underlying62 h
  rw [show Tryz.prog.cellsOf 62 = 13 by kernel_rfl] at hlen
  obtain ⟨y0, y1, y2, rfl⟩ := lst3 ys hyl
  have h0 : DataW.trod enc Tryz.prog W base sp held n1 9 ((cs.drop 0).take (Tryz.prog.cellsOf 9)) = some y0 := hf 0 _ rfl
  rw [show Tryz.prog.cellsOf 9 = 1 by kernel_rfl] at h0
  obtain ⟨k0, e0, r0, w0⟩ := DataW.trod_string Tryz.underlying9 h0
  have q0 : RL (RC W (SA W)) ((cs.drop 0).take 1) [.sc (.string k0)] := by rw [e0]; exact RL_one (RC.sc _ rfl)
  have b0 : 1 ≤ Rows.uptoBulk y0.1 := by rw [r0]; simp [Rows.uptoBulk]
  have h1 : DataW.trod enc Tryz.prog W base sp held n1 49 ((cs.drop 1).take (Tryz.prog.cellsOf 49)) = some y1 := hf 1 _ rfl
  rw [show Tryz.prog.cellsOf 49 = 11 by kernel_rfl] at h1
  obtain ⟨k1, q1, b1, f1⟩ := open_Ty h1
  have h2 : DataW.trod enc Tryz.prog W base sp held n1 3 ((cs.drop 12).take (Tryz.prog.cellsOf 3)) = some y2 := hf 2 _ rfl
  rw [show Tryz.prog.cellsOf 3 = 1 by kernel_rfl] at h2
  obtain ⟨k2, e2, r2, w2⟩ := DataW.trod_int Tryz.underlying3 h2
  have q2 : RL (RC W (SA W)) ((cs.drop 12).take 1) [.sc (.int .i64 k2)] := by rw [e2]; exact RL_one (RC.sc _ rfl)
  have b2 : 1 ≤ Rows.uptoBulk y2.1 := by rw [r2]; simp [Rows.uptoBulk]
  refine ⟨⟨k0, k1, k2⟩, RL_cut q0 (RL_cut q1 (RL_cut q2 (RL_nil hlen))), ?_, trivial⟩
  simp only [List.map, Rows.uptoBulk, Rows.uptoBulkAll]
  omega
theorem open_Xp_at : ∀ (n : Nat) {cs : List Value} {x : DataW H × List MemPlace}, DataW.trod enc Tryz.prog W base sp held n 57 cs = some x → ∃ v : Pn.Xp, RL (RC W (SA W)) cs (Pn.encX v) ∧ Pn.wtX v ≤ Rows.uptoBulk x.1 ∧ (fun e => Pn.fitX e = true) v := by
  intro n
  induction n using Nat.strongRecOn with
  | ind n ih =>
    intro cs x h
    obtain ⟨ys, n1, hn1, rfl, hlen, hyl, hf⟩ := DataW.trod_struct Tryz.underlying57 h
    rw [show Tryz.prog.cellsOf 57 = 4 by kernel_rfl] at hlen
    obtain ⟨y0, y1, y2, y3, rfl⟩ := lst4 ys hyl
    have h0 : DataW.trod enc Tryz.prog W base sp held n1 3 ((cs.drop 0).take (Tryz.prog.cellsOf 3)) = some y0 := hf 0 _ rfl
    rw [show Tryz.prog.cellsOf 3 = 1 by kernel_rfl] at h0
    obtain ⟨k0, e0, r0, w0⟩ := DataW.trod_int Tryz.underlying3 h0
    have q0 : RL (RC W (SA W)) ((cs.drop 0).take 1) [.sc (.int .i64 k0)] := by rw [e0]; exact RL_one (RC.sc _ rfl)
    have b0 : 1 ≤ Rows.uptoBulk y0.1 := by rw [r0]; simp [Rows.uptoBulk]
    have h1 : DataW.trod enc Tryz.prog W base sp held n1 3 ((cs.drop 1).take (Tryz.prog.cellsOf 3)) = some y1 := hf 1 _ rfl
    rw [show Tryz.prog.cellsOf 3 = 1 by kernel_rfl] at h1
    obtain ⟨k1, e1, r1, w1⟩ := DataW.trod_int Tryz.underlying3 h1
    have q1 : RL (RC W (SA W)) ((cs.drop 1).take 1) [.sc (.int .i64 k1)] := by rw [e1]; exact RL_one (RC.sc _ rfl)
    have b1 : 1 ≤ Rows.uptoBulk y1.1 := by rw [r1]; simp [Rows.uptoBulk]
    have h2 : DataW.trod enc Tryz.prog W base sp held n1 9 ((cs.drop 2).take (Tryz.prog.cellsOf 9)) = some y2 := hf 2 _ rfl
    rw [show Tryz.prog.cellsOf 9 = 1 by kernel_rfl] at h2
    obtain ⟨k2, e2, r2, w2⟩ := DataW.trod_string Tryz.underlying9 h2
    have q2 : RL (RC W (SA W)) ((cs.drop 2).take 1) [.sc (.string k2)] := by rw [e2]; exact RL_one (RC.sc _ rfl)
    have b2 : 1 ≤ Rows.uptoBulk y2.1 := by rw [r2]; simp [Rows.uptoBulk]
    have h3 : DataW.trod enc Tryz.prog W base sp held n1 55 ((cs.drop 3).take (Tryz.prog.cellsOf 55)) = some y3 := hf 3 _ rfl
    rw [show Tryz.prog.cellsOf 55 = 1 by kernel_rfl] at h3
    obtain ⟨k3, q3, b3, f3⟩ := open_list (wt := Pn.wtX) (ft := (fun e => Pn.fitX e = true)) (k := 4) Tryz.underlying55 (by kernel_rfl) (by decide) (fun v => by rw [Pn.encX_eq]; rfl) (fun m hm => ih m (by omega)) h3
    have s1 := Pn.sum_X k3
    refine ⟨.mk k0 k1 k2 k3, by rw [Pn.encX_eq]; exact RL_cut q0 (RL_cut q1 (RL_cut q2 (RL_cut q3 (RL_nil hlen)))), ?_, ?_⟩
    · simp only [Pn.wtX, Pn.cntX, List.map, Rows.uptoBulk, Rows.uptoBulkAll]
      omega
    · simp only [Pn.fitX, Pn.fitXs_of f3, Bool.and_true, decide_eq_true_eq]
      exact wf_i64 w1
theorem open_Xp {n : Nat} {cs : List Value} {x : DataW H × List MemPlace} (h : DataW.trod enc Tryz.prog W base sp held n 57 cs = some x) : ∃ v : Pn.Xp, RL (RC W (SA W)) cs (Pn.encX v) ∧ Pn.wtX v ≤ Rows.uptoBulk x.1 ∧ (fun e => Pn.fitX e = true) v := open_Xp_at n h
theorem open_Sm_at : ∀ (n : Nat) {cs : List Value} {x : DataW H × List MemPlace}, DataW.trod enc Tryz.prog W base sp held n 59 cs = some x → ∃ v : Pn.Sm, RL (RC W (SA W)) cs (Pn.encS v) ∧ Pn.wS v ≤ Rows.uptoBulk x.1 ∧ (fun x => Pn.fitS x = true) v := by
  intro n
  induction n using Nat.strongRecOn with
  | ind n ih =>
    intro cs x h
    obtain ⟨ys, n1, hn1, rfl, hlen, hyl, hf⟩ := DataW.trod_struct Tryz.underlying59 h
    rw [show Tryz.prog.cellsOf 59 = 23 by kernel_rfl] at hlen
    obtain ⟨y0, y1, y2, y3, y4, y5, y6, y7, y8, y9, rfl⟩ := lst10 ys hyl
    have h0 : DataW.trod enc Tryz.prog W base sp held n1 3 ((cs.drop 0).take (Tryz.prog.cellsOf 3)) = some y0 := hf 0 _ rfl
    rw [show Tryz.prog.cellsOf 3 = 1 by kernel_rfl] at h0
    obtain ⟨k0, e0, r0, w0⟩ := DataW.trod_int Tryz.underlying3 h0
    have q0 : RL (RC W (SA W)) ((cs.drop 0).take 1) [.sc (.int .i64 k0)] := by rw [e0]; exact RL_one (RC.sc _ rfl)
    have b0 : 1 ≤ Rows.uptoBulk y0.1 := by rw [r0]; simp [Rows.uptoBulk]
    have h1 : DataW.trod enc Tryz.prog W base sp held n1 9 ((cs.drop 1).take (Tryz.prog.cellsOf 9)) = some y1 := hf 1 _ rfl
    rw [show Tryz.prog.cellsOf 9 = 1 by kernel_rfl] at h1
    obtain ⟨k1, e1, r1, w1⟩ := DataW.trod_string Tryz.underlying9 h1
    have q1 : RL (RC W (SA W)) ((cs.drop 1).take 1) [.sc (.string k1)] := by rw [e1]; exact RL_one (RC.sc _ rfl)
    have b1 : 1 ≤ Rows.uptoBulk y1.1 := by rw [r1]; simp [Rows.uptoBulk]
    have h2 : DataW.trod enc Tryz.prog W base sp held n1 9 ((cs.drop 2).take (Tryz.prog.cellsOf 9)) = some y2 := hf 2 _ rfl
    rw [show Tryz.prog.cellsOf 9 = 1 by kernel_rfl] at h2
    obtain ⟨k2, e2, r2, w2⟩ := DataW.trod_string Tryz.underlying9 h2
    have q2 : RL (RC W (SA W)) ((cs.drop 2).take 1) [.sc (.string k2)] := by rw [e2]; exact RL_one (RC.sc _ rfl)
    have b2 : 1 ≤ Rows.uptoBulk y2.1 := by rw [r2]; simp [Rows.uptoBulk]
    have h3 : DataW.trod enc Tryz.prog W base sp held n1 9 ((cs.drop 3).take (Tryz.prog.cellsOf 9)) = some y3 := hf 3 _ rfl
    rw [show Tryz.prog.cellsOf 9 = 1 by kernel_rfl] at h3
    obtain ⟨k3, e3, r3, w3⟩ := DataW.trod_string Tryz.underlying9 h3
    have q3 : RL (RC W (SA W)) ((cs.drop 3).take 1) [.sc (.string k3)] := by rw [e3]; exact RL_one (RC.sc _ rfl)
    have b3 : 1 ≤ Rows.uptoBulk y3.1 := by rw [r3]; simp [Rows.uptoBulk]
    have h4 : DataW.trod enc Tryz.prog W base sp held n1 49 ((cs.drop 4).take (Tryz.prog.cellsOf 49)) = some y4 := hf 4 _ rfl
    rw [show Tryz.prog.cellsOf 49 = 11 by kernel_rfl] at h4
    obtain ⟨k4, q4, b4, f4⟩ := open_Ty h4
    have h5 : DataW.trod enc Tryz.prog W base sp held n1 57 ((cs.drop 15).take (Tryz.prog.cellsOf 57)) = some y5 := hf 5 _ rfl
    rw [show Tryz.prog.cellsOf 57 = 4 by kernel_rfl] at h5
    obtain ⟨k5, q5, b5, f5⟩ := open_Xp h5
    have h6 : DataW.trod enc Tryz.prog W base sp held n1 55 ((cs.drop 19).take (Tryz.prog.cellsOf 55)) = some y6 := hf 6 _ rfl
    rw [show Tryz.prog.cellsOf 55 = 1 by kernel_rfl] at h6
    obtain ⟨k6, q6, b6, f6⟩ := open_list (wt := Pn.wtX) (ft := (fun e => Pn.fitX e = true)) (k := 4) Tryz.underlying55 (by kernel_rfl) (by decide) (fun v => by rw [Pn.encX_eq]; rfl) (fun m hm => open_Xp) h6
    have h7 : DataW.trod enc Tryz.prog W base sp held n1 50 ((cs.drop 20).take (Tryz.prog.cellsOf 50)) = some y7 := hf 7 _ rfl
    rw [show Tryz.prog.cellsOf 50 = 1 by kernel_rfl] at h7
    obtain ⟨k7, q7, b7, f7⟩ := open_list (wt := Pn.wS) (ft := (fun x => Pn.fitS x = true)) (k := 23) Tryz.underlying50 (by kernel_rfl) (by decide) (fun v => by rw [Pn.encS_eq]; rfl) (fun m hm => ih m (by omega)) h7
    have h8 : DataW.trod enc Tryz.prog W base sp held n1 50 ((cs.drop 21).take (Tryz.prog.cellsOf 50)) = some y8 := hf 8 _ rfl
    rw [show Tryz.prog.cellsOf 50 = 1 by kernel_rfl] at h8
    obtain ⟨k8, q8, b8, f8⟩ := open_list (wt := Pn.wS) (ft := (fun x => Pn.fitS x = true)) (k := 23) Tryz.underlying50 (by kernel_rfl) (by decide) (fun v => by rw [Pn.encS_eq]; rfl) (fun m hm => ih m (by omega)) h8
    have h9 : DataW.trod enc Tryz.prog W base sp held n1 3 ((cs.drop 22).take (Tryz.prog.cellsOf 3)) = some y9 := hf 9 _ rfl
    rw [show Tryz.prog.cellsOf 3 = 1 by kernel_rfl] at h9
    obtain ⟨k9, e9, r9, w9⟩ := DataW.trod_int Tryz.underlying3 h9
    have q9 : RL (RC W (SA W)) ((cs.drop 22).take 1) [.sc (.int .i64 k9)] := by rw [e9]; exact RL_one (RC.sc _ rfl)
    have b9 : 1 ≤ Rows.uptoBulk y9.1 := by rw [r9]; simp [Rows.uptoBulk]
    rw [Pn.encX_eq] at q5
    have s1 := Pn.sum_X k6
    have s2 := Pn.sum_S k7
    have s3 := Pn.sum_S k8
    refine ⟨.mk k0 k1 k2 k3 k4 k5 k6 k7 k8 k9, by rw [Pn.encS_eq]; exact RL_cut q0 (RL_cut q1 (RL_cut q2 (RL_cut q3 (RL_cut q4 (RL_cut q5 (RL_cut q6 (RL_cut q7 (RL_cut q8 (RL_cut q9 (RL_nil hlen)))))))))), ?_, ?_⟩
    · simp only [Pn.wS, List.map, Rows.uptoBulk, Rows.uptoBulkAll]
      simp only [Pn.wtX] at b5
      omega
    · simp only [Pn.fitS, Pn.fitSs_of f7, Pn.fitSs_of f8, f5, Bool.and_true, List.all_eq_true, Bool.true_and]
      exact f6
theorem open_Sm {n : Nat} {cs : List Value} {x : DataW H × List MemPlace} (h : DataW.trod enc Tryz.prog W base sp held n 59 cs = some x) : ∃ v : Pn.Sm, RL (RC W (SA W)) cs (Pn.encS v) ∧ Pn.wS v ≤ Rows.uptoBulk x.1 ∧ (fun x => Pn.fitS x = true) v := open_Sm_at n h
theorem open_Me {n : Nat} {cs : List Value} {x : DataW H × List MemPlace} (h : DataW.trod enc Tryz.prog W base sp held n 52 cs = some x) : ∃ v : Pn.Me, RL (RC W (SA W)) cs (Pn.encMe v) ∧ Pn.wtMe v ≤ Rows.uptoBulk x.1 ∧ (fun m => Pn.fitSs m.body = true) v := by
  obtain ⟨ys, n1, hn1, rfl, hlen, hyl, hf⟩ := DataW.trod_struct Tryz.underlying52 h
  rw [show Tryz.prog.cellsOf 52 = 17 by kernel_rfl] at hlen
  obtain ⟨y0, y1, y2, y3, y4, y5, y6, rfl⟩ := lst7 ys hyl
  have h0 : DataW.trod enc Tryz.prog W base sp held n1 9 ((cs.drop 0).take (Tryz.prog.cellsOf 9)) = some y0 := hf 0 _ rfl
  rw [show Tryz.prog.cellsOf 9 = 1 by kernel_rfl] at h0
  obtain ⟨k0, e0, r0, w0⟩ := DataW.trod_string Tryz.underlying9 h0
  have q0 : RL (RC W (SA W)) ((cs.drop 0).take 1) [.sc (.string k0)] := by rw [e0]; exact RL_one (RC.sc _ rfl)
  have b0 : 1 ≤ Rows.uptoBulk y0.1 := by rw [r0]; simp [Rows.uptoBulk]
  have h1 : DataW.trod enc Tryz.prog W base sp held n1 4 ((cs.drop 1).take (Tryz.prog.cellsOf 4)) = some y1 := hf 1 _ rfl
  rw [show Tryz.prog.cellsOf 4 = 1 by kernel_rfl] at h1
  obtain ⟨k1, e1, r1⟩ := DataW.trod_bool Tryz.underlying4 h1
  have q1 : RL (RC W (SA W)) ((cs.drop 1).take 1) [.sc (.bool k1)] := by rw [e1]; exact RL_one (RC.sc _ rfl)
  have b1 : 1 ≤ Rows.uptoBulk y1.1 := by rw [r1]; simp [Rows.uptoBulk]
  have h2 : DataW.trod enc Tryz.prog W base sp held n1 49 ((cs.drop 2).take (Tryz.prog.cellsOf 49)) = some y2 := hf 2 _ rfl
  rw [show Tryz.prog.cellsOf 49 = 11 by kernel_rfl] at h2
  obtain ⟨k2, q2, b2, f2⟩ := open_Ty h2
  have h3 : DataW.trod enc Tryz.prog W base sp held n1 35 ((cs.drop 13).take (Tryz.prog.cellsOf 35)) = some y3 := hf 3 _ rfl
  rw [show Tryz.prog.cellsOf 35 = 1 by kernel_rfl] at h3
  obtain ⟨k3, q3, b3, f3⟩ := open_list (wt := (fun _ => 1)) (ft := (fun _ => True)) (k := 13) Tryz.underlying35 (by kernel_rfl) (by decide) (fun v => rfl) (fun m hm => open_Vr) h3
  have h4 : DataW.trod enc Tryz.prog W base sp held n1 35 ((cs.drop 14).take (Tryz.prog.cellsOf 35)) = some y4 := hf 4 _ rfl
  rw [show Tryz.prog.cellsOf 35 = 1 by kernel_rfl] at h4
  obtain ⟨k4, q4, b4, f4⟩ := open_list (wt := (fun _ => 1)) (ft := (fun _ => True)) (k := 13) Tryz.underlying35 (by kernel_rfl) (by decide) (fun v => rfl) (fun m hm => open_Vr) h4
  have h5 : DataW.trod enc Tryz.prog W base sp held n1 50 ((cs.drop 15).take (Tryz.prog.cellsOf 50)) = some y5 := hf 5 _ rfl
  rw [show Tryz.prog.cellsOf 50 = 1 by kernel_rfl] at h5
  obtain ⟨k5, q5, b5, f5⟩ := open_list (wt := Pn.wS) (ft := (fun x => Pn.fitS x = true)) (k := 23) Tryz.underlying50 (by kernel_rfl) (by decide) (fun v => by rw [Pn.encS_eq]; rfl) (fun m hm => open_Sm) h5
  have h6 : DataW.trod enc Tryz.prog W base sp held n1 3 ((cs.drop 16).take (Tryz.prog.cellsOf 3)) = some y6 := hf 6 _ rfl
  rw [show Tryz.prog.cellsOf 3 = 1 by kernel_rfl] at h6
  obtain ⟨k6, e6, r6, w6⟩ := DataW.trod_int Tryz.underlying3 h6
  have q6 : RL (RC W (SA W)) ((cs.drop 16).take 1) [.sc (.int .i64 k6)] := by rw [e6]; exact RL_one (RC.sc _ rfl)
  have b6 : 1 ≤ Rows.uptoBulk y6.1 := by rw [r6]; simp [Rows.uptoBulk]
  have s1 := Pn.sum_one k3
  have s2 := Pn.sum_one k4
  have s3 := Pn.sum_S k5
  refine ⟨⟨k0, k1, k2, k3, k4, k5, k6⟩, RL_cut q0 (RL_cut q1 (RL_cut q2 (RL_cut q3 (RL_cut q4 (RL_cut q5 (RL_cut q6 (RL_nil hlen))))))), ?_, Pn.fitSs_of f5⟩
  simp only [Pn.wtMe, List.map, Rows.uptoBulk, Rows.uptoBulkAll]
  omega
theorem open_Cl {n : Nat} {cs : List Value} {x : DataW H × List MemPlace} (h : DataW.trod enc Tryz.prog W base sp held n 38 cs = some x) : ∃ v : Pn.Cl, RL (RC W (SA W)) cs (Pn.encCl v) ∧ Pn.wtCl v ≤ Rows.uptoBulk x.1 ∧ (fun c => ∀ m ∈ c.methods, Pn.fitSs m.body = true) v := by
  obtain ⟨ys, n1, hn1, rfl, hlen, hyl, hf⟩ := DataW.trod_struct Tryz.underlying38 h
  rw [show Tryz.prog.cellsOf 38 = 7 by kernel_rfl] at hlen
  obtain ⟨y0, y1, y2, y3, y4, y5, y6, rfl⟩ := lst7 ys hyl
  have h0 : DataW.trod enc Tryz.prog W base sp held n1 9 ((cs.drop 0).take (Tryz.prog.cellsOf 9)) = some y0 := hf 0 _ rfl
  rw [show Tryz.prog.cellsOf 9 = 1 by kernel_rfl] at h0
  obtain ⟨k0, e0, r0, w0⟩ := DataW.trod_string Tryz.underlying9 h0
  have q0 : RL (RC W (SA W)) ((cs.drop 0).take 1) [.sc (.string k0)] := by rw [e0]; exact RL_one (RC.sc _ rfl)
  have b0 : 1 ≤ Rows.uptoBulk y0.1 := by rw [r0]; simp [Rows.uptoBulk]
  have h1 : DataW.trod enc Tryz.prog W base sp held n1 33 ((cs.drop 1).take (Tryz.prog.cellsOf 33)) = some y1 := hf 1 _ rfl
  rw [show Tryz.prog.cellsOf 33 = 1 by kernel_rfl] at h1
  obtain ⟨k1, q1, b1, f1⟩ := open_list (wt := (fun _ => 1)) (ft := (fun _ => True)) (k := 1) Tryz.underlying33 (by kernel_rfl) (by decide) (fun v => rfl) (fun m hm => open_St) h1
  have h2 : DataW.trod enc Tryz.prog W base sp held n1 9 ((cs.drop 2).take (Tryz.prog.cellsOf 9)) = some y2 := hf 2 _ rfl
  rw [show Tryz.prog.cellsOf 9 = 1 by kernel_rfl] at h2
  obtain ⟨k2, e2, r2, w2⟩ := DataW.trod_string Tryz.underlying9 h2
  have q2 : RL (RC W (SA W)) ((cs.drop 2).take 1) [.sc (.string k2)] := by rw [e2]; exact RL_one (RC.sc _ rfl)
  have b2 : 1 ≤ Rows.uptoBulk y2.1 := by rw [r2]; simp [Rows.uptoBulk]
  have h3 : DataW.trod enc Tryz.prog W base sp held n1 34 ((cs.drop 3).take (Tryz.prog.cellsOf 34)) = some y3 := hf 3 _ rfl
  rw [show Tryz.prog.cellsOf 34 = 1 by kernel_rfl] at h3
  obtain ⟨k3, q3, b3, f3⟩ := open_list (wt := (fun _ => 1)) (ft := (fun _ => True)) (k := 2) Tryz.underlying34 (by kernel_rfl) (by decide) (fun v => rfl) (fun m hm => open_Ow) h3
  have h4 : DataW.trod enc Tryz.prog W base sp held n1 35 ((cs.drop 4).take (Tryz.prog.cellsOf 35)) = some y4 := hf 4 _ rfl
  rw [show Tryz.prog.cellsOf 35 = 1 by kernel_rfl] at h4
  obtain ⟨k4, q4, b4, f4⟩ := open_list (wt := (fun _ => 1)) (ft := (fun _ => True)) (k := 13) Tryz.underlying35 (by kernel_rfl) (by decide) (fun v => rfl) (fun m hm => open_Vr) h4
  have h5 : DataW.trod enc Tryz.prog W base sp held n1 36 ((cs.drop 5).take (Tryz.prog.cellsOf 36)) = some y5 := hf 5 _ rfl
  rw [show Tryz.prog.cellsOf 36 = 1 by kernel_rfl] at h5
  obtain ⟨k5, q5, b5, f5⟩ := open_list (wt := Pn.wtMe) (ft := (fun m => Pn.fitSs m.body = true)) (k := 17) Tryz.underlying36 (by kernel_rfl) (by decide) (fun v => rfl) (fun m hm => open_Me) h5
  have h6 : DataW.trod enc Tryz.prog W base sp held n1 3 ((cs.drop 6).take (Tryz.prog.cellsOf 3)) = some y6 := hf 6 _ rfl
  rw [show Tryz.prog.cellsOf 3 = 1 by kernel_rfl] at h6
  obtain ⟨k6, e6, r6, w6⟩ := DataW.trod_int Tryz.underlying3 h6
  have q6 : RL (RC W (SA W)) ((cs.drop 6).take 1) [.sc (.int .i64 k6)] := by rw [e6]; exact RL_one (RC.sc _ rfl)
  have b6 : 1 ≤ Rows.uptoBulk y6.1 := by rw [r6]; simp [Rows.uptoBulk]
  have s1 := Pn.sum_one k4
  refine ⟨⟨k0, k1, k2, k3, k4, k5, k6⟩, RL_cut q0 (RL_cut q1 (RL_cut q2 (RL_cut q3 (RL_cut q4 (RL_cut q5 (RL_cut q6 (RL_nil hlen))))))), ?_, fun m hm => f5 m hm⟩
  simp only [Pn.wtCl, List.map, Rows.uptoBulk, Rows.uptoBulkAll]
  omega
/-- A program, opened. -/
theorem open_prog {n : Nat} {cs : List Value} {x : DataW H × List MemPlace} (h : DataW.trod enc Tryz.prog W base sp held n 22 cs = some x) : ∃ p : List Pn.Cl, RL (RC W (SA W)) cs [.ls none (p.map Pn.encCl)] ∧ Pn.sumW Pn.wtCl p + 1 ≤ Rows.uptoBulk x.1 ∧ ∀ c ∈ p, ∀ m ∈ c.methods, Pn.fitSs m.body = true :=
  open_list (wt := Pn.wtCl) (ft := (fun c => ∀ m ∈ c.methods, Pn.fitSs m.body = true)) (k := 7) Tryz.underlying22 (by kernel_rfl) (by decide) (fun v => rfl) (fun m hm => open_Cl) h
end
end Go.Proofs.YtjghgpmkepfdhaaGreatDoor
