/- The document's answers, told by plain functions. Conditions: none.
The document's answers, told by plain functions. Conditions: none.
The document's answers, told by plain functions. Conditions: none.
The document's answers, told by plain functions. Conditions: none.
The document's answers, told by plain functions. Conditions: none.
The document's answers, told by plain functions. Conditions: none.
The document's answers, told by plain functions. Conditions: none.
The program's functions, told by plain functions. Conditions: none.
The document's answers, told by plain functions. Conditions: none.
The document's answers, told by plain functions. Conditions: none.
The program's functions, told by plain functions. Conditions: none.
The program's functions, told by plain functions. Conditions: none. -/
import Derived.Test.YtjghgpmkepfdhaaGreatDoorZae
import Derived.Test.YtjghgpmkepfdhaaGreatDoorChecked
import Derived.Test.YtjghgpmkepfdhaaGreatDoorZag
import Derived.Test.YtjghgpmkepfdhaaGreatDoorZaf
import Derived.Test.YtjghgpmkepfdhaaGreatDoorZah
namespace Go.Proofs.YtjghgpmkepfdhaaGreatDoor
open Go.RowKit
set_option linter.unusedVariables false
set_option linter.unusedSimpArgs false
set_option maxRecDepth 100000
set_option maxHeartbeats 4000000
theorem size_step (x : Pn.Sm) (hb : Pn.cntS x ≤ 4611686018427387904) (IH : ∀ y ∈ x.body ++ x.els, PCalls Tryz.prog 18 [(.ag (Pn.cS y))] (.sc (.int .i64 ((Pn.cntS y : Nat) : Int)))) : PCalls Tryz.prog 18 [(.ag (Pn.cS x))] (.sc (.int .i64 ((Pn.cntS x : Nat) : Int))) := by
  refine pcalls_fine fun hfa => ?_
  have hR1 := hfa 0 _ rfl
  have hF2 : Fine (.ls none (List.map Pn.encX x.e.kids)) := hR1.at 18 rfl
  have hF2l := hF2.lenm
  have hF3 : Fine (.ls none (List.map Pn.encX x.args)) := hR1.at 19 rfl
  have hF3l := hF3.lenm
  have hF4 : Fine (.ls none (List.map Pn.encS x.body)) := hR1.at 20 rfl
  have hF4l := hF4.lenm
  have hF5 : Fine (.ls none (List.map Pn.encS x.els)) := hR1.at 21 rfl
  have hF5l := hF5.lenm
  refine pcalls_rf mixed Tryz.func18 rfl ?_
  refine Wp.sr [] ?_
  refine Wp.sr [] ?_
  refine Wp.seq ?_
  refine Wp.sr [] ?_
  refine Wp.block ?_
  refine Wp.lp (α := (Nat) × (Nat)) (fun | ⟨j, n⟩ => ⟨mk 37 [(0, (.ag (Pn.cS x))), (1, (.pt 1 0)), (2, (.sc (.int .i64 0))), (3, (.sc (.int .i64 ((n : Nat) : Int)))), (4, (.sc (.int .i64 ((j : Nat) : Int))))], [(1, (Pn.cS x))], y0⟩) (fun | ⟨j, n⟩ => j ≤ x.body.length ∧ n = 1 + Pn.cntSs (x.body.take j)) (fun | ⟨j, n⟩ => x.body.length - j) (0, 1) ?_ ?_
  · exact ⟨Nat.zero_le _, by simp [Pn.cntSs]⟩
  rintro ⟨j, n⟩ hv6
  obtain ⟨hlj, hsj⟩ := hv6
  have hlej := Pn.sum_le Pn.cntSs_app (x.body) j
  have hle2 := Pn.cntS_eq x
  refine Wp.seq ?_
  refine Wp.sr [.n (lenm Pn.encS x.body)] ?_
  refine Wp.cd (decide ((((j : Nat) : Int) : Int) < ((x.body.length : Nat) : Int))) (fun h7 => ?_) (fun h7 => ?_)
  · have h7 := of_decide_eq_true h7
    refine Wp.skip ?_
    refine Wp.seq ?_
    refine Wp.block ?_
    obtain ⟨x10, hx9⟩ : ∃ z0, (x.body)[j]? = some z0 := ⟨_, List.getElem?_eq_getElem (by omega)⟩
    have hR12 : Fine (.ag (Pn.cS x10)) := hF4.row hx9 (Pn.encS_eq x10)
    have hF13 : Fine (.ls none (List.map Pn.encX x10.e.kids)) := hR12.at 18 rfl
    have hF13l := hF13.lenm
    have hF14 : Fine (.ls none (List.map Pn.encX x10.args)) := hR12.at 19 rfl
    have hF14l := hF14.lenm
    have hF15 : Fine (.ls none (List.map Pn.encS x10.body)) := hR12.at 20 rfl
    have hF15l := hF15.lenm
    have hF16 : Fine (.ls none (List.map Pn.encS x10.els)) := hR12.at 21 rfl
    have hF16l := hF16.lenm
    have ht_x10 := Pn.cntSs_next hx9
    have hl_x10 := Pn.sum_le Pn.cntSs_app (x.body) (j + 1)
    refine Wp.rg [.i (Pn.map_to hx9 (Pn.encS_eq x10)), .c (IH x10 (List.mem_append.2 (.inl (List.mem_of_getElem? hx9)))), .z (int_add (x := ((n : Nat) : Int)) (y := (((Pn.cntS x10) : Nat) : Int)) (z := (((n + (Pn.cntS x10)) : Nat) : Int)) (by omega) (by omega) (by omega))] ?_
    refine Wp.rg [.z (int_add (x := ((j : Nat) : Int)) (y := 1) (z := (((j + 1) : Nat) : Int)) (by omega) (by omega) (by omega))] ?_
    refine ⟨((j + 1), (n + (Pn.cntS x10))), .rf, ?_, ?_⟩
    · simp only; omega
    · simp only; omega
  · have h7 := of_decide_eq_false h7
    refine Wp.exit ?_
    refine ⟨rfl, ?_⟩
    refine ⟨rfl, ?_⟩
    refine Wp.seq ?_
    refine Wp.sr [] ?_
    refine Wp.block ?_
    refine Wp.lp (α := (Nat) × (Nat)) (fun | ⟨k, nb⟩ => ⟨mk 37 [(0, (.ag (Pn.cS x))), (1, (.pt 1 0)), (2, (.sc (.int .i64 0))), (3, (.sc (.int .i64 ((nb : Nat) : Int)))), (4, (.sc (.int .i64 ((j : Nat) : Int)))), (5, (.sc (.int .i64 ((k : Nat) : Int)))), (10, (.sc (.bool (decide ((((j : Nat) : Int) : Int) < ((x.body.length : Nat) : Int))))))], [(1, (Pn.cS x))], y0⟩) (fun | ⟨k, nb⟩ => k ≤ x.els.length ∧ nb = (1 + Pn.cntSs x.body) + Pn.cntSs (x.els.take k)) (fun | ⟨k, nb⟩ => x.els.length - k) (0, n) ?_ ?_
    · have e2 : j = x.body.length := by omega
      subst e2
      rw [List.take_length] at hsj
      exact ⟨Nat.zero_le _, by simp [Pn.cntSs]; omega⟩
    rintro ⟨k, nb⟩ hv17
    obtain ⟨hlk, hsk⟩ := hv17
    have hlek := Pn.sum_le Pn.cntSs_app (x.els) k
    have hle2 := Pn.cntS_eq x
    refine Wp.seq ?_
    refine Wp.sr [.n (lenm Pn.encS x.els)] ?_
    refine Wp.cd (decide ((((k : Nat) : Int) : Int) < ((x.els.length : Nat) : Int))) (fun h18 => ?_) (fun h18 => ?_)
    · have h18 := of_decide_eq_true h18
      refine Wp.skip ?_
      refine Wp.seq ?_
      refine Wp.block ?_
      obtain ⟨x21, hx20⟩ : ∃ z0, (x.els)[k]? = some z0 := ⟨_, List.getElem?_eq_getElem (by omega)⟩
      have hR23 : Fine (.ag (Pn.cS x21)) := hF5.row hx20 (Pn.encS_eq x21)
      have hF24 : Fine (.ls none (List.map Pn.encX x21.e.kids)) := hR23.at 18 rfl
      have hF24l := hF24.lenm
      have hF25 : Fine (.ls none (List.map Pn.encX x21.args)) := hR23.at 19 rfl
      have hF25l := hF25.lenm
      have hF26 : Fine (.ls none (List.map Pn.encS x21.body)) := hR23.at 20 rfl
      have hF26l := hF26.lenm
      have hF27 : Fine (.ls none (List.map Pn.encS x21.els)) := hR23.at 21 rfl
      have hF27l := hF27.lenm
      have ht_x21 := Pn.cntSs_next hx20
      have hl_x21 := Pn.sum_le Pn.cntSs_app (x.els) (k + 1)
      refine Wp.rg [.i (Pn.map_to hx20 (Pn.encS_eq x21)), .c (IH x21 (List.mem_append.2 (.inr (List.mem_of_getElem? hx20)))), .z (int_add (x := ((nb : Nat) : Int)) (y := (((Pn.cntS x21) : Nat) : Int)) (z := (((nb + (Pn.cntS x21)) : Nat) : Int)) (by omega) (by omega) (by omega))] ?_
      refine Wp.rg [.z (int_add (x := ((k : Nat) : Int)) (y := 1) (z := (((k + 1) : Nat) : Int)) (by omega) (by omega) (by omega))] ?_
      refine ⟨((k + 1), (nb + (Pn.cntS x21))), .rf, ?_, ?_⟩
      · simp only; omega
      · simp only; omega
    · have h18 := of_decide_eq_false h18
      refine Wp.exit ?_
      refine ⟨rfl, ?_⟩
      refine ⟨rfl, ?_⟩
      refine Wp.sr [] ?_
      refine Wp.ret ?_
      refine fin_r (.sc (.int .i64 ((nb : Nat) : Int))) ?_
      have e1 := Pn.cntS_eq x
      have e2 : k = x.els.length := by omega
      subst e2
      rw [List.take_length] at hsk
      congr 3
      omega

theorem size08 (x : Pn.Sm) (hb : Pn.cntS x ≤ 4611686018427387904) : PCalls Tryz.prog 18 [(.ag (Pn.cS x))] (.sc (.int .i64 ((Pn.cntS x : Nat) : Int))) := by
  have key : ∀ n (x : Pn.Sm), Pn.cntS x ≤ n → n ≤ 4611686018427387904 → PCalls Tryz.prog 18 [(.ag (Pn.cS x))] (.sc (.int .i64 ((Pn.cntS x : Nat) : Int))) := by
    intro n
    induction n with
    | zero => intro x h _; rw [Pn.cntS_eq] at h; omega
    | succ n ih =>
      intro x h hn
      refine size_step x (by omega) fun y hy => ih y ?_ (by omega)
      rw [Pn.cntS_eq] at h
      rcases List.mem_append.1 hy with hy | hy
      · have := Pn.cntS_in hy; omega
      · have := Pn.cntS_in hy; omega
  exact key _ x (Nat.le_refl _) hb
end Go.Proofs.YtjghgpmkepfdhaaGreatDoor
namespace Go.Proofs.YtjghgpmkepfdhaaGreatDoor
open Go.RowKit
set_option linter.unusedVariables false
set_option linter.unusedSimpArgs false
set_option maxRecDepth 100000
set_option maxHeartbeats 4000000
theorem stmts09 (c : Pn.Cl) (hb : Pn.cntMs c.methods ≤ 4611686018427387904) : PCalls Tryz.prog 22 [(.ag (Pn.cCl c))] (.sc (.int .i64 ((Pn.cntMs c.methods : Nat) : Int))) := by
  refine pcalls_fine fun hfa => ?_
  have hR1 := hfa 0 _ rfl
  have hF2 : Fine (.ls none (List.map Pn.encStr c.params)) := hR1.at 1 rfl
  have hF2l := hF2.lenm
  have hF3 : Fine (.ls none (List.map Pn.encOw c.above)) := hR1.at 3 rfl
  have hF3l := hF3.lenm
  have hF4 : Fine (.ls none (List.map Pn.encVr c.fields)) := hR1.at 4 rfl
  have hF4l := hF4.lenm
  have hF5 : Fine (.ls none (List.map Pn.encMe c.methods)) := hR1.at 5 rfl
  have hF5l := hF5.lenm
  refine pcalls_rf mixed Tryz.func22 rfl ?_
  refine Wp.sr [] ?_
  refine Wp.sr [] ?_
  refine Wp.seq ?_
  refine Wp.sr [] ?_
  refine Wp.block ?_
  refine Wp.lp (α := (Nat) × (Nat)) (fun | ⟨j, n⟩ => ⟨mk 37 [(0, (.ag (Pn.cCl c))), (1, (.pt 1 0)), (2, (.sc (.int .i64 0))), (3, (.sc (.int .i64 ((n : Nat) : Int)))), (4, (.sc (.int .i64 ((j : Nat) : Int))))], [(1, (Pn.cCl c))], y0⟩) (fun | ⟨j, n⟩ => j ≤ c.methods.length ∧ n = Pn.cntMs (c.methods.take j)) (fun | ⟨j, n⟩ => c.methods.length - j) (0, 0) ?_ ?_
  · exact ⟨Nat.zero_le _, by simp [Pn.cntMs]⟩
  rintro ⟨j, n⟩ hv6
  obtain ⟨hlj, hsj⟩ := hv6
  have hlej := Pn.sum_le Pn.cntMs_app c.methods j
  refine Wp.seq ?_
  refine Wp.sr [.n (lenm Pn.encMe c.methods)] ?_
  refine Wp.cd (decide ((((j : Nat) : Int) : Int) < ((c.methods.length : Nat) : Int))) (fun h7 => ?_) (fun h7 => ?_)
  · have h7 := of_decide_eq_true h7
    refine Wp.skip ?_
    refine Wp.seq ?_
    refine Wp.block ?_
    refine Wp.sr [] ?_
    refine Wp.block ?_
    obtain ⟨x10, hx9⟩ : ∃ z0, (c.methods)[j]? = some z0 := ⟨_, List.getElem?_eq_getElem (by omega)⟩
    have hR12 : Fine (.ag (Pn.cMe x10)) := hF5.row hx9 rfl
    have hF13 : Fine (.ls none (List.map Pn.encVr x10.params)) := hR12.at 13 rfl
    have hF13l := hF13.lenm
    have hF14 : Fine (.ls none (List.map Pn.encVr x10.locals)) := hR12.at 14 rfl
    have hF14l := hF14.lenm
    have hF15 : Fine (.ls none (List.map Pn.encS x10.body)) := hR12.at 15 rfl
    have hF15l := hF15.lenm
    have htx := Pn.cntMs_next hx9
    have htl := Pn.sum_le Pn.cntMs_app c.methods (j + 1)
    refine Wp.lp (α := (Nat) × (Nat)) (fun | ⟨m, nb⟩ => ⟨mk 37 [(0, (.ag (Pn.cCl c))), (1, (.pt 1 0)), (2, (.sc (.int .i64 0))), (3, (.sc (.int .i64 ((nb : Nat) : Int)))), (4, (.sc (.int .i64 ((j : Nat) : Int)))), (5, (.sc (.int .i64 ((m : Nat) : Int)))), (10, (.sc (.bool (decide ((((j : Nat) : Int) : Int) < ((c.methods.length : Nat) : Int))))))], [(1, (Pn.cCl c))], y0⟩) (fun | ⟨m, nb⟩ => m ≤ x10.body.length ∧ nb = n + Pn.cntSs (x10.body.take m)) (fun | ⟨m, nb⟩ => x10.body.length - m) (0, n) ?_ ?_
    · exact ⟨Nat.zero_le _, by simp [Pn.cntSs]⟩
    rintro ⟨m, nb⟩ hv16
    obtain ⟨hlm, hsm⟩ := hv16
    have hlem := Pn.sum_le Pn.cntSs_app x10.body m
    refine Wp.seq ?_
    refine Wp.sr [.i (map_get Pn.encMe hx9), .n (lenm Pn.encS x10.body)] ?_
    refine Wp.cd (decide ((((m : Nat) : Int) : Int) < ((x10.body.length : Nat) : Int))) (fun h17 => ?_) (fun h17 => ?_)
    · have h17 := of_decide_eq_true h17
      refine Wp.skip ?_
      refine Wp.seq ?_
      refine Wp.block ?_
      obtain ⟨x20, hx19⟩ : ∃ z0, (x10.body)[m]? = some z0 := ⟨_, List.getElem?_eq_getElem (by omega)⟩
      have hR22 : Fine (.ag (Pn.cS x20)) := hF15.row hx19 (Pn.encS_eq x20)
      have hF23 : Fine (.ls none (List.map Pn.encX x20.e.kids)) := hR22.at 18 rfl
      have hF23l := hF23.lenm
      have hF24 : Fine (.ls none (List.map Pn.encX x20.args)) := hR22.at 19 rfl
      have hF24l := hF24.lenm
      have hF25 : Fine (.ls none (List.map Pn.encS x20.body)) := hR22.at 20 rfl
      have hF25l := hF25.lenm
      have hF26 : Fine (.ls none (List.map Pn.encS x20.els)) := hR22.at 21 rfl
      have hF26l := hF26.lenm
      have ht_x20 := Pn.cntSs_next hx19
      have hl_x20 := Pn.sum_le Pn.cntSs_app (x10.body) (m + 1)
      refine Wp.rg [.i (map_get Pn.encMe hx9), .i (Pn.map_to hx19 (Pn.encS_eq x20)), .c (size08 x20 (by omega)), .z (int_add (x := ((nb : Nat) : Int)) (y := (((Pn.cntS x20) : Nat) : Int)) (z := (((nb + (Pn.cntS x20)) : Nat) : Int)) (by omega) (by omega) (by omega))] ?_
      refine Wp.rg [.z (int_add (x := ((m : Nat) : Int)) (y := 1) (z := (((m + 1) : Nat) : Int)) (by omega) (by omega) (by omega))] ?_
      refine ⟨((m + 1), (nb + (Pn.cntS x20))), .rf, ?_, ?_⟩
      · simp only; omega
      · simp only; omega
    · have h17 := of_decide_eq_false h17
      refine Wp.exit ?_
      refine ⟨rfl, ?_⟩
      refine ⟨rfl, ?_⟩
      refine Wp.rg [.z (int_add (x := ((j : Nat) : Int)) (y := 1) (z := (((j + 1) : Nat) : Int)) (by omega) (by omega) (by omega))] ?_
      refine ⟨((j + 1), nb), .rf, ?_, ?_⟩
      · have e2 : m = x10.body.length := (by omega); rw [e2, List.take_length] at hsm; simp only; omega
      · simp only; omega
  · have h7 := of_decide_eq_false h7
    refine Wp.exit ?_
    refine ⟨rfl, ?_⟩
    refine ⟨rfl, ?_⟩
    refine Wp.sr [] ?_
    refine Wp.ret ?_
    refine fin_r (.sc (.int .i64 ((n : Nat) : Int))) ?_
    have e2 : j = c.methods.length := by omega
    subst e2
    rw [List.take_length] at hsj
    rw [hsj]
end Go.Proofs.YtjghgpmkepfdhaaGreatDoor
namespace Go.Proofs.YtjghgpmkepfdhaaGreatDoor
open Go.RowKit
set_option linter.unusedVariables false
set_option linter.unusedSimpArgs false
set_option maxRecDepth 100000
set_option maxHeartbeats 4000000
theorem kidsB_step (x : Pn.Xp) (n : Int) (hn : n ≤ 100) (IH : ∀ y ∈ x.kids, PCalls Tryz.prog 41 [(.ag (Pn.cX y)), (.sc (.int .i64 (n - 1)))] (.sc (.bool (Pn.kidsB y (n - 1))))) : PCalls Tryz.prog 41 [(.ag (Pn.cX x)), (.sc (.int .i64 n))] (.sc (.bool (Pn.kidsB x n))) := by
  refine pcalls_fine fun hfa => ?_
  have hR1 := hfa 0 _ rfl
  have hF2 : Fine (.ls none (List.map Pn.encX x.kids)) := hR1.at 3 rfl
  have hF2l := hF2.lenm
  refine pcalls_rf mixed Tryz.func41 rfl ?_
  refine Wp.sr [] ?_
  refine Wp.seq ?_
  by_cases h3 : (n : Int) < 0
  · skip
    refine Wp.sr [.g (show (decide ((n : Int) < 0)) = true from (by simp [h3]))] ?_
    refine Wp.ct (B := true) rfl ?_
    refine Wp.sr [] ?_
    refine Wp.ret ?_
    refine ⟨rfl, ?_⟩
    refine fin_r (.sc (.bool true)) ?_
    rw [Pn.kidsB_eq]
    simp [h3]
  · skip
    refine Wp.sr [.g (show (decide ((n : Int) < 0)) = false from (by simp [h3])), .n (lenm Pn.encX x.kids)] ?_
    refine Wp.cd (decide ((((x.kids.length : Nat) : Int) : Int) > 4)) (fun h4 => ?_) (fun h4 => ?_)
    · have h4 := of_decide_eq_true h4
      refine Wp.sr [] ?_
      refine Wp.ret ?_
      refine ⟨rfl, ?_⟩
      refine fin_r (.sc (.bool true)) ?_
      rw [Pn.kidsB_eq]
      simp [h3, h4]
    · have h4 := of_decide_eq_false h4
      refine Wp.skip ?_
      refine Wp.seq ?_
      refine Wp.sr [] ?_
      refine Wp.block ?_
      refine Wp.lp (α := (Nat)) (fun | j => ⟨mk 29 [(0, (.ag (Pn.cX x))), (1, (.sc (.int .i64 n))), (2, (.pt 2 0)), (5, (.sc (.int .i64 ((j : Nat) : Int)))), (13, (.sc (.bool (decide ((((x.kids.length : Nat) : Int) : Int) > 4)))))], [(2, (Pn.cX x))], y0⟩) (fun | j => j ≤ x.kids.length ∧ (x.kids.take j).all (fun y => !Pn.kidsB y (n - 1)) = true) (fun | j => x.kids.length - j) 0 ?_ ?_
      · exact ⟨Nat.zero_le _, by simp⟩
      rintro j hv5
      obtain ⟨hlj, htj⟩ := hv5
      refine Wp.seq ?_
      refine Wp.sr [.n (lenm Pn.encX x.kids)] ?_
      refine Wp.cd (decide ((((j : Nat) : Int) : Int) < ((x.kids.length : Nat) : Int))) (fun h6 => ?_) (fun h6 => ?_)
      · have h6 := of_decide_eq_true h6
        refine Wp.skip ?_
        refine Wp.seq ?_
        refine Wp.block ?_
        obtain ⟨x9, hx8⟩ : ∃ z0, (x.kids)[j]? = some z0 := ⟨_, List.getElem?_eq_getElem (by omega)⟩
        have hR11 : Fine (.ag (Pn.cX x9)) := hF2.row hx8 (Pn.encX_eq x9)
        have hF12 : Fine (.ls none (List.map Pn.encX x9.kids)) := hR11.at 3 rfl
        have hF12l := hF12.lenm
        refine Wp.sr [.i (Pn.map_to hx8 (Pn.encX_eq x9)), .z (int_sub (x := n) (y := 1) (z := (n - 1)) (by omega) (by omega) (by omega)), .c (IH x9 (List.mem_of_getElem? hx8))] ?_
        refine Wp.cd (Pn.kidsB x9 (n - 1)) (fun h13 => ?_) (fun h13 => ?_)
        · skip
          refine Wp.sr [] ?_
          refine Wp.ret ?_
          refine ⟨rfl, ?_⟩
          refine ⟨rfl, ?_⟩
          refine ⟨rfl, ?_⟩
          refine fin_r (.sc (.bool true)) ?_
          rw [Pn.kidsB_eq]
          rw [Pn.all_false hx8 (by simp [h3, h4, h6, h13])]
          simp
        · have h13 := Bool.eq_false_iff.1 h13
          refine Wp.skip ?_
          refine Wp.rg [.z (int_add (x := ((j : Nat) : Int)) (y := 1) (z := (((j + 1) : Nat) : Int)) (by omega) (by omega) (by omega))] ?_
          refine ⟨(j + 1), .rf, ?_, ?_⟩
          · exact ⟨Pn.len_lt hx8, Pn.all_next hx8 htj (by simp [h3, h4, h6, h13])⟩
          · simp only; omega
      · have h6 := of_decide_eq_false h6
        refine Wp.exit ?_
        refine ⟨rfl, ?_⟩
        refine ⟨rfl, ?_⟩
        refine Wp.sr [] ?_
        refine Wp.ret ?_
        refine fin_r (.sc (.bool false)) ?_
        rw [Pn.kidsB_eq]
        rw [Pn.all_end htj (by assumption)]
        simp [h3, h4, h6]

theorem kids10 (x : Pn.Xp) (k : Int) (hk : k ≤ 100) : PCalls Tryz.prog 41 [(.ag (Pn.cX x)), (.sc (.int .i64 k))] (.sc (.bool (Pn.kidsB x k))) := by
  have key : ∀ n (x : Pn.Xp) (k : Int), Pn.cntX x ≤ n → k ≤ 100 → PCalls Tryz.prog 41 [(.ag (Pn.cX x)), (.sc (.int .i64 k))] (.sc (.bool (Pn.kidsB x k))) := by
    intro n
    induction n with
    | zero => intro x k h; rw [Pn.cntX_eq] at h; omega
    | succ n ih =>
      intro x k h hk
      refine kidsB_step x k hk fun y hy => ih y _ ?_ (by omega)
      rw [Pn.cntX_eq] at h
      have := Pn.cntX_kid hy
      omega
  exact key _ x k (Nat.le_refl _) hk

theorem hole10 (t : Pn.Ty) : PCalls Tryz.prog 24 [(.ag (Pn.cTy t))] (.sc (.int .i64 ((Pn.holeT t : Nat) : Int))) := by
  refine pcalls_rf mixed Tryz.func24 rfl ?_
  refine Wp.sr [] ?_
  refine Wp.seq ?_
  by_cases h1 : (t.kind : Int) = 2
  · skip
    refine Wp.sr [.g (show (decide ((t.kind : Int) = 2)) = true from (by simp [h1]))] ?_
    refine Wp.cd (decide ((t.o0.kind : Int) = 7)) (fun h2 => ?_) (fun h2 => ?_)
    · have h2 := of_decide_eq_true h2
      refine Wp.sr [] ?_
      refine Wp.ret ?_
      refine ⟨rfl, ?_⟩
      refine fin_r (.sc (.int .i64 1)) ?_
      unfold Pn.holeT
      simp [h1, h2]
    · have h2 := of_decide_eq_false h2
      refine Wp.skip ?_
      refine Wp.sr [] ?_
      refine Wp.ret ?_
      refine fin_r (.sc (.int .i64 0)) ?_
      unfold Pn.holeT
      simp [h1, h2]
  · skip
    refine Wp.sr [.g (show (decide ((t.kind : Int) = 2)) = false from (by simp [h1]))] ?_
    refine Wp.cf (B := false) rfl ?_
    refine Wp.skip ?_
    refine Wp.sr [] ?_
    refine Wp.ret ?_
    refine fin_r (.sc (.int .i64 0)) ?_
    unfold Pn.holeT
    simp [h1]
end Go.Proofs.YtjghgpmkepfdhaaGreatDoor
namespace Go.Proofs.YtjghgpmkepfdhaaGreatDoor
open Go.RowKit
set_option linter.unusedVariables false
set_option linter.unusedSimpArgs false
set_option maxRecDepth 100000
set_option maxHeartbeats 4000000
theorem holes10 (l : List Pn.Vr) (hb : l.length ≤ 4611686018427387904) : PCalls Tryz.prog 23 [(.ls none (List.map Pn.encVr l))] (.sc (.int .i64 ((Pn.holesV l : Nat) : Int))) := by
  refine pcalls_fine fun hfa => ?_
  have hF1 := hfa 0 _ rfl
  have hF1l := hF1.lenm
  refine pcalls_rf mixed Tryz.func23 rfl ?_
  refine Wp.sr [] ?_
  refine Wp.sr [] ?_
  refine Wp.seq ?_
  refine Wp.sr [] ?_
  refine Wp.block ?_
  refine Wp.lp (α := (Nat) × (Nat)) (fun | ⟨j, n⟩ => ⟨mk 20 [(0, (.ls none (List.map Pn.encVr l))), (2, (.sc (.int .i64 0))), (3, (.sc (.int .i64 ((n : Nat) : Int)))), (4, (.sc (.int .i64 ((j : Nat) : Int))))], [], y0⟩) (fun | ⟨j, n⟩ => j ≤ l.length ∧ n = 0 + Pn.holesV (l.take j)) (fun | ⟨j, n⟩ => l.length - j) (0, 0) ?_ ?_
  · exact ⟨Nat.zero_le _, by simp [Pn.holesV]⟩
  rintro ⟨j, n⟩ hv2
  obtain ⟨hlj, hsj⟩ := hv2
  have hc := Pn.holesV_le (l.take j)
  have hd : (l.take j).length ≤ j := List.length_take_le ..
  refine Wp.seq ?_
  refine Wp.sr [.n (lenm Pn.encVr l)] ?_
  refine Wp.cd (decide ((((j : Nat) : Int) : Int) < ((l.length : Nat) : Int))) (fun h3 => ?_) (fun h3 => ?_)
  · have h3 := of_decide_eq_true h3
    refine Wp.skip ?_
    refine Wp.seq ?_
    refine Wp.block ?_
    obtain ⟨x6, hx5⟩ : ∃ z0, (l)[j]? = some z0 := ⟨_, List.getElem?_eq_getElem (by omega)⟩
    have ht_x6 := Pn.holesV_next hx5
    have hl_x6 := Pn.sum_le Pn.holesV_app l (j + 1)
    have hz := Pn.holesV_le l
    refine Wp.rg [.i (map_get Pn.encVr hx5), .c (hole10 x6.type), .z (int_add (x := ((n : Nat) : Int)) (y := (((Pn.holeT x6.type) : Nat) : Int)) (z := (((n + (Pn.holeT x6.type)) : Nat) : Int)) (by omega) (by omega) (by omega))] ?_
    refine Wp.rg [.z (int_add (x := ((j : Nat) : Int)) (y := 1) (z := (((j + 1) : Nat) : Int)) (by omega) (by omega) (by omega))] ?_
    refine ⟨((j + 1), (n + (Pn.holeT x6.type))), .rf, ?_, ?_⟩
    · exact ⟨Pn.len_lt hx5, by rw [Pn.holesV_next hx5, hsj]; omega⟩
    · simp only; omega
  · have h3 := of_decide_eq_false h3
    refine Wp.exit ?_
    refine ⟨rfl, ?_⟩
    refine ⟨rfl, ?_⟩
    refine Wp.sr [] ?_
    refine Wp.ret ?_
    refine fin_r (.sc (.int .i64 ((n : Nat) : Int))) ?_
    have e2 : j = l.length := by omega
    subst e2
    rw [List.take_length] at hsj
    congr 3
    omega
end Go.Proofs.YtjghgpmkepfdhaaGreatDoor
namespace Go.Proofs.YtjghgpmkepfdhaaGreatDoor
open Go.RowKit
set_option linter.unusedVariables false
set_option linter.unusedSimpArgs false
set_option maxRecDepth 100000
set_option maxHeartbeats 4000000
theorem inner_step (a : List Pn.Sm) (hb : Pn.cntSs a ≤ 4611686018427387904) (IH : ∀ x ∈ a, ∀ l, (l = x.body ∨ l = x.els) → PCalls Tryz.prog 25 [(.ls none (List.map Pn.encS l))] (.sc (.int .i64 ((Pn.innerL l : Nat) : Int)))) : PCalls Tryz.prog 25 [(.ls none (List.map Pn.encS a))] (.sc (.int .i64 ((Pn.innerL a : Nat) : Int))) := by
  refine pcalls_fine fun hfa => ?_
  have hF1 := hfa 0 _ rfl
  have hF1l := hF1.lenm
  refine pcalls_rf mixed Tryz.func25 rfl ?_
  refine Wp.sr [] ?_
  refine Wp.sr [] ?_
  refine Wp.seq ?_
  refine Wp.sr [] ?_
  refine Wp.block ?_
  refine Wp.lp (α := (Nat) × (Nat)) (fun | ⟨j, n⟩ => ⟨mk 34 [(0, (.ls none (List.map Pn.encS a))), (2, (.sc (.int .i64 0))), (3, (.sc (.int .i64 ((n : Nat) : Int)))), (4, (.sc (.int .i64 ((j : Nat) : Int))))], [], y0⟩) (fun | ⟨j, n⟩ => j ≤ a.length ∧ n = 0 + Pn.innerL (a.take j)) (fun | ⟨j, n⟩ => a.length - j) (0, 0) ?_ ?_
  · exact ⟨Nat.zero_le _, by simp [Pn.innerL]⟩
  rintro ⟨j, n⟩ hv2
  obtain ⟨hlj, hsj⟩ := hv2
  refine Wp.seq ?_
  refine Wp.sr [.n (lenm Pn.encS a)] ?_
  refine Wp.cd (decide ((((j : Nat) : Int) : Int) < ((a.length : Nat) : Int))) (fun h3 => ?_) (fun h3 => ?_)
  · have h3 := of_decide_eq_true h3
    refine Wp.skip ?_
    refine Wp.seq ?_
    refine Wp.block ?_
    obtain ⟨x6, hx5⟩ : ∃ z0, (a)[j]? = some z0 := ⟨_, List.getElem?_eq_getElem (by omega)⟩
    have hR8 : Fine (.ag (Pn.cS x6)) := hF1.row hx5 (Pn.encS_eq x6)
    have hF9 : Fine (.ls none (List.map Pn.encX x6.e.kids)) := hR8.at 18 rfl
    have hF9l := hF9.lenm
    have hF10 : Fine (.ls none (List.map Pn.encX x6.args)) := hR8.at 19 rfl
    have hF10l := hF10.lenm
    have hF11 : Fine (.ls none (List.map Pn.encS x6.body)) := hR8.at 20 rfl
    have hF11l := hF11.lenm
    have hF12 : Fine (.ls none (List.map Pn.encS x6.els)) := hR8.at 21 rfl
    have hF12l := hF12.lenm
    have ht_x6 := Pn.innerL_next hx5
    have hl_x6 := Pn.sum_le Pn.innerL_app a (j + 1)
    have hz_x6 := Pn.innerL_le a
    have he_x6 := Pn.innerS_eq x6
    refine Wp.rg [.i (Pn.map_to hx5 (Pn.encS_eq x6)), .c (hole10 x6.type), .i (Pn.map_to hx5 (Pn.encS_eq x6)), .c (IH x6 (List.mem_of_getElem? hx5) x6.body (.inl rfl)), .z (int_add (x := (((Pn.holeT x6.type) : Nat) : Int)) (y := (((Pn.innerL x6.body) : Nat) : Int)) (z := ((((Pn.holeT x6.type) + (Pn.innerL x6.body)) : Nat) : Int)) (by omega) (by omega) (by omega)), .i (Pn.map_to hx5 (Pn.encS_eq x6)), .c (IH x6 (List.mem_of_getElem? hx5) x6.els (.inr rfl)), .z (int_add (x := ((((Pn.holeT x6.type) + (Pn.innerL x6.body)) : Nat) : Int)) (y := (((Pn.innerL x6.els) : Nat) : Int)) (z := (((((Pn.holeT x6.type) + (Pn.innerL x6.body)) + (Pn.innerL x6.els)) : Nat) : Int)) (by omega) (by omega) (by omega)), .z (int_add (x := ((n : Nat) : Int)) (y := (((((Pn.holeT x6.type) + (Pn.innerL x6.body)) + (Pn.innerL x6.els)) : Nat) : Int)) (z := (((n + (((Pn.holeT x6.type) + (Pn.innerL x6.body)) + (Pn.innerL x6.els))) : Nat) : Int)) (by omega) (by omega) (by omega))] ?_
    refine Wp.rg [.z (int_add (x := ((j : Nat) : Int)) (y := 1) (z := (((j + 1) : Nat) : Int)) (by omega) (by omega) (by omega))] ?_
    refine ⟨((j + 1), (n + (((Pn.holeT x6.type) + (Pn.innerL x6.body)) + (Pn.innerL x6.els)))), .rf, ?_, ?_⟩
    · simp only; omega
    · simp only; omega
  · have h3 := of_decide_eq_false h3
    refine Wp.exit ?_
    refine ⟨rfl, ?_⟩
    refine ⟨rfl, ?_⟩
    refine Wp.sr [] ?_
    refine Wp.ret ?_
    refine fin_r (.sc (.int .i64 ((n : Nat) : Int))) ?_
    have e2 : j = a.length := by omega
    subst e2
    rw [List.take_length] at hsj
    congr 3
    omega

theorem inner10 (a : List Pn.Sm) (hb : Pn.cntSs a ≤ 4611686018427387904) : PCalls Tryz.prog 25 [(.ls none (List.map Pn.encS a))] (.sc (.int .i64 ((Pn.innerL a : Nat) : Int))) := by
  have key : ∀ n (a : List Pn.Sm), Pn.cntSs a ≤ n → n ≤ 4611686018427387904 → PCalls Tryz.prog 25 [(.ls none (List.map Pn.encS a))] (.sc (.int .i64 ((Pn.innerL a : Nat) : Int))) := by
    intro n
    induction n with
    | zero =>
      intro a h _
      refine inner_step a (by omega) fun x hx => ?_
      have h1 := Pn.cntS_in hx
      rw [Pn.cntS_eq] at h1
      omega
    | succ n ih =>
      intro a h hn
      refine inner_step a (by omega) fun x hx l hl => ih l ?_ (by omega)
      have h1 := Pn.cntS_in hx
      rw [Pn.cntS_eq] at h1
      rcases hl with rfl | rfl <;> omega
  exact key _ a (Nat.le_refl _) hb
end Go.Proofs.YtjghgpmkepfdhaaGreatDoor
namespace Go.Proofs.YtjghgpmkepfdhaaGreatDoor
open Go.RowKit
set_option linter.unusedVariables false
set_option linter.unusedSimpArgs false
set_option maxRecDepth 100000
set_option maxHeartbeats 4000000
theorem deepX_step (x : Pn.Xp) (hb : Pn.cntX x ≤ 4611686018427387904) (IH : ∀ y ∈ x.kids, PCalls Tryz.prog 181 [(.ag (Pn.cX y))] (.sc (.int .i64 ((Pn.deepX y : Nat) : Int)))) : PCalls Tryz.prog 181 [(.ag (Pn.cX x))] (.sc (.int .i64 ((Pn.deepX x : Nat) : Int))) := by
  refine pcalls_fine fun hfa => ?_
  have hR1 := hfa 0 _ rfl
  have hF2 : Fine (.ls none (List.map Pn.encX x.kids)) := hR1.at 3 rfl
  have hF2l := hF2.lenm
  refine pcalls_rf mixed Tryz.func181 rfl ?_
  refine Wp.sr [] ?_
  refine Wp.sr [] ?_
  refine Wp.seq ?_
  refine Wp.sr [] ?_
  refine Wp.block ?_
  refine Wp.lp (α := (Nat) × (Nat)) (fun | ⟨j, n⟩ => ⟨mk 22 [(0, (.ag (Pn.cX x))), (1, (.pt 1 0)), (2, (.sc (.int .i64 0))), (3, (.sc (.int .i64 ((n : Nat) : Int)))), (4, (.sc (.int .i64 ((j : Nat) : Int))))], [(1, (Pn.cX x))], y0⟩) (fun | ⟨j, n⟩ => j ≤ x.kids.length ∧ n = Pn.deepXs (x.kids.take j)) (fun | ⟨j, n⟩ => x.kids.length - j) (0, 0) ?_ ?_
  · exact ⟨Nat.zero_le _, by simp [Pn.deepXs]⟩
  rintro ⟨j, n⟩ hv3
  obtain ⟨hlj, hsj⟩ := hv3
  have hc := Pn.deepXs_le (x.kids.take j)
  have hd := Pn.sum_le Pn.cntXs_app x.kids j
  have he := Pn.cntX_eq x
  refine Wp.seq ?_
  refine Wp.sr [.n (lenm Pn.encX x.kids)] ?_
  refine Wp.cd (decide ((((j : Nat) : Int) : Int) < ((x.kids.length : Nat) : Int))) (fun h4 => ?_) (fun h4 => ?_)
  · have h4 := of_decide_eq_true h4
    refine Wp.skip ?_
    refine Wp.seq ?_
    refine Wp.block ?_
    obtain ⟨x7, hx6⟩ : ∃ z0, (x.kids)[j]? = some z0 := ⟨_, List.getElem?_eq_getElem (by omega)⟩
    have hR9 : Fine (.ag (Pn.cX x7)) := hF2.row hx6 (Pn.encX_eq x7)
    have hF10 : Fine (.ls none (List.map Pn.encX x7.kids)) := hR9.at 3 rfl
    have hF10l := hF10.lenm
    refine Wp.rg [.i (Pn.map_to hx6 (Pn.encX_eq x7)), .c (IH x7 (List.mem_of_getElem? hx6)), .m (show (if (((Pn.deepX x7) : Nat) : Int) > ((n : Nat) : Int) then (((Pn.deepX x7) : Nat) : Int) else ((n : Nat) : Int)) = (((max n (Pn.deepX x7)) : Nat) : Int) by split <;> omega)] ?_
    refine Wp.rg [.z (int_add (x := ((j : Nat) : Int)) (y := 1) (z := (((j + 1) : Nat) : Int)) (by omega) (by omega) (by omega))] ?_
    refine ⟨((j + 1), (max n (Pn.deepX x7))), .rf, ?_, ?_⟩
    · exact ⟨Pn.len_lt hx6, by rw [Pn.deepXs_next hx6, hsj]⟩
    · simp only; omega
  · have h4 := of_decide_eq_false h4
    refine Wp.exit ?_
    refine ⟨rfl, ?_⟩
    refine ⟨rfl, ?_⟩
    refine Wp.sr [.z (int_add (x := ((n : Nat) : Int)) (y := 1) (z := (((n + 1) : Nat) : Int)) (by omega) (by omega) (by omega))] ?_
    refine Wp.ret ?_
    refine fin_r (.sc (.int .i64 (((n + 1) : Nat) : Int))) ?_
    have e2 : j = x.kids.length := by omega
    subst e2
    rw [List.take_length] at hsj
    rw [hsj, Pn.deepX_eq]

theorem deep06 (x : Pn.Xp) (hb : Pn.cntX x ≤ 4611686018427387904) : PCalls Tryz.prog 181 [(.ag (Pn.cX x))] (.sc (.int .i64 ((Pn.deepX x : Nat) : Int))) := by
  have key : ∀ n (x : Pn.Xp), Pn.cntX x ≤ n → n ≤ 4611686018427387904 → PCalls Tryz.prog 181 [(.ag (Pn.cX x))] (.sc (.int .i64 ((Pn.deepX x : Nat) : Int))) := by
    intro n
    induction n with
    | zero => intro x h _; rw [Pn.cntX_eq] at h; omega
    | succ n ih =>
      intro x h hn
      refine deepX_step x (by omega) fun y hy => ih y ?_ (by omega)
      rw [Pn.cntX_eq] at h
      have := Pn.cntX_kid hy
      omega
  exact key _ x (Nat.le_refl _) hb

theorem kids06 (k : Int) : PCalls Tryz.prog 187 [(.sc (.int .i64 k))] (.sc (.int .i64 (Pn.kidsN k))) := by
  refine pcalls_rf mixed Tryz.func187 rfl ?_
  refine Wp.sr [] ?_
  refine Wp.seq ?_
  by_cases h1 : (k : Int) ≥ 6
  · skip
    by_cases h2 : (k : Int) ≤ 11
    · skip
      refine Wp.sr [.g (show (decide ((k : Int) ≥ 6)) = true from (by simp [h1])), .g (show (decide ((k : Int) ≤ 11)) = true from (by simp [h2]))] ?_
      refine Wp.ct (B := true) rfl ?_
      refine Wp.sr [] ?_
      refine Wp.ret ?_
      refine ⟨rfl, ?_⟩
      refine fin_r (.sc (.int .i64 2)) ?_
      congr 2
      unfold Pn.kidsN
      simp [h1, h2]
    · skip
      refine Wp.sr [.g (show (decide ((k : Int) ≥ 6)) = true from (by simp [h1])), .g (show (decide ((k : Int) ≤ 11)) = false from (by simp [h2]))] ?_
      refine Wp.cd (decide ((k : Int) = 14)) (fun h3 => ?_) (fun h3 => ?_)
      · have h3 := of_decide_eq_true h3
        refine Wp.sr [] ?_
        refine Wp.ret ?_
        refine ⟨rfl, ?_⟩
        refine fin_r (.sc (.int .i64 2)) ?_
        congr 2
        unfold Pn.kidsN
        simp [h1, h2, h3]
      · have h3 := of_decide_eq_false h3
        refine Wp.skip ?_
        refine Wp.seq ?_
        by_cases h4 : (k : Int) = 12
        · skip
          refine Wp.sr [.g (show (decide ((k : Int) = 12)) = true from (by simp [h4]))] ?_
          refine Wp.ct (B := true) rfl ?_
          refine Wp.sr [] ?_
          refine Wp.ret ?_
          refine ⟨rfl, ?_⟩
          refine fin_r (.sc (.int .i64 1)) ?_
          congr 2
          unfold Pn.kidsN
          simp [h1, h2, h3, h4]
        · skip
          refine Wp.sr [.g (show (decide ((k : Int) = 12)) = false from (by simp [h4]))] ?_
          refine Wp.cd (decide ((k : Int) = 13)) (fun h5 => ?_) (fun h5 => ?_)
          · have h5 := of_decide_eq_true h5
            refine Wp.sr [] ?_
            refine Wp.ret ?_
            refine ⟨rfl, ?_⟩
            refine fin_r (.sc (.int .i64 1)) ?_
            congr 2
            unfold Pn.kidsN
            simp [h1, h2, h3, h4, h5]
          · have h5 := of_decide_eq_false h5
            refine Wp.skip ?_
            refine Wp.sr [] ?_
            refine Wp.ret ?_
            refine fin_r (.sc (.int .i64 0)) ?_
            congr 2
            unfold Pn.kidsN
            simp [h1, h2, h3, h4, h5]
  · skip
    refine Wp.sr [.g (show (decide ((k : Int) ≥ 6)) = false from (by simp [h1])), .g gF] ?_
    refine Wp.cd (decide ((k : Int) = 14)) (fun h6 => ?_) (fun h6 => ?_)
    · have h6 := of_decide_eq_true h6
      refine Wp.sr [] ?_
      refine Wp.ret ?_
      refine ⟨rfl, ?_⟩
      refine fin_r (.sc (.int .i64 2)) ?_
      congr 2
      unfold Pn.kidsN
      simp [h1, h6]
    · have h6 := of_decide_eq_false h6
      refine Wp.skip ?_
      refine Wp.seq ?_
      by_cases h7 : (k : Int) = 12
      · skip
        refine Wp.sr [.g (show (decide ((k : Int) = 12)) = true from (by simp [h7]))] ?_
        refine Wp.ct (B := true) rfl ?_
        refine Wp.sr [] ?_
        refine Wp.ret ?_
        refine ⟨rfl, ?_⟩
        refine fin_r (.sc (.int .i64 1)) ?_
        congr 2
        unfold Pn.kidsN
        simp [h1, h6, h7]
      · skip
        refine Wp.sr [.g (show (decide ((k : Int) = 12)) = false from (by simp [h7]))] ?_
        refine Wp.cd (decide ((k : Int) = 13)) (fun h8 => ?_) (fun h8 => ?_)
        · have h8 := of_decide_eq_true h8
          refine Wp.sr [] ?_
          refine Wp.ret ?_
          refine ⟨rfl, ?_⟩
          refine fin_r (.sc (.int .i64 1)) ?_
          congr 2
          unfold Pn.kidsN
          simp [h1, h6, h7, h8]
        · have h8 := of_decide_eq_false h8
          refine Wp.skip ?_
          refine Wp.sr [] ?_
          refine Wp.ret ?_
          refine fin_r (.sc (.int .i64 0)) ?_
          congr 2
          unfold Pn.kidsN
          simp [h1, h6, h7, h8]
end Go.Proofs.YtjghgpmkepfdhaaGreatDoor
namespace Go.Proofs.YtjghgpmkepfdhaaGreatDoor
open Go.RowKit
set_option linter.unusedVariables false
set_option linter.unusedSimpArgs false
set_option maxRecDepth 100000
set_option maxHeartbeats 4000000
theorem deepS_step (x : Pn.Sm) (hb : Pn.cntS x ≤ 4611686018427387904) (IH : ∀ y ∈ x.body ++ x.els, PCalls Tryz.prog 26 [(.ag (Pn.cS y))] (.sc (.int .i64 ((Pn.deepS y : Nat) : Int)))) : PCalls Tryz.prog 26 [(.ag (Pn.cS x))] (.sc (.int .i64 ((Pn.deepS x : Nat) : Int))) := by
  refine pcalls_fine fun hfa => ?_
  have hR1 := hfa 0 _ rfl
  have hF2 : Fine (.ls none (List.map Pn.encX x.e.kids)) := hR1.at 18 rfl
  have hF2l := hF2.lenm
  have hF3 : Fine (.ls none (List.map Pn.encX x.args)) := hR1.at 19 rfl
  have hF3l := hF3.lenm
  have hF4 : Fine (.ls none (List.map Pn.encS x.body)) := hR1.at 20 rfl
  have hF4l := hF4.lenm
  have hF5 : Fine (.ls none (List.map Pn.encS x.els)) := hR1.at 21 rfl
  have hF5l := hF5.lenm
  refine pcalls_rf mixed Tryz.func26 rfl ?_
  refine Wp.sr [] ?_
  refine Wp.sr [] ?_
  refine Wp.seq ?_
  refine Wp.sr [] ?_
  refine Wp.block ?_
  refine Wp.lp (α := (Nat) × (Nat)) (fun | ⟨j, n⟩ => ⟨mk 38 [(0, (.ag (Pn.cS x))), (1, (.pt 1 0)), (2, (.sc (.int .i64 0))), (3, (.sc (.int .i64 ((n : Nat) : Int)))), (4, (.sc (.int .i64 ((j : Nat) : Int))))], [(1, (Pn.cS x))], y0⟩) (fun | ⟨j, n⟩ => j ≤ x.body.length ∧ n = max 0 (Pn.deepSs (x.body.take j))) (fun | ⟨j, n⟩ => x.body.length - j) (0, 0) ?_ ?_
  · exact ⟨Nat.zero_le _, by simp [Pn.deepSs]⟩
  rintro ⟨j, n⟩ hv6
  obtain ⟨hlj, hsj⟩ := hv6
  have hcj := Pn.deepSs_le (x.body.take j)
  have hdj := Pn.sum_le Pn.cntSs_app x.body j
  have hej := Pn.cntS_eq x
  refine Wp.seq ?_
  refine Wp.sr [.n (lenm Pn.encS x.body)] ?_
  refine Wp.cd (decide ((((j : Nat) : Int) : Int) < ((x.body.length : Nat) : Int))) (fun h7 => ?_) (fun h7 => ?_)
  · have h7 := of_decide_eq_true h7
    refine Wp.skip ?_
    refine Wp.seq ?_
    refine Wp.block ?_
    obtain ⟨x10, hx9⟩ : ∃ z0, (x.body)[j]? = some z0 := ⟨_, List.getElem?_eq_getElem (by omega)⟩
    have hR12 : Fine (.ag (Pn.cS x10)) := hF4.row hx9 (Pn.encS_eq x10)
    have hF13 : Fine (.ls none (List.map Pn.encX x10.e.kids)) := hR12.at 18 rfl
    have hF13l := hF13.lenm
    have hF14 : Fine (.ls none (List.map Pn.encX x10.args)) := hR12.at 19 rfl
    have hF14l := hF14.lenm
    have hF15 : Fine (.ls none (List.map Pn.encS x10.body)) := hR12.at 20 rfl
    have hF15l := hF15.lenm
    have hF16 : Fine (.ls none (List.map Pn.encS x10.els)) := hR12.at 21 rfl
    have hF16l := hF16.lenm
    refine Wp.rg [.i (Pn.map_to hx9 (Pn.encS_eq x10)), .c (IH x10 (List.mem_append.2 (.inl (List.mem_of_getElem? hx9)))), .m (show (if (((Pn.deepS x10) : Nat) : Int) > ((n : Nat) : Int) then (((Pn.deepS x10) : Nat) : Int) else ((n : Nat) : Int)) = (((max n (Pn.deepS x10)) : Nat) : Int) by split <;> omega)] ?_
    refine Wp.rg [.z (int_add (x := ((j : Nat) : Int)) (y := 1) (z := (((j + 1) : Nat) : Int)) (by omega) (by omega) (by omega))] ?_
    refine ⟨((j + 1), (max n (Pn.deepS x10))), .rf, ?_, ?_⟩
    · exact ⟨Pn.len_lt hx9, by rw [Pn.deepSs_next hx9, hsj]; omega⟩
    · simp only; omega
  · have h7 := of_decide_eq_false h7
    refine Wp.exit ?_
    refine ⟨rfl, ?_⟩
    refine ⟨rfl, ?_⟩
    refine Wp.seq ?_
    refine Wp.sr [] ?_
    refine Wp.block ?_
    refine Wp.lp (α := (Nat) × (Nat)) (fun | ⟨k, nb⟩ => ⟨mk 38 [(0, (.ag (Pn.cS x))), (1, (.pt 1 0)), (2, (.sc (.int .i64 0))), (3, (.sc (.int .i64 ((nb : Nat) : Int)))), (4, (.sc (.int .i64 ((j : Nat) : Int)))), (5, (.sc (.int .i64 ((k : Nat) : Int)))), (10, (.sc (.bool (decide ((((j : Nat) : Int) : Int) < ((x.body.length : Nat) : Int))))))], [(1, (Pn.cS x))], y0⟩) (fun | ⟨k, nb⟩ => k ≤ x.els.length ∧ nb = max (Pn.deepSs x.body) (Pn.deepSs (x.els.take k))) (fun | ⟨k, nb⟩ => x.els.length - k) (0, n) ?_ ?_
    · have e2 : j = x.body.length := by omega
      subst e2
      rw [List.take_length] at hsj
      exact ⟨Nat.zero_le _, by simp [Pn.deepSs]; omega⟩
    rintro ⟨k, nb⟩ hv17
    obtain ⟨hlk, hsk⟩ := hv17
    have hck := Pn.deepSs_le (x.els.take k)
    have hdk := Pn.sum_le Pn.cntSs_app x.els k
    have hek := Pn.cntS_eq x
    have hf := Pn.deepSs_le x.body
    refine Wp.seq ?_
    refine Wp.sr [.n (lenm Pn.encS x.els)] ?_
    refine Wp.cd (decide ((((k : Nat) : Int) : Int) < ((x.els.length : Nat) : Int))) (fun h18 => ?_) (fun h18 => ?_)
    · have h18 := of_decide_eq_true h18
      refine Wp.skip ?_
      refine Wp.seq ?_
      refine Wp.block ?_
      obtain ⟨x21, hx20⟩ : ∃ z0, (x.els)[k]? = some z0 := ⟨_, List.getElem?_eq_getElem (by omega)⟩
      have hR23 : Fine (.ag (Pn.cS x21)) := hF5.row hx20 (Pn.encS_eq x21)
      have hF24 : Fine (.ls none (List.map Pn.encX x21.e.kids)) := hR23.at 18 rfl
      have hF24l := hF24.lenm
      have hF25 : Fine (.ls none (List.map Pn.encX x21.args)) := hR23.at 19 rfl
      have hF25l := hF25.lenm
      have hF26 : Fine (.ls none (List.map Pn.encS x21.body)) := hR23.at 20 rfl
      have hF26l := hF26.lenm
      have hF27 : Fine (.ls none (List.map Pn.encS x21.els)) := hR23.at 21 rfl
      have hF27l := hF27.lenm
      refine Wp.rg [.i (Pn.map_to hx20 (Pn.encS_eq x21)), .c (IH x21 (List.mem_append.2 (.inr (List.mem_of_getElem? hx20)))), .m (show (if (((Pn.deepS x21) : Nat) : Int) > ((nb : Nat) : Int) then (((Pn.deepS x21) : Nat) : Int) else ((nb : Nat) : Int)) = (((max nb (Pn.deepS x21)) : Nat) : Int) by split <;> omega)] ?_
      refine Wp.rg [.z (int_add (x := ((k : Nat) : Int)) (y := 1) (z := (((k + 1) : Nat) : Int)) (by omega) (by omega) (by omega))] ?_
      refine ⟨((k + 1), (max nb (Pn.deepS x21))), .rf, ?_, ?_⟩
      · exact ⟨Pn.len_lt hx20, by rw [Pn.deepSs_next hx20, hsk]; omega⟩
      · simp only; omega
    · have h18 := of_decide_eq_false h18
      refine Wp.exit ?_
      refine ⟨rfl, ?_⟩
      refine ⟨rfl, ?_⟩
      refine Wp.sr [.z (int_add (x := ((nb : Nat) : Int)) (y := 1) (z := (((nb + 1) : Nat) : Int)) (by omega) (by omega) (by omega))] ?_
      refine Wp.ret ?_
      refine fin_r (.sc (.int .i64 (((nb + 1) : Nat) : Int))) ?_
      have e1 := Pn.deepS_eq x
      have e2 : k = x.els.length := by omega
      subst e2
      rw [List.take_length] at hsk
      congr 3
      omega

theorem deep08 (x : Pn.Sm) (hb : Pn.cntS x ≤ 4611686018427387904) : PCalls Tryz.prog 26 [(.ag (Pn.cS x))] (.sc (.int .i64 ((Pn.deepS x : Nat) : Int))) := by
  have key : ∀ n (x : Pn.Sm), Pn.cntS x ≤ n → n ≤ 4611686018427387904 → PCalls Tryz.prog 26 [(.ag (Pn.cS x))] (.sc (.int .i64 ((Pn.deepS x : Nat) : Int))) := by
    intro n
    induction n with
    | zero => intro x h _; rw [Pn.cntS_eq] at h; omega
    | succ n ih =>
      intro x h hn
      refine deepS_step x (by omega) fun y hy => ih y ?_ (by omega)
      rw [Pn.cntS_eq] at h
      rcases List.mem_append.1 hy with hy | hy
      · have := Pn.cntS_in hy; omega
      · have := Pn.cntS_in hy; omega
  exact key _ x (Nat.le_refl _) hb
end Go.Proofs.YtjghgpmkepfdhaaGreatDoor
namespace Go.Proofs.YtjghgpmkepfdhaaGreatDoor
open Go.RowKit
set_option linter.unusedVariables false
set_option linter.unusedSimpArgs false
set_option maxRecDepth 100000
set_option maxHeartbeats 4000000
theorem of10 (p : List Pn.Cl) (hb : (Pn.tyP p).length ≤ 4611686018427387904) : PCalls Tryz.prog 9 [(.ls none (List.map Pn.encCl p))] (.ag [(.sc (.int .i64 ((p.length : Nat) : Int))), (.sc (.int .i64 (((Pn.fldP p) : Nat) : Int))), (.sc (.int .i64 (((Pn.mthP p) : Nat) : Int))), (.sc (.int .i64 (((Pn.vrP p) : Nat) : Int))), (.sc (.int .i64 (((Pn.cntPs p) : Nat) : Int))), (.sc (.int .i64 (((Pn.dpP p) : Nat) : Int))), (.sc (.int .i64 (((Pn.hlP p) : Nat) : Int)))]) := by
  have hT := Pn.tyP_len p
  have hH := Pn.hlP_le p
  refine pcalls_fine fun hfa => ?_
  have hF1 := hfa 0 _ rfl
  have hF1l := hF1.lenm
  refine pcalls_rf mixed Tryz.func9 rfl ?_
  refine Wp.sr [] ?_
  refine Wp.sr [] ?_
  refine Wp.sr [.n (lenm Pn.encCl p)] ?_
  refine Wp.seq ?_
  refine Wp.sr [] ?_
  refine Wp.block ?_
  refine Wp.lp (α := (Nat) × (Nat) × (Nat) × (Nat) × (Nat) × (Nat) × (Nat)) (fun | ⟨j, f, m, v, s, d, h⟩ => ⟨mk 109 [(0, (.ls none (List.map Pn.encCl p))), (2, (.pt 2 0)), (3, (.pt 3 0)), (4, (.sc (.int .i64 ((j : Nat) : Int))))], [(2, [(.sc (.int .i64 0)), (.sc (.int .i64 0)), (.sc (.int .i64 0)), (.sc (.int .i64 0)), (.sc (.int .i64 0)), (.sc (.int .i64 0)), (.sc (.int .i64 0))]), (3, [(.sc (.int .i64 ((p.length : Nat) : Int))), (.sc (.int .i64 ((f : Nat) : Int))), (.sc (.int .i64 ((m : Nat) : Int))), (.sc (.int .i64 ((v : Nat) : Int))), (.sc (.int .i64 ((s : Nat) : Int))), (.sc (.int .i64 ((d : Nat) : Int))), (.sc (.int .i64 ((h : Nat) : Int)))])], y0⟩) (fun | ⟨j, f, m, v, s, d, h⟩ => j ≤ p.length ∧ f = Pn.fldP (p.take j) ∧ m = Pn.mthP (p.take j) ∧ v = Pn.vrP (p.take j) ∧ s = Pn.cntPs (p.take j) ∧ d = Pn.dpP (p.take j) ∧ h = Pn.hlP (p.take j)) (fun | ⟨j, f, m, v, s, d, h⟩ => p.length - j) (0, 0, 0, 0, 0, 0, 0) ?_ ?_
  · exact ⟨Nat.zero_le _, by simp [Pn.fldP], by simp [Pn.mthP], by simp [Pn.vrP], by simp [Pn.cntPs], by simp [Pn.dpP], by simp [Pn.hlP]⟩
  rintro ⟨j, f, m, v, s, d, h⟩ hv2
  obtain ⟨hlj, hf, hm, hv, hs, hd, hh⟩ := hv2
  have hT := Pn.tyP_len p
  have hH := Pn.hlP_le p
  refine Wp.seq ?_
  refine Wp.sr [.n (lenm Pn.encCl p)] ?_
  refine Wp.cd (decide ((((j : Nat) : Int) : Int) < ((p.length : Nat) : Int))) (fun h3 => ?_) (fun h3 => ?_)
  · have h3 := of_decide_eq_true h3
    refine Wp.skip ?_
    refine Wp.seq ?_
    refine Wp.block ?_
    obtain ⟨x6, hx5⟩ : ∃ z0, (p)[j]? = some z0 := ⟨_, List.getElem?_eq_getElem (by omega)⟩
    have hR8 : Fine (.ag (Pn.cCl x6)) := hF1.row hx5 rfl
    have hF9 : Fine (.ls none (List.map Pn.encStr x6.params)) := hR8.at 1 rfl
    have hF9l := hF9.lenm
    have hF10 : Fine (.ls none (List.map Pn.encOw x6.above)) := hR8.at 3 rfl
    have hF10l := hF10.lenm
    have hF11 : Fine (.ls none (List.map Pn.encVr x6.fields)) := hR8.at 4 rfl
    have hF11l := hF11.lenm
    have hF12 : Fine (.ls none (List.map Pn.encMe x6.methods)) := hR8.at 5 rfl
    have hF12l := hF12.lenm
    have x6_fldP := Pn.fldP_next hx5
    have x6_mthP := Pn.mthP_next hx5
    have x6_vrP := Pn.vrP_next hx5
    have x6_cntPs := Pn.cntPs_next hx5
    have x6_hlP := Pn.hlP_next hx5
    have x6_dpP := Pn.dpP_next hx5
    have x6_lfldP := Pn.sum_le Pn.fldP_app p (j + 1)
    have x6_lmthP := Pn.sum_le Pn.mthP_app p (j + 1)
    have x6_lvrP := Pn.sum_le Pn.vrP_app p (j + 1)
    have x6_lcntPs := Pn.sum_le Pn.cntPs_app p (j + 1)
    have x6_lhlP := Pn.sum_le Pn.hlP_app p (j + 1)
    have x6_q := Pn.dpP_le (p.take j)
    have x6_d := Pn.dpMs_le x6.methods
    have x6_w := Pn.sum_le Pn.cntPs_app p j
    refine Wp.sr [.i (map_get Pn.encCl hx5)] ?_
    refine Wp.sr [.n (lenm Pn.encVr x6.fields), .z (int_add (x := ((f : Nat) : Int)) (y := ((x6.fields.length : Nat) : Int)) (z := (((f + x6.fields.length) : Nat) : Int)) (by omega) (by omega) (by omega))] ?_
    refine Wp.sr [.n (lenm Pn.encMe x6.methods), .z (int_add (x := ((m : Nat) : Int)) (y := ((x6.methods.length : Nat) : Int)) (z := (((m + x6.methods.length) : Nat) : Int)) (by omega) (by omega) (by omega))] ?_
    refine Wp.sr [.c (stmts09 x6 (by omega)), .z (int_add (x := ((s : Nat) : Int)) (y := (((Pn.cntMs x6.methods) : Nat) : Int)) (z := (((s + (Pn.cntMs x6.methods)) : Nat) : Int)) (by omega) (by omega) (by omega))] ?_
    refine Wp.sr [.c (holes10 x6.fields (by omega)), .z (int_add (x := ((h : Nat) : Int)) (y := (((Pn.holesV x6.fields) : Nat) : Int)) (z := (((h + (Pn.holesV x6.fields)) : Nat) : Int)) (by omega) (by omega) (by omega))] ?_
    refine Wp.sr [] ?_
    refine Wp.block ?_
    refine Wp.lp (α := (Nat) × (Nat) × (Nat) × (Nat)) (fun | ⟨k, v2, d2, h2⟩ => ⟨mk 109 [(0, (.ls none (List.map Pn.encCl p))), (2, (.pt 2 0)), (3, (.pt 3 0)), (4, (.sc (.int .i64 ((j : Nat) : Int)))), (5, (.pt 5 0)), (6, (.sc (.int .i64 ((k : Nat) : Int)))), (15, (.sc (.bool (decide ((((j : Nat) : Int) : Int) < ((p.length : Nat) : Int))))))], [(2, [(.sc (.int .i64 0)), (.sc (.int .i64 0)), (.sc (.int .i64 0)), (.sc (.int .i64 0)), (.sc (.int .i64 0)), (.sc (.int .i64 0)), (.sc (.int .i64 0))]), (3, [(.sc (.int .i64 ((p.length : Nat) : Int))), (.sc (.int .i64 (((f + x6.fields.length) : Nat) : Int))), (.sc (.int .i64 (((m + x6.methods.length) : Nat) : Int))), (.sc (.int .i64 ((v2 : Nat) : Int))), (.sc (.int .i64 (((s + (Pn.cntMs x6.methods)) : Nat) : Int))), (.sc (.int .i64 ((d2 : Nat) : Int))), (.sc (.int .i64 ((h2 : Nat) : Int)))]), (5, (Pn.cCl x6))], y0⟩) (fun | ⟨k, v2, d2, h2⟩ => k ≤ x6.methods.length ∧ v2 = v + Pn.vrMs (x6.methods.take k) ∧ d2 = max d (Pn.dpMs (x6.methods.take k)) ∧ h2 = (h + Pn.holesV x6.fields) + Pn.hlMs (x6.methods.take k)) (fun | ⟨k, v2, d2, h2⟩ => x6.methods.length - k) (0, v, d, (h + (Pn.holesV x6.fields))) ?_ ?_
    · exact ⟨Nat.zero_le _, by simp [Pn.vrMs], by simp [Pn.dpMs], by simp [Pn.hlMs]⟩
    rintro ⟨k, v2, d2, h2⟩ hv13
    obtain ⟨hlk, hv2, hd2, hh2⟩ := hv13
    refine Wp.seq ?_
    refine Wp.sr [.n (lenm Pn.encMe x6.methods)] ?_
    refine Wp.cd (decide ((((k : Nat) : Int) : Int) < ((x6.methods.length : Nat) : Int))) (fun h14 => ?_) (fun h14 => ?_)
    · have h14 := of_decide_eq_true h14
      refine Wp.skip ?_
      refine Wp.seq ?_
      refine Wp.block ?_
      obtain ⟨x17, hx16⟩ : ∃ z0, (x6.methods)[k]? = some z0 := ⟨_, List.getElem?_eq_getElem (by omega)⟩
      have hR19 : Fine (.ag (Pn.cMe x17)) := hF12.row hx16 rfl
      have hF20 : Fine (.ls none (List.map Pn.encVr x17.params)) := hR19.at 13 rfl
      have hF20l := hF20.lenm
      have hF21 : Fine (.ls none (List.map Pn.encVr x17.locals)) := hR19.at 14 rfl
      have hF21l := hF21.lenm
      have hF22 : Fine (.ls none (List.map Pn.encS x17.body)) := hR19.at 15 rfl
      have hF22l := hF22.lenm
      have x17_v := Pn.vrMs_next hx16
      have x17_s := Pn.cntMs_next hx16
      have x17_d := Pn.dpMs_next hx16
      have x17_h := Pn.hlMs_next hx16
      have x17_hm : Pn.hlM x17 = Pn.holeT x17.ret + Pn.holesV x17.params + Pn.holesV x17.locals + Pn.innerL x17.body := rfl
      have x17_lv := Pn.sum_le Pn.vrMs_app (x6.methods) (k + 1)
      have x17_ls := Pn.sum_le Pn.cntMs_app (x6.methods) (k + 1)
      have x17_lh := Pn.sum_le Pn.hlMs_app (x6.methods) (k + 1)
      have x17_b := Pn.deepSs_le x17.body
      have x17_e := Pn.dpMs_le ((x6.methods).take k)
      refine Wp.sr [.i (map_get Pn.encMe hx16)] ?_
      refine Wp.sr [.n (lenm Pn.encVr x17.params), .n (lenm Pn.encVr x17.locals), .z (int_add (x := ((x17.params.length : Nat) : Int)) (y := ((x17.locals.length : Nat) : Int)) (z := (((x17.params.length + x17.locals.length) : Nat) : Int)) (by omega) (by omega) (by omega)), .z (int_add (x := ((v2 : Nat) : Int)) (y := (((x17.params.length + x17.locals.length) : Nat) : Int)) (z := (((v2 + (x17.params.length + x17.locals.length)) : Nat) : Int)) (by omega) (by omega) (by omega))] ?_
      refine Wp.sr [.c (hole10 x17.ret), .c (holes10 x17.params (by omega)), .z (int_add (x := (((Pn.holeT x17.ret) : Nat) : Int)) (y := (((Pn.holesV x17.params) : Nat) : Int)) (z := ((((Pn.holeT x17.ret) + (Pn.holesV x17.params)) : Nat) : Int)) (by omega) (by omega) (by omega)), .c (holes10 x17.locals (by omega)), .z (int_add (x := ((((Pn.holeT x17.ret) + (Pn.holesV x17.params)) : Nat) : Int)) (y := (((Pn.holesV x17.locals) : Nat) : Int)) (z := (((((Pn.holeT x17.ret) + (Pn.holesV x17.params)) + (Pn.holesV x17.locals)) : Nat) : Int)) (by omega) (by omega) (by omega)), .c (inner10 x17.body (by omega)), .z (int_add (x := (((((Pn.holeT x17.ret) + (Pn.holesV x17.params)) + (Pn.holesV x17.locals)) : Nat) : Int)) (y := (((Pn.innerL x17.body) : Nat) : Int)) (z := ((((((Pn.holeT x17.ret) + (Pn.holesV x17.params)) + (Pn.holesV x17.locals)) + (Pn.innerL x17.body)) : Nat) : Int)) (by omega) (by omega) (by omega)), .z (int_add (x := ((h2 : Nat) : Int)) (y := ((((((Pn.holeT x17.ret) + (Pn.holesV x17.params)) + (Pn.holesV x17.locals)) + (Pn.innerL x17.body)) : Nat) : Int)) (z := (((h2 + ((((Pn.holeT x17.ret) + (Pn.holesV x17.params)) + (Pn.holesV x17.locals)) + (Pn.innerL x17.body))) : Nat) : Int)) (by omega) (by omega) (by omega))] ?_
      refine Wp.sr [] ?_
      refine Wp.block ?_
      refine Wp.lp (α := (Nat) × (Nat)) (fun | ⟨q, d3⟩ => ⟨mk 109 [(0, (.ls none (List.map Pn.encCl p))), (2, (.pt 2 0)), (3, (.pt 3 0)), (4, (.sc (.int .i64 ((j : Nat) : Int)))), (5, (.pt 5 0)), (6, (.sc (.int .i64 ((k : Nat) : Int)))), (7, (.pt 7 0)), (8, (.sc (.int .i64 ((q : Nat) : Int)))), (15, (.sc (.bool (decide ((((j : Nat) : Int) : Int) < ((p.length : Nat) : Int)))))), (53, (.sc (.bool (decide ((((k : Nat) : Int) : Int) < ((x6.methods.length : Nat) : Int))))))], [(2, [(.sc (.int .i64 0)), (.sc (.int .i64 0)), (.sc (.int .i64 0)), (.sc (.int .i64 0)), (.sc (.int .i64 0)), (.sc (.int .i64 0)), (.sc (.int .i64 0))]), (3, [(.sc (.int .i64 ((p.length : Nat) : Int))), (.sc (.int .i64 (((f + x6.fields.length) : Nat) : Int))), (.sc (.int .i64 (((m + x6.methods.length) : Nat) : Int))), (.sc (.int .i64 (((v2 + (x17.params.length + x17.locals.length)) : Nat) : Int))), (.sc (.int .i64 (((s + (Pn.cntMs x6.methods)) : Nat) : Int))), (.sc (.int .i64 ((d3 : Nat) : Int))), (.sc (.int .i64 (((h2 + ((((Pn.holeT x17.ret) + (Pn.holesV x17.params)) + (Pn.holesV x17.locals)) + (Pn.innerL x17.body))) : Nat) : Int)))]), (5, (Pn.cCl x6)), (7, (Pn.cMe x17))], y0⟩) (fun | ⟨q, d3⟩ => q ≤ x17.body.length ∧ d3 = max d2 (Pn.deepSs (x17.body.take q))) (fun | ⟨q, d3⟩ => x17.body.length - q) (0, d2) ?_ ?_
      · exact ⟨Nat.zero_le _, by simp [Pn.deepSs]⟩
      rintro ⟨q, d3⟩ hv23
      obtain ⟨hlq, hd3⟩ := hv23
      refine Wp.seq ?_
      refine Wp.sr [.n (lenm Pn.encS x17.body)] ?_
      refine Wp.cd (decide ((((q : Nat) : Int) : Int) < ((x17.body.length : Nat) : Int))) (fun h24 => ?_) (fun h24 => ?_)
      · have h24 := of_decide_eq_true h24
        refine Wp.skip ?_
        refine Wp.seq ?_
        refine Wp.block ?_
        obtain ⟨x27, hx26⟩ : ∃ z0, (x17.body)[q]? = some z0 := ⟨_, List.getElem?_eq_getElem (by omega)⟩
        have hR29 : Fine (.ag (Pn.cS x27)) := hF22.row hx26 (Pn.encS_eq x27)
        have hF30 : Fine (.ls none (List.map Pn.encX x27.e.kids)) := hR29.at 18 rfl
        have hF30l := hF30.lenm
        have hF31 : Fine (.ls none (List.map Pn.encX x27.args)) := hR29.at 19 rfl
        have hF31l := hF31.lenm
        have hF32 : Fine (.ls none (List.map Pn.encS x27.body)) := hR29.at 20 rfl
        have hF32l := hF32.lenm
        have hF33 : Fine (.ls none (List.map Pn.encS x27.els)) := hR29.at 21 rfl
        have hF33l := hF33.lenm
        have x27_c := Pn.cntSs_next hx26
        have x27_d := Pn.deepSs_next hx26
        have x27_lc := Pn.sum_le Pn.cntSs_app (x17.body) (q + 1)
        have x27_dd := Pn.deepSs_le ((x17.body).take (q + 1))
        refine Wp.rg [.i (Pn.map_to hx26 (Pn.encS_eq x27)), .c (deep08 x27 (by omega)), .m (show (if (((Pn.deepS x27) : Nat) : Int) > ((d3 : Nat) : Int) then (((Pn.deepS x27) : Nat) : Int) else ((d3 : Nat) : Int)) = (((max d3 (Pn.deepS x27)) : Nat) : Int) by split <;> omega)] ?_
        refine Wp.rg [.z (int_add (x := ((q : Nat) : Int)) (y := 1) (z := (((q + 1) : Nat) : Int)) (by omega) (by omega) (by omega))] ?_
        refine ⟨((q + 1), (max d3 (Pn.deepS x27))), .rf, ?_, ?_⟩
        · exact ⟨Pn.len_lt hx26, by omega⟩
        · simp only; omega
      · have h24 := of_decide_eq_false h24
        refine Wp.exit ?_
        refine ⟨rfl, ?_⟩
        refine ⟨rfl, ?_⟩
        refine Wp.rg [.z (int_add (x := ((k : Nat) : Int)) (y := 1) (z := (((k + 1) : Nat) : Int)) (by omega) (by omega) (by omega))] ?_
        refine ⟨((k + 1), (v2 + (x17.params.length + x17.locals.length)), d3, (h2 + ((((Pn.holeT x17.ret) + (Pn.holesV x17.params)) + (Pn.holesV x17.locals)) + (Pn.innerL x17.body)))), .rf, ?_, ?_⟩
        · have e3 : x17.body.take q = x17.body := List.take_of_length_le (by omega); rw [e3] at hd3; exact ⟨Pn.len_lt hx16, by omega, by omega, by omega⟩
        · simp only; omega
    · have h14 := of_decide_eq_false h14
      refine Wp.exit ?_
      refine ⟨rfl, ?_⟩
      refine ⟨rfl, ?_⟩
      refine Wp.rg [.z (int_add (x := ((j : Nat) : Int)) (y := 1) (z := (((j + 1) : Nat) : Int)) (by omega) (by omega) (by omega))] ?_
      refine ⟨((j + 1), (f + x6.fields.length), (m + x6.methods.length), v2, (s + (Pn.cntMs x6.methods)), d2, h2), .rf, ?_, ?_⟩
      · have e2 : x6.methods.take k = x6.methods := List.take_of_length_le (by omega); rw [e2] at hv2 hd2 hh2; exact ⟨Pn.len_lt hx5, by omega, by omega, by omega, by omega, by omega, by omega⟩
      · simp only; omega
  · have h3 := of_decide_eq_false h3
    refine Wp.exit ?_
    refine ⟨rfl, ?_⟩
    refine ⟨rfl, ?_⟩
    refine Wp.sr [] ?_
    refine Wp.ret ?_
    refine fin_r (.ag [(.sc (.int .i64 ((p.length : Nat) : Int))), (.sc (.int .i64 ((f : Nat) : Int))), (.sc (.int .i64 ((m : Nat) : Int))), (.sc (.int .i64 ((v : Nat) : Int))), (.sc (.int .i64 ((s : Nat) : Int))), (.sc (.int .i64 ((d : Nat) : Int))), (.sc (.int .i64 ((h : Nat) : Int)))]) ?_
    have e2 : p.take j = p := List.take_of_length_le (by omega)
    rw [e2] at hf hm hv hs hd hh
    rw [hf, hm, hv, hs, hd, hh]
end Go.Proofs.YtjghgpmkepfdhaaGreatDoor
namespace Go.Proofs.YtjghgpmkepfdhaaGreatDoor
open Go.RowKit
set_option linter.unusedVariables false
set_option linter.unusedSimpArgs false
set_option maxRecDepth 100000
set_option maxHeartbeats 4000000

theorem uniq10 (m : Pn.Me) (hb : m.params.length ≤ 2305843009213693952) (hc : m.locals.length ≤ 2305843009213693952) : PCalls Tryz.prog 16 [(.ag (Pn.cMe m))] (.sc (.int .i64 ((Pn.uniqV m.params + Pn.uniqV m.locals : Nat) : Int))) := by
  refine pcalls_fine fun hfa => ?_
  have hR1 := hfa 0 _ rfl
  have hF2 : Fine (.ls none (List.map Pn.encVr m.params)) := hR1.at 13 rfl
  have hF2l := hF2.lenm
  have hF3 : Fine (.ls none (List.map Pn.encVr m.locals)) := hR1.at 14 rfl
  have hF3l := hF3.lenm
  have hF4 : Fine (.ls none (List.map Pn.encS m.body)) := hR1.at 15 rfl
  have hF4l := hF4.lenm
  refine pcalls_rf mixed Tryz.func16 rfl ?_
  refine Wp.sr [] ?_
  refine Wp.sr [] ?_
  refine Wp.seq ?_
  refine Wp.sr [] ?_
  refine Wp.block ?_
  refine Wp.lp (α := (Nat) × (Nat)) (fun | ⟨j, n⟩ => ⟨mk 45 [(0, (.ag (Pn.cMe m))), (1, (.pt 1 0)), (2, (.sc (.int .i64 0))), (3, (.sc (.int .i64 ((n : Nat) : Int)))), (4, (.sc (.int .i64 ((j : Nat) : Int))))], [(1, (Pn.cMe m))], y0⟩) (fun | ⟨j, n⟩ => j ≤ m.params.length ∧ n = 0 + Pn.uniqV (m.params.take j)) (fun | ⟨j, n⟩ => m.params.length - j) (0, 0) ?_ ?_
  · exact ⟨Nat.zero_le _, by simp [Pn.uniqV]⟩
  rintro ⟨j, n⟩ hv5
  obtain ⟨hlj, hsj⟩ := hv5
  refine Wp.seq ?_
  refine Wp.sr [.n (lenm Pn.encVr m.params)] ?_
  refine Wp.cd (decide ((((j : Nat) : Int) : Int) < ((m.params.length : Nat) : Int))) (fun h6 => ?_) (fun h6 => ?_)
  · have h6 := of_decide_eq_true h6
    refine Wp.skip ?_
    refine Wp.seq ?_
    refine Wp.block ?_
    obtain ⟨x9, hx8⟩ : ∃ z0, (m.params)[j]? = some z0 := ⟨_, List.getElem?_eq_getElem (by omega)⟩
    have ht_x9 := Pn.uniqV_next hx8
    have hl_x9 := Pn.sum_le Pn.uniqV_app m.params (j + 1)
    have hz_x9 := Pn.uniqV_le m.params
    have hy := Pn.uniqV_le m.params
    refine Wp.sr [.i (map_get Pn.encVr hx8)] ?_
    refine Wp.cd (decide ((x9.type.o0.kind : Int) = 6)) (fun h11 => ?_) (fun h11 => ?_)
    · have h11 := of_decide_eq_true h11
      refine Wp.rg [.z (int_add (x := ((n : Nat) : Int)) (y := 1) (z := (((n + 1) : Nat) : Int)) (by omega) (by omega) (by omega))] ?_
      refine Wp.rg [.z (int_add (x := ((j : Nat) : Int)) (y := 1) (z := (((j + 1) : Nat) : Int)) (by omega) (by omega) (by omega))] ?_
      refine ⟨((j + 1), (n + 1)), .rf, ?_, ?_⟩
      · simp [h6, h11] at ht_x9; exact ⟨Pn.len_lt hx8, by omega⟩
      · simp only; omega
    · have h11 := of_decide_eq_false h11
      refine Wp.skip ?_
      refine Wp.rg [.z (int_add (x := ((j : Nat) : Int)) (y := 1) (z := (((j + 1) : Nat) : Int)) (by omega) (by omega) (by omega))] ?_
      refine ⟨((j + 1), n), .rf, ?_, ?_⟩
      · simp [h6, h11] at ht_x9; exact ⟨Pn.len_lt hx8, by omega⟩
      · simp only; omega
  · have h6 := of_decide_eq_false h6
    refine Wp.exit ?_
    refine ⟨rfl, ?_⟩
    refine ⟨rfl, ?_⟩
    refine Wp.seq ?_
    refine Wp.sr [] ?_
    refine Wp.block ?_
    refine Wp.lp (α := (Nat) × (Nat)) (fun | ⟨k, nb⟩ => ⟨mk 45 [(0, (.ag (Pn.cMe m))), (1, (.pt 1 0)), (2, (.sc (.int .i64 0))), (3, (.sc (.int .i64 ((nb : Nat) : Int)))), (4, (.sc (.int .i64 ((j : Nat) : Int)))), (5, (.sc (.int .i64 ((k : Nat) : Int)))), (10, (.sc (.bool (decide ((((j : Nat) : Int) : Int) < ((m.params.length : Nat) : Int))))))], [(1, (Pn.cMe m))], y0⟩) (fun | ⟨k, nb⟩ => k ≤ m.locals.length ∧ nb = (Pn.uniqV m.params) + Pn.uniqV (m.locals.take k)) (fun | ⟨k, nb⟩ => m.locals.length - k) (0, n) ?_ ?_
    · have e2 : j = m.params.length := by omega
      subst e2
      rw [List.take_length] at hsj
      exact ⟨Nat.zero_le _, by simp [Pn.uniqV]; omega⟩
    rintro ⟨k, nb⟩ hv12
    obtain ⟨hlk, hsk⟩ := hv12
    refine Wp.seq ?_
    refine Wp.sr [.n (lenm Pn.encVr m.locals)] ?_
    refine Wp.cd (decide ((((k : Nat) : Int) : Int) < ((m.locals.length : Nat) : Int))) (fun h13 => ?_) (fun h13 => ?_)
    · have h13 := of_decide_eq_true h13
      refine Wp.skip ?_
      refine Wp.seq ?_
      refine Wp.block ?_
      obtain ⟨x16, hx15⟩ : ∃ z0, (m.locals)[k]? = some z0 := ⟨_, List.getElem?_eq_getElem (by omega)⟩
      have ht_x16 := Pn.uniqV_next hx15
      have hl_x16 := Pn.sum_le Pn.uniqV_app m.locals (k + 1)
      have hz_x16 := Pn.uniqV_le m.locals
      have hy := Pn.uniqV_le m.params
      refine Wp.sr [.i (map_get Pn.encVr hx15)] ?_
      refine Wp.cd (decide ((x16.type.o0.kind : Int) = 6)) (fun h18 => ?_) (fun h18 => ?_)
      · have h18 := of_decide_eq_true h18
        refine Wp.rg [.z (int_add (x := ((nb : Nat) : Int)) (y := 1) (z := (((nb + 1) : Nat) : Int)) (by omega) (by omega) (by omega))] ?_
        refine Wp.rg [.z (int_add (x := ((k : Nat) : Int)) (y := 1) (z := (((k + 1) : Nat) : Int)) (by omega) (by omega) (by omega))] ?_
        refine ⟨((k + 1), (nb + 1)), .rf, ?_, ?_⟩
        · simp [h6, h13, h18] at ht_x16; exact ⟨Pn.len_lt hx15, by omega⟩
        · simp only; omega
      · have h18 := of_decide_eq_false h18
        refine Wp.skip ?_
        refine Wp.rg [.z (int_add (x := ((k : Nat) : Int)) (y := 1) (z := (((k + 1) : Nat) : Int)) (by omega) (by omega) (by omega))] ?_
        refine ⟨((k + 1), nb), .rf, ?_, ?_⟩
        · simp [h6, h13, h18] at ht_x16; exact ⟨Pn.len_lt hx15, by omega⟩
        · simp only; omega
    · have h13 := of_decide_eq_false h13
      refine Wp.exit ?_
      refine ⟨rfl, ?_⟩
      refine ⟨rfl, ?_⟩
      refine Wp.sr [] ?_
      refine Wp.ret ?_
      refine fin_r (.sc (.int .i64 ((nb : Nat) : Int))) ?_
      have e2 : k = m.locals.length := by omega
      subst e2
      rw [List.take_length] at hsk
      congr 3
      omega
end Go.Proofs.YtjghgpmkepfdhaaGreatDoor
namespace Go.Proofs.YtjghgpmkepfdhaaGreatDoor
open Go.RowKit
set_option linter.unusedVariables false
set_option linter.unusedSimpArgs false
set_option maxRecDepth 100000
set_option maxHeartbeats 4000000
theorem muchB_step (x : Pn.Sm) (n : Int) (hn : n ≤ 100) (IH : ∀ y ∈ x.body ++ x.els, PCalls Tryz.prog 17 [(.ag (Pn.cS y)), (.sc (.int .i64 (n - 1)))] (.sc (.bool (Pn.muchB y (n - 1))))) : PCalls Tryz.prog 17 [(.ag (Pn.cS x)), (.sc (.int .i64 n))] (.sc (.bool (Pn.muchB x n))) := by
  refine pcalls_fine fun hfa => ?_
  have hR1 := hfa 0 _ rfl
  have hF2 : Fine (.ls none (List.map Pn.encX x.e.kids)) := hR1.at 18 rfl
  have hF2l := hF2.lenm
  have hF3 : Fine (.ls none (List.map Pn.encX x.args)) := hR1.at 19 rfl
  have hF3l := hF3.lenm
  have hF4 : Fine (.ls none (List.map Pn.encS x.body)) := hR1.at 20 rfl
  have hF4l := hF4.lenm
  have hF5 : Fine (.ls none (List.map Pn.encS x.els)) := hR1.at 21 rfl
  have hF5l := hF5.lenm
  refine pcalls_rf mixed Tryz.func17 rfl ?_
  refine Wp.sr [] ?_
  refine Wp.seq ?_
  by_cases h6 : (n : Int) < 0
  · skip
    refine Wp.sr [.g (show (decide ((n : Int) < 0)) = true from (by simp [h6])), .g gT, .g gT, .g gT] ?_
    refine Wp.ct (B := true) rfl ?_
    refine Wp.sr [] ?_
    refine Wp.ret ?_
    refine ⟨rfl, ?_⟩
    refine fin_r (.sc (.bool true)) ?_
    rw [Pn.muchB_eq]
    simp [h6]
  · skip
    by_cases h7 : (((x.body.length : Nat) : Int) : Int) > 500
    · skip
      refine Wp.sr [.g (show (decide ((n : Int) < 0)) = false from (by simp [h6])), .n (lenm Pn.encS x.body), .g (show (decide ((((x.body.length : Nat) : Int) : Int) > 500)) = true from (by first | (simp [h7]; done) | (simp only [h7, decide_false, decide_true, Bool.not_true, Bool.not_false, Bool.false_eq_true, not_false_eq_true, beq_self_eq_true]; done))), .g gT, .g gT] ?_
      refine Wp.ct (B := true) rfl ?_
      refine Wp.sr [] ?_
      refine Wp.ret ?_
      refine ⟨rfl, ?_⟩
      refine fin_r (.sc (.bool true)) ?_
      rw [Pn.muchB_eq]
      simp [h6, h7]
    · skip
      by_cases h8 : (((x.els.length : Nat) : Int) : Int) > 500
      · skip
        refine Wp.sr [.g (show (decide ((n : Int) < 0)) = false from (by simp [h6])), .n (lenm Pn.encS x.body), .g (show (decide ((((x.body.length : Nat) : Int) : Int) > 500)) = false from (by first | (simp [h7]; done) | (simp only [h7, decide_false, decide_true, Bool.not_true, Bool.not_false, Bool.false_eq_true, not_false_eq_true, beq_self_eq_true]; done))), .n (lenm Pn.encS x.els), .g (show (decide ((((x.els.length : Nat) : Int) : Int) > 500)) = true from (by first | (simp [h8]; done) | (simp only [h8, decide_false, decide_true, Bool.not_true, Bool.not_false, Bool.false_eq_true, not_false_eq_true, beq_self_eq_true]; done))), .g gT] ?_
        refine Wp.ct (B := true) rfl ?_
        refine Wp.sr [] ?_
        refine Wp.ret ?_
        refine ⟨rfl, ?_⟩
        refine fin_r (.sc (.bool true)) ?_
        rw [Pn.muchB_eq]
        simp [h6, h7, h8]
      · skip
        by_cases h9 : (((x.args.length : Nat) : Int) : Int) > 20
        · skip
          refine Wp.sr [.g (show (decide ((n : Int) < 0)) = false from (by simp [h6])), .n (lenm Pn.encS x.body), .g (show (decide ((((x.body.length : Nat) : Int) : Int) > 500)) = false from (by first | (simp [h7]; done) | (simp only [h7, decide_false, decide_true, Bool.not_true, Bool.not_false, Bool.false_eq_true, not_false_eq_true, beq_self_eq_true]; done))), .n (lenm Pn.encS x.els), .g (show (decide ((((x.els.length : Nat) : Int) : Int) > 500)) = false from (by first | (simp [h8]; done) | (simp only [h8, decide_false, decide_true, Bool.not_true, Bool.not_false, Bool.false_eq_true, not_false_eq_true, beq_self_eq_true]; done))), .n (lenm Pn.encX x.args), .g (show (decide ((((x.args.length : Nat) : Int) : Int) > 20)) = true from (by first | (simp [h9]; done) | (simp only [h9, decide_false, decide_true, Bool.not_true, Bool.not_false, Bool.false_eq_true, not_false_eq_true, beq_self_eq_true]; done)))] ?_
          refine Wp.ct (B := true) rfl ?_
          refine Wp.sr [] ?_
          refine Wp.ret ?_
          refine ⟨rfl, ?_⟩
          refine fin_r (.sc (.bool true)) ?_
          rw [Pn.muchB_eq]
          simp [h6, h7, h8, h9]
        · skip
          refine Wp.sr [.g (show (decide ((n : Int) < 0)) = false from (by simp [h6])), .n (lenm Pn.encS x.body), .g (show (decide ((((x.body.length : Nat) : Int) : Int) > 500)) = false from (by first | (simp [h7]; done) | (simp only [h7, decide_false, decide_true, Bool.not_true, Bool.not_false, Bool.false_eq_true, not_false_eq_true, beq_self_eq_true]; done))), .n (lenm Pn.encS x.els), .g (show (decide ((((x.els.length : Nat) : Int) : Int) > 500)) = false from (by first | (simp [h8]; done) | (simp only [h8, decide_false, decide_true, Bool.not_true, Bool.not_false, Bool.false_eq_true, not_false_eq_true, beq_self_eq_true]; done))), .n (lenm Pn.encX x.args), .g (show (decide ((((x.args.length : Nat) : Int) : Int) > 20)) = false from (by first | (simp [h9]; done) | (simp only [h9, decide_false, decide_true, Bool.not_true, Bool.not_false, Bool.false_eq_true, not_false_eq_true, beq_self_eq_true]; done))), .c (kids10 x.e 25 (by omega))] ?_
          refine Wp.cd (Pn.kidsB x.e 25) (fun h10 => ?_) (fun h10 => ?_)
          · skip
            refine Wp.sr [] ?_
            refine Wp.ret ?_
            refine ⟨rfl, ?_⟩
            refine fin_r (.sc (.bool true)) ?_
            rw [Pn.muchB_eq]
            simp [h6, h7, h8, h9, h10]
          · have h10 := Bool.eq_false_iff.1 h10
            refine Wp.skip ?_
            refine Wp.seq ?_
            refine Wp.sr [] ?_
            refine Wp.block ?_
            refine Wp.lp (α := (Nat)) (fun | j => ⟨mk 76 [(0, (.ag (Pn.cS x))), (1, (.sc (.int .i64 n))), (2, (.pt 2 0)), (5, (.sc (.int .i64 ((j : Nat) : Int)))), (32, (.sc (.bool (Pn.kidsB x.e 25))))], [(2, (Pn.cS x))], y0⟩) (fun | j => j ≤ x.args.length ∧ (x.args.take j).all (fun y => !Pn.kidsB y 25) = true) (fun | j => x.args.length - j) 0 ?_ ?_
            · exact ⟨Nat.zero_le _, by simp⟩
            rintro j hv11
            obtain ⟨hlj, htj⟩ := hv11
            refine Wp.seq ?_
            refine Wp.sr [.n (lenm Pn.encX x.args)] ?_
            refine Wp.cd (decide ((((j : Nat) : Int) : Int) < ((x.args.length : Nat) : Int))) (fun h12 => ?_) (fun h12 => ?_)
            · have h12 := of_decide_eq_true h12
              refine Wp.skip ?_
              refine Wp.seq ?_
              refine Wp.block ?_
              obtain ⟨x15, hx14⟩ : ∃ z0, (x.args)[j]? = some z0 := ⟨_, List.getElem?_eq_getElem (by omega)⟩
              have hR17 : Fine (.ag (Pn.cX x15)) := hF3.row hx14 (Pn.encX_eq x15)
              have hF18 : Fine (.ls none (List.map Pn.encX x15.kids)) := hR17.at 3 rfl
              have hF18l := hF18.lenm
              refine Wp.sr [.i (Pn.map_to hx14 (Pn.encX_eq x15)), .c (kids10 x15 25 (by omega))] ?_
              refine Wp.cd (Pn.kidsB x15 25) (fun h19 => ?_) (fun h19 => ?_)
              · skip
                refine Wp.sr [] ?_
                refine Wp.ret ?_
                refine ⟨rfl, ?_⟩
                refine ⟨rfl, ?_⟩
                refine ⟨rfl, ?_⟩
                refine fin_r (.sc (.bool true)) ?_
                rw [Pn.muchB_eq]
                rw [Pn.all_false (l := x.args) hx14 (by simp [h6, h7, h8, h9, h10, h12, h19])]
                simp
              · have h19 := Bool.eq_false_iff.1 h19
                refine Wp.skip ?_
                refine Wp.rg [.z (int_add (x := ((j : Nat) : Int)) (y := 1) (z := (((j + 1) : Nat) : Int)) (by omega) (by omega) (by omega))] ?_
                refine ⟨(j + 1), .rf, ?_, ?_⟩
                · exact ⟨Pn.len_lt hx14, Pn.all_next hx14 htj (by simp [h6, h7, h8, h9, h10, h12, h19])⟩
                · simp only; omega
            · have h12 := of_decide_eq_false h12
              refine Wp.exit ?_
              refine ⟨rfl, ?_⟩
              refine ⟨rfl, ?_⟩
              refine Wp.seq ?_
              refine Wp.sr [] ?_
              refine Wp.block ?_
              refine Wp.lp (α := (Nat)) (fun | k => ⟨mk 76 [(0, (.ag (Pn.cS x))), (1, (.sc (.int .i64 n))), (2, (.pt 2 0)), (5, (.sc (.int .i64 ((j : Nat) : Int)))), (6, (.sc (.int .i64 ((k : Nat) : Int)))), (32, (.sc (.bool (Pn.kidsB x.e 25)))), (37, (.sc (.bool (decide ((((j : Nat) : Int) : Int) < ((x.args.length : Nat) : Int))))))], [(2, (Pn.cS x))], y0⟩) (fun | k => k ≤ x.body.length ∧ (x.body.take k).all (fun y => !Pn.muchB y (n - 1)) = true) (fun | k => x.body.length - k) 0 ?_ ?_
              · exact ⟨Nat.zero_le _, by simp⟩
              rintro k hv20
              obtain ⟨hlk, htk⟩ := hv20
              refine Wp.seq ?_
              refine Wp.sr [.n (lenm Pn.encS x.body)] ?_
              refine Wp.cd (decide ((((k : Nat) : Int) : Int) < ((x.body.length : Nat) : Int))) (fun h21 => ?_) (fun h21 => ?_)
              · have h21 := of_decide_eq_true h21
                refine Wp.skip ?_
                refine Wp.seq ?_
                refine Wp.block ?_
                obtain ⟨x24, hx23⟩ : ∃ z0, (x.body)[k]? = some z0 := ⟨_, List.getElem?_eq_getElem (by omega)⟩
                have hR26 : Fine (.ag (Pn.cS x24)) := hF4.row hx23 (Pn.encS_eq x24)
                have hF27 : Fine (.ls none (List.map Pn.encX x24.e.kids)) := hR26.at 18 rfl
                have hF27l := hF27.lenm
                have hF28 : Fine (.ls none (List.map Pn.encX x24.args)) := hR26.at 19 rfl
                have hF28l := hF28.lenm
                have hF29 : Fine (.ls none (List.map Pn.encS x24.body)) := hR26.at 20 rfl
                have hF29l := hF29.lenm
                have hF30 : Fine (.ls none (List.map Pn.encS x24.els)) := hR26.at 21 rfl
                have hF30l := hF30.lenm
                refine Wp.sr [.i (Pn.map_to hx23 (Pn.encS_eq x24)), .z (int_sub (x := n) (y := 1) (z := (n - 1)) (by omega) (by omega) (by omega)), .c (IH x24 (List.mem_append.2 (.inl (List.mem_of_getElem? hx23))))] ?_
                refine Wp.cd (Pn.muchB x24 (n - 1)) (fun h31 => ?_) (fun h31 => ?_)
                · skip
                  refine Wp.sr [] ?_
                  refine Wp.ret ?_
                  refine ⟨rfl, ?_⟩
                  refine ⟨rfl, ?_⟩
                  refine ⟨rfl, ?_⟩
                  refine fin_r (.sc (.bool true)) ?_
                  rw [Pn.muchB_eq]
                  rw [Pn.all_false (l := x.body) hx23 (by simp [h6, h7, h8, h9, h10, h12, h21, h31])]
                  simp
                · have h31 := Bool.eq_false_iff.1 h31
                  refine Wp.skip ?_
                  refine Wp.rg [.z (int_add (x := ((k : Nat) : Int)) (y := 1) (z := (((k + 1) : Nat) : Int)) (by omega) (by omega) (by omega))] ?_
                  refine ⟨(k + 1), .rf, ?_, ?_⟩
                  · exact ⟨Pn.len_lt hx23, Pn.all_next hx23 htk (by simp [h6, h7, h8, h9, h10, h12, h21, h31])⟩
                  · simp only; omega
              · have h21 := of_decide_eq_false h21
                refine Wp.exit ?_
                refine ⟨rfl, ?_⟩
                refine ⟨rfl, ?_⟩
                refine Wp.seq ?_
                refine Wp.sr [] ?_
                refine Wp.block ?_
                refine Wp.lp (α := (Nat)) (fun | m => ⟨mk 76 [(0, (.ag (Pn.cS x))), (1, (.sc (.int .i64 n))), (2, (.pt 2 0)), (5, (.sc (.int .i64 ((j : Nat) : Int)))), (6, (.sc (.int .i64 ((k : Nat) : Int)))), (7, (.sc (.int .i64 ((m : Nat) : Int)))), (32, (.sc (.bool (Pn.kidsB x.e 25)))), (37, (.sc (.bool (decide ((((j : Nat) : Int) : Int) < ((x.args.length : Nat) : Int)))))), (50, (.sc (.bool (decide ((((k : Nat) : Int) : Int) < ((x.body.length : Nat) : Int))))))], [(2, (Pn.cS x))], y0⟩) (fun | m => m ≤ x.els.length ∧ (x.els.take m).all (fun y => !Pn.muchB y (n - 1)) = true) (fun | m => x.els.length - m) 0 ?_ ?_
                · exact ⟨Nat.zero_le _, by simp⟩
                rintro m hv32
                obtain ⟨hlm, htm⟩ := hv32
                refine Wp.seq ?_
                refine Wp.sr [.n (lenm Pn.encS x.els)] ?_
                refine Wp.cd (decide ((((m : Nat) : Int) : Int) < ((x.els.length : Nat) : Int))) (fun h33 => ?_) (fun h33 => ?_)
                · have h33 := of_decide_eq_true h33
                  refine Wp.skip ?_
                  refine Wp.seq ?_
                  refine Wp.block ?_
                  obtain ⟨x36, hx35⟩ : ∃ z0, (x.els)[m]? = some z0 := ⟨_, List.getElem?_eq_getElem (by omega)⟩
                  have hR38 : Fine (.ag (Pn.cS x36)) := hF5.row hx35 (Pn.encS_eq x36)
                  have hF39 : Fine (.ls none (List.map Pn.encX x36.e.kids)) := hR38.at 18 rfl
                  have hF39l := hF39.lenm
                  have hF40 : Fine (.ls none (List.map Pn.encX x36.args)) := hR38.at 19 rfl
                  have hF40l := hF40.lenm
                  have hF41 : Fine (.ls none (List.map Pn.encS x36.body)) := hR38.at 20 rfl
                  have hF41l := hF41.lenm
                  have hF42 : Fine (.ls none (List.map Pn.encS x36.els)) := hR38.at 21 rfl
                  have hF42l := hF42.lenm
                  refine Wp.sr [.i (Pn.map_to hx35 (Pn.encS_eq x36)), .z (int_sub (x := n) (y := 1) (z := (n - 1)) (by omega) (by omega) (by omega)), .c (IH x36 (List.mem_append.2 (.inr (List.mem_of_getElem? hx35))))] ?_
                  refine Wp.cd (Pn.muchB x36 (n - 1)) (fun h43 => ?_) (fun h43 => ?_)
                  · skip
                    refine Wp.sr [] ?_
                    refine Wp.ret ?_
                    refine ⟨rfl, ?_⟩
                    refine ⟨rfl, ?_⟩
                    refine ⟨rfl, ?_⟩
                    refine fin_r (.sc (.bool true)) ?_
                    rw [Pn.muchB_eq]
                    rw [Pn.all_false (l := x.els) hx35 (by simp [h6, h7, h8, h9, h10, h12, h21, h33, h43])]
                    simp
                  · have h43 := Bool.eq_false_iff.1 h43
                    refine Wp.skip ?_
                    refine Wp.rg [.z (int_add (x := ((m : Nat) : Int)) (y := 1) (z := (((m + 1) : Nat) : Int)) (by omega) (by omega) (by omega))] ?_
                    refine ⟨(m + 1), .rf, ?_, ?_⟩
                    · exact ⟨Pn.len_lt hx35, Pn.all_next hx35 htm (by simp [h6, h7, h8, h9, h10, h12, h21, h33, h43])⟩
                    · simp only; omega
                · have h33 := of_decide_eq_false h33
                  refine Wp.exit ?_
                  refine ⟨rfl, ?_⟩
                  refine ⟨rfl, ?_⟩
                  refine Wp.sr [] ?_
                  refine Wp.ret ?_
                  refine fin_r (.sc (.bool false)) ?_
                  rw [Pn.muchB_eq]
                  rw [Pn.all_end htj (by assumption), Pn.all_end htk (by assumption), Pn.all_end htm (by assumption)]
                  simp [h6, h7, h8, h9, h10, h12, h21, h33]

theorem much10 (x : Pn.Sm) (k : Int) (hk : k ≤ 100) : PCalls Tryz.prog 17 [(.ag (Pn.cS x)), (.sc (.int .i64 k))] (.sc (.bool (Pn.muchB x k))) := by
  have key : ∀ n (x : Pn.Sm) (k : Int), Pn.cntS x ≤ n → k ≤ 100 → PCalls Tryz.prog 17 [(.ag (Pn.cS x)), (.sc (.int .i64 k))] (.sc (.bool (Pn.muchB x k))) := by
    intro n
    induction n with
    | zero => intro x k h; rw [Pn.cntS_eq] at h; omega
    | succ n ih =>
      intro x k h hk
      refine muchB_step x k hk fun y hy => ih y _ ?_ (by omega)
      rw [Pn.cntS_eq] at h
      rcases List.mem_append.1 hy with hy | hy
      · have := Pn.cntS_in hy; omega
      · have := Pn.cntS_in hy; omega
  exact key _ x k (Nat.le_refl _) hk
end Go.Proofs.YtjghgpmkepfdhaaGreatDoor
namespace Go.Proofs.YtjghgpmkepfdhaaGreatDoor
open Go.RowKit
set_option linter.unusedVariables false
set_option linter.unusedSimpArgs false
set_option maxRecDepth 100000
set_option maxHeartbeats 4000000
theorem heavy10 (p : List Pn.Cl) (hb : Pn.cntPs p ≤ 4611686018427387904) : PCalls Tryz.prog 6 [(.ls none (List.map Pn.encCl p))] (.sc (.bool (Pn.heavyP p))) := by
  refine pcalls_fine fun hfa => ?_
  have hF1 := hfa 0 _ rfl
  have hF1l := hF1.lenm
  refine pcalls_rf mixed Tryz.func6 rfl ?_
  refine Wp.sr [] ?_
  refine Wp.sr [] ?_
  refine Wp.seq ?_
  refine Wp.sr [] ?_
  refine Wp.block ?_
  refine Wp.lp (α := (Nat) × (Nat)) (fun | ⟨j, n⟩ => ⟨mk 106 [(0, (.ls none (List.map Pn.encCl p))), (3, (.sc (.int .i64 ((n : Nat) : Int)))), (4, (.sc (.int .i64 ((j : Nat) : Int))))], [], y0⟩) (fun | ⟨j, n⟩ => j ≤ p.length ∧ Pn.hvC p.length 0 p = Pn.hvC p.length n (p.drop j)) (fun | ⟨j, n⟩ => p.length - j) (0, 0) ?_ ?_
  · exact ⟨Nat.zero_le _, by rw [List.drop_zero]⟩
  rintro ⟨j, n⟩ hv2
  obtain ⟨hlj, hhj⟩ := hv2
  refine Wp.seq ?_
  refine Wp.sr [.n (lenm Pn.encCl p)] ?_
  refine Wp.cd (decide ((((j : Nat) : Int) : Int) < ((p.length : Nat) : Int))) (fun h3 => ?_) (fun h3 => ?_)
  · have h3 := of_decide_eq_true h3
    refine Wp.skip ?_
    refine Wp.seq ?_
    refine Wp.block ?_
    obtain ⟨x6, hx5⟩ : ∃ z0, (p)[j]? = some z0 := ⟨_, List.getElem?_eq_getElem (by omega)⟩
    have hR8 : Fine (.ag (Pn.cCl x6)) := hF1.row hx5 rfl
    have hF9 : Fine (.ls none (List.map Pn.encStr x6.params)) := hR8.at 1 rfl
    have hF9l := hF9.lenm
    have hF10 : Fine (.ls none (List.map Pn.encOw x6.above)) := hR8.at 3 rfl
    have hF10l := hF10.lenm
    have hF11 : Fine (.ls none (List.map Pn.encVr x6.fields)) := hR8.at 4 rfl
    have hF11l := hF11.lenm
    have hF12 : Fine (.ls none (List.map Pn.encMe x6.methods)) := hR8.at 5 rfl
    have hF12l := hF12.lenm
    have x6_c := Pn.cntPs_next hx5
    have x6_lc := Pn.sum_le Pn.cntPs_app p (j + 1)
    refine Wp.sr [.i (map_get Pn.encCl hx5)] ?_
    refine Wp.seq ?_
    by_cases h13 : (((p.length : Nat) : Int) : Int) > 30
    · skip
      refine Wp.sr [.n (lenm Pn.encCl p), .g (show (decide ((((p.length : Nat) : Int) : Int) > 30)) = true from (by first | (simp [h13]; done) | (simp only [h13, decide_false, decide_true, Bool.not_true, Bool.not_false, Bool.false_eq_true, not_false_eq_true, beq_self_eq_true]; done))), .g gT, .g gT, .g gT] ?_
      refine Wp.ct (B := true) rfl ?_
      refine Wp.sr [] ?_
      refine Wp.ret ?_
      refine ⟨rfl, ?_⟩
      refine ⟨rfl, ?_⟩
      refine ⟨rfl, ?_⟩
      refine ⟨rfl, ?_⟩
      refine fin_r (.sc (.bool true)) ?_
      rw [Pn.heavyP_none (by rw [hhj, Pn.drop_next hx5]; exact Pn.hvC_g (by omega))]
    · skip
      by_cases h14 : (((x6.params.length : Nat) : Int) : Int) > 20
      · skip
        refine Wp.sr [.n (lenm Pn.encCl p), .g (show (decide ((((p.length : Nat) : Int) : Int) > 30)) = false from (by first | (simp [h13]; done) | (simp only [h13, decide_false, decide_true, Bool.not_true, Bool.not_false, Bool.false_eq_true, not_false_eq_true, beq_self_eq_true]; done))), .n (lenm Pn.encStr x6.params), .g (show (decide ((((x6.params.length : Nat) : Int) : Int) > 20)) = true from (by first | (simp [h14]; done) | (simp only [h14, decide_false, decide_true, Bool.not_true, Bool.not_false, Bool.false_eq_true, not_false_eq_true, beq_self_eq_true]; done))), .g gT, .g gT] ?_
        refine Wp.ct (B := true) rfl ?_
        refine Wp.sr [] ?_
        refine Wp.ret ?_
        refine ⟨rfl, ?_⟩
        refine ⟨rfl, ?_⟩
        refine ⟨rfl, ?_⟩
        refine ⟨rfl, ?_⟩
        refine fin_r (.sc (.bool true)) ?_
        rw [Pn.heavyP_none (by rw [hhj, Pn.drop_next hx5]; exact Pn.hvC_g (by omega))]
      · skip
        by_cases h15 : (((x6.above.length : Nat) : Int) : Int) > 20
        · skip
          refine Wp.sr [.n (lenm Pn.encCl p), .g (show (decide ((((p.length : Nat) : Int) : Int) > 30)) = false from (by first | (simp [h13]; done) | (simp only [h13, decide_false, decide_true, Bool.not_true, Bool.not_false, Bool.false_eq_true, not_false_eq_true, beq_self_eq_true]; done))), .n (lenm Pn.encStr x6.params), .g (show (decide ((((x6.params.length : Nat) : Int) : Int) > 20)) = false from (by first | (simp [h14]; done) | (simp only [h14, decide_false, decide_true, Bool.not_true, Bool.not_false, Bool.false_eq_true, not_false_eq_true, beq_self_eq_true]; done))), .n (lenm Pn.encOw x6.above), .g (show (decide ((((x6.above.length : Nat) : Int) : Int) > 20)) = true from (by first | (simp [h15]; done) | (simp only [h15, decide_false, decide_true, Bool.not_true, Bool.not_false, Bool.false_eq_true, not_false_eq_true, beq_self_eq_true]; done))), .g gT] ?_
          refine Wp.ct (B := true) rfl ?_
          refine Wp.sr [] ?_
          refine Wp.ret ?_
          refine ⟨rfl, ?_⟩
          refine ⟨rfl, ?_⟩
          refine ⟨rfl, ?_⟩
          refine ⟨rfl, ?_⟩
          refine fin_r (.sc (.bool true)) ?_
          rw [Pn.heavyP_none (by rw [hhj, Pn.drop_next hx5]; exact Pn.hvC_g (by omega))]
        · skip
          by_cases h16 : (((x6.fields.length : Nat) : Int) : Int) > 40
          · skip
            refine Wp.sr [.n (lenm Pn.encCl p), .g (show (decide ((((p.length : Nat) : Int) : Int) > 30)) = false from (by first | (simp [h13]; done) | (simp only [h13, decide_false, decide_true, Bool.not_true, Bool.not_false, Bool.false_eq_true, not_false_eq_true, beq_self_eq_true]; done))), .n (lenm Pn.encStr x6.params), .g (show (decide ((((x6.params.length : Nat) : Int) : Int) > 20)) = false from (by first | (simp [h14]; done) | (simp only [h14, decide_false, decide_true, Bool.not_true, Bool.not_false, Bool.false_eq_true, not_false_eq_true, beq_self_eq_true]; done))), .n (lenm Pn.encOw x6.above), .g (show (decide ((((x6.above.length : Nat) : Int) : Int) > 20)) = false from (by first | (simp [h15]; done) | (simp only [h15, decide_false, decide_true, Bool.not_true, Bool.not_false, Bool.false_eq_true, not_false_eq_true, beq_self_eq_true]; done))), .n (lenm Pn.encVr x6.fields), .g (show (decide ((((x6.fields.length : Nat) : Int) : Int) > 40)) = true from (by first | (simp [h16]; done) | (simp only [h16, decide_false, decide_true, Bool.not_true, Bool.not_false, Bool.false_eq_true, not_false_eq_true, beq_self_eq_true]; done)))] ?_
            refine Wp.ct (B := true) rfl ?_
            refine Wp.sr [] ?_
            refine Wp.ret ?_
            refine ⟨rfl, ?_⟩
            refine ⟨rfl, ?_⟩
            refine ⟨rfl, ?_⟩
            refine ⟨rfl, ?_⟩
            refine fin_r (.sc (.bool true)) ?_
            rw [Pn.heavyP_none (by rw [hhj, Pn.drop_next hx5]; exact Pn.hvC_g (by omega))]
          · skip
            refine Wp.sr [.n (lenm Pn.encCl p), .g (show (decide ((((p.length : Nat) : Int) : Int) > 30)) = false from (by first | (simp [h13]; done) | (simp only [h13, decide_false, decide_true, Bool.not_true, Bool.not_false, Bool.false_eq_true, not_false_eq_true, beq_self_eq_true]; done))), .n (lenm Pn.encStr x6.params), .g (show (decide ((((x6.params.length : Nat) : Int) : Int) > 20)) = false from (by first | (simp [h14]; done) | (simp only [h14, decide_false, decide_true, Bool.not_true, Bool.not_false, Bool.false_eq_true, not_false_eq_true, beq_self_eq_true]; done))), .n (lenm Pn.encOw x6.above), .g (show (decide ((((x6.above.length : Nat) : Int) : Int) > 20)) = false from (by first | (simp [h15]; done) | (simp only [h15, decide_false, decide_true, Bool.not_true, Bool.not_false, Bool.false_eq_true, not_false_eq_true, beq_self_eq_true]; done))), .n (lenm Pn.encVr x6.fields), .g (show (decide ((((x6.fields.length : Nat) : Int) : Int) > 40)) = false from (by first | (simp [h16]; done) | (simp only [h16, decide_false, decide_true, Bool.not_true, Bool.not_false, Bool.false_eq_true, not_false_eq_true, beq_self_eq_true]; done))), .n (lenm Pn.encMe x6.methods)] ?_
            refine Wp.cd (decide ((((x6.methods.length : Nat) : Int) : Int) > 40)) (fun h17 => ?_) (fun h17 => ?_)
            · have h17 := of_decide_eq_true h17
              refine Wp.sr [] ?_
              refine Wp.ret ?_
              refine ⟨rfl, ?_⟩
              refine ⟨rfl, ?_⟩
              refine ⟨rfl, ?_⟩
              refine ⟨rfl, ?_⟩
              refine fin_r (.sc (.bool true)) ?_
              rw [Pn.heavyP_none (by rw [hhj, Pn.drop_next hx5]; exact Pn.hvC_g (by omega))]
            · have h17 := of_decide_eq_false h17
              refine Wp.skip ?_
              refine Wp.sr [] ?_
              refine Wp.block ?_
              refine Wp.lp (α := (Nat) × (Nat)) (fun | ⟨k, nb⟩ => ⟨mk 106 [(0, (.ls none (List.map Pn.encCl p))), (3, (.sc (.int .i64 ((nb : Nat) : Int)))), (4, (.sc (.int .i64 ((j : Nat) : Int)))), (5, (.pt 5 0)), (6, (.sc (.int .i64 ((k : Nat) : Int)))), (12, (.sc (.bool (decide ((((j : Nat) : Int) : Int) < ((p.length : Nat) : Int)))))), (45, (.sc (.bool (decide ((((x6.methods.length : Nat) : Int) : Int) > 40)))))], [(5, (Pn.cCl x6))], y0⟩) (fun | ⟨k, nb⟩ => k ≤ x6.methods.length ∧ Pn.hvM n x6.methods = Pn.hvM nb (x6.methods.drop k)) (fun | ⟨k, nb⟩ => x6.methods.length - k) (0, n) ?_ ?_
              · exact ⟨Nat.zero_le _, by rw [List.drop_zero]⟩
              rintro ⟨k, nb⟩ hv18
              obtain ⟨hlk, hhk⟩ := hv18
              refine Wp.seq ?_
              refine Wp.sr [.n (lenm Pn.encMe x6.methods)] ?_
              refine Wp.cd (decide ((((k : Nat) : Int) : Int) < ((x6.methods.length : Nat) : Int))) (fun h19 => ?_) (fun h19 => ?_)
              · have h19 := of_decide_eq_true h19
                refine Wp.skip ?_
                refine Wp.seq ?_
                refine Wp.block ?_
                obtain ⟨x22, hx21⟩ : ∃ z0, (x6.methods)[k]? = some z0 := ⟨_, List.getElem?_eq_getElem (by omega)⟩
                have hR24 : Fine (.ag (Pn.cMe x22)) := hF12.row hx21 rfl
                have hF25 : Fine (.ls none (List.map Pn.encVr x22.params)) := hR24.at 13 rfl
                have hF25l := hF25.lenm
                have hF26 : Fine (.ls none (List.map Pn.encVr x22.locals)) := hR24.at 14 rfl
                have hF26l := hF26.lenm
                have hF27 : Fine (.ls none (List.map Pn.encS x22.body)) := hR24.at 15 rfl
                have hF27l := hF27.lenm
                have x22_s := Pn.cntMs_next hx21
                have x22_ls := Pn.sum_le Pn.cntMs_app (x6.methods) (k + 1)
                refine Wp.sr [.i (map_get Pn.encMe hx21)] ?_
                refine Wp.seq ?_
                by_cases h28 : (((x22.params.length : Nat) : Int) : Int) > 40
                · skip
                  refine Wp.sr [.n (lenm Pn.encVr x22.params), .g (show (decide ((((x22.params.length : Nat) : Int) : Int) > 40)) = true from (by first | (simp [h28]; done) | (simp only [h28, decide_false, decide_true, Bool.not_true, Bool.not_false, Bool.false_eq_true, not_false_eq_true, beq_self_eq_true]; done))), .g gT, .g gT] ?_
                  refine Wp.ct (B := true) rfl ?_
                  refine Wp.sr [] ?_
                  refine Wp.ret ?_
                  refine ⟨rfl, ?_⟩
                  refine ⟨rfl, ?_⟩
                  refine ⟨rfl, ?_⟩
                  refine ⟨rfl, ?_⟩
                  refine ⟨rfl, ?_⟩
                  refine ⟨rfl, ?_⟩
                  refine fin_r (.sc (.bool true)) ?_
                  rw [Pn.heavyP_none (by rw [hhj, Pn.drop_next hx5]; exact Pn.hvC_none (by rw [hhk, Pn.drop_next hx21]; exact Pn.hvM_g (by omega)))]
                · skip
                  by_cases h29 : (((x22.locals.length : Nat) : Int) : Int) > 40
                  · skip
                    refine Wp.sr [.n (lenm Pn.encVr x22.params), .g (show (decide ((((x22.params.length : Nat) : Int) : Int) > 40)) = false from (by first | (simp [h28]; done) | (simp only [h28, decide_false, decide_true, Bool.not_true, Bool.not_false, Bool.false_eq_true, not_false_eq_true, beq_self_eq_true]; done))), .n (lenm Pn.encVr x22.locals), .g (show (decide ((((x22.locals.length : Nat) : Int) : Int) > 40)) = true from (by first | (simp [h29]; done) | (simp only [h29, decide_false, decide_true, Bool.not_true, Bool.not_false, Bool.false_eq_true, not_false_eq_true, beq_self_eq_true]; done))), .g gT] ?_
                    refine Wp.ct (B := true) rfl ?_
                    refine Wp.sr [] ?_
                    refine Wp.ret ?_
                    refine ⟨rfl, ?_⟩
                    refine ⟨rfl, ?_⟩
                    refine ⟨rfl, ?_⟩
                    refine ⟨rfl, ?_⟩
                    refine ⟨rfl, ?_⟩
                    refine ⟨rfl, ?_⟩
                    refine fin_r (.sc (.bool true)) ?_
                    rw [Pn.heavyP_none (by rw [hhj, Pn.drop_next hx5]; exact Pn.hvC_none (by rw [hhk, Pn.drop_next hx21]; exact Pn.hvM_g (by omega)))]
                  · skip
                    by_cases h30 : (((x22.body.length : Nat) : Int) : Int) > 500
                    · skip
                      refine Wp.sr [.n (lenm Pn.encVr x22.params), .g (show (decide ((((x22.params.length : Nat) : Int) : Int) > 40)) = false from (by first | (simp [h28]; done) | (simp only [h28, decide_false, decide_true, Bool.not_true, Bool.not_false, Bool.false_eq_true, not_false_eq_true, beq_self_eq_true]; done))), .n (lenm Pn.encVr x22.locals), .g (show (decide ((((x22.locals.length : Nat) : Int) : Int) > 40)) = false from (by first | (simp [h29]; done) | (simp only [h29, decide_false, decide_true, Bool.not_true, Bool.not_false, Bool.false_eq_true, not_false_eq_true, beq_self_eq_true]; done))), .n (lenm Pn.encS x22.body), .g (show (decide ((((x22.body.length : Nat) : Int) : Int) > 500)) = true from (by first | (simp [h30]; done) | (simp only [h30, decide_false, decide_true, Bool.not_true, Bool.not_false, Bool.false_eq_true, not_false_eq_true, beq_self_eq_true]; done)))] ?_
                      refine Wp.ct (B := true) rfl ?_
                      refine Wp.sr [] ?_
                      refine Wp.ret ?_
                      refine ⟨rfl, ?_⟩
                      refine ⟨rfl, ?_⟩
                      refine ⟨rfl, ?_⟩
                      refine ⟨rfl, ?_⟩
                      refine ⟨rfl, ?_⟩
                      refine ⟨rfl, ?_⟩
                      refine fin_r (.sc (.bool true)) ?_
                      rw [Pn.heavyP_none (by rw [hhj, Pn.drop_next hx5]; exact Pn.hvC_none (by rw [hhk, Pn.drop_next hx21]; exact Pn.hvM_g (by omega)))]
                    · skip
                      refine Wp.sr [.n (lenm Pn.encVr x22.params), .g (show (decide ((((x22.params.length : Nat) : Int) : Int) > 40)) = false from (by first | (simp [h28]; done) | (simp only [h28, decide_false, decide_true, Bool.not_true, Bool.not_false, Bool.false_eq_true, not_false_eq_true, beq_self_eq_true]; done))), .n (lenm Pn.encVr x22.locals), .g (show (decide ((((x22.locals.length : Nat) : Int) : Int) > 40)) = false from (by first | (simp [h29]; done) | (simp only [h29, decide_false, decide_true, Bool.not_true, Bool.not_false, Bool.false_eq_true, not_false_eq_true, beq_self_eq_true]; done))), .n (lenm Pn.encS x22.body), .g (show (decide ((((x22.body.length : Nat) : Int) : Int) > 500)) = false from (by first | (simp [h30]; done) | (simp only [h30, decide_false, decide_true, Bool.not_true, Bool.not_false, Bool.false_eq_true, not_false_eq_true, beq_self_eq_true]; done))), .c (uniq10 x22 (by omega) (by omega))] ?_
                      refine Wp.cd (decide (((((Pn.uniqV x22.params + Pn.uniqV x22.locals) : Nat) : Int) : Int) > 8)) (fun h31 => ?_) (fun h31 => ?_)
                      · have h31 := of_decide_eq_true h31
                        refine Wp.sr [] ?_
                        refine Wp.ret ?_
                        refine ⟨rfl, ?_⟩
                        refine ⟨rfl, ?_⟩
                        refine ⟨rfl, ?_⟩
                        refine ⟨rfl, ?_⟩
                        refine ⟨rfl, ?_⟩
                        refine ⟨rfl, ?_⟩
                        refine fin_r (.sc (.bool true)) ?_
                        rw [Pn.heavyP_none (by rw [hhj, Pn.drop_next hx5]; exact Pn.hvC_none (by rw [hhk, Pn.drop_next hx21]; exact Pn.hvM_g (by omega)))]
                      · have h31 := of_decide_eq_false h31
                        refine Wp.skip ?_
                        refine Wp.sr [] ?_
                        refine Wp.block ?_
                        refine Wp.lp (α := (Nat) × (Nat)) (fun | ⟨q, nc⟩ => ⟨mk 106 [(0, (.ls none (List.map Pn.encCl p))), (3, (.sc (.int .i64 ((nc : Nat) : Int)))), (4, (.sc (.int .i64 ((j : Nat) : Int)))), (5, (.pt 5 0)), (6, (.sc (.int .i64 ((k : Nat) : Int)))), (7, (.pt 7 0)), (8, (.sc (.int .i64 ((q : Nat) : Int)))), (12, (.sc (.bool (decide ((((j : Nat) : Int) : Int) < ((p.length : Nat) : Int)))))), (45, (.sc (.bool (decide ((((x6.methods.length : Nat) : Int) : Int) > 40))))), (50, (.sc (.bool (decide ((((k : Nat) : Int) : Int) < ((x6.methods.length : Nat) : Int)))))), (78, (.sc (.bool (decide (((((Pn.uniqV x22.params + Pn.uniqV x22.locals) : Nat) : Int) : Int) > 8)))))], [(5, (Pn.cCl x6)), (7, (Pn.cMe x22))], y0⟩) (fun | ⟨q, nc⟩ => q ≤ x22.body.length ∧ Pn.hvB nb x22.body = Pn.hvB nc (x22.body.drop q)) (fun | ⟨q, nc⟩ => x22.body.length - q) (0, nb) ?_ ?_
                        · exact ⟨Nat.zero_le _, by rw [List.drop_zero]⟩
                        rintro ⟨q, nc⟩ hv32
                        obtain ⟨hlq, hhq⟩ := hv32
                        refine Wp.seq ?_
                        refine Wp.sr [.n (lenm Pn.encS x22.body)] ?_
                        refine Wp.cd (decide ((((q : Nat) : Int) : Int) < ((x22.body.length : Nat) : Int))) (fun h33 => ?_) (fun h33 => ?_)
                        · have h33 := of_decide_eq_true h33
                          refine Wp.skip ?_
                          refine Wp.seq ?_
                          refine Wp.block ?_
                          refine Wp.seq ?_
                          by_cases h34 : (((nc : Nat) : Int) : Int) > 500
                          · skip
                            refine Wp.sr [.g (show (decide ((((nc : Nat) : Int) : Int) > 500)) = true from (by simp [h34]))] ?_
                            refine Wp.ct (B := true) rfl ?_
                            refine Wp.sr [] ?_
                            refine Wp.ret ?_
                            refine ⟨rfl, ?_⟩
                            refine ⟨rfl, ?_⟩
                            refine ⟨rfl, ?_⟩
                            refine ⟨rfl, ?_⟩
                            refine ⟨rfl, ?_⟩
                            refine ⟨rfl, ?_⟩
                            refine ⟨rfl, ?_⟩
                            refine ⟨rfl, ?_⟩
                            refine fin_r (.sc (.bool true)) ?_
                            rw [Pn.heavyP_none (by rw [hhj, Pn.drop_next hx5]; exact Pn.hvC_none (by rw [hhk, Pn.drop_next hx21]; exact Pn.hvM_none (by rw [hhq]; exact Pn.hvB_gt (by assumption) (by omega))))]
                          · skip
                            obtain ⟨x37, hx36⟩ : ∃ z0, (x22.body)[q]? = some z0 := ⟨_, List.getElem?_eq_getElem (by omega)⟩
                            have hR39 : Fine (.ag (Pn.cS x37)) := hF27.row hx36 (Pn.encS_eq x37)
                            have hF40 : Fine (.ls none (List.map Pn.encX x37.e.kids)) := hR39.at 18 rfl
                            have hF40l := hF40.lenm
                            have hF41 : Fine (.ls none (List.map Pn.encX x37.args)) := hR39.at 19 rfl
                            have hF41l := hF41.lenm
                            have hF42 : Fine (.ls none (List.map Pn.encS x37.body)) := hR39.at 20 rfl
                            have hF42l := hF42.lenm
                            have hF43 : Fine (.ls none (List.map Pn.encS x37.els)) := hR39.at 21 rfl
                            have hF43l := hF43.lenm
                            have x37_c := Pn.cntSs_next hx36
                            have x37_lc := Pn.sum_le Pn.cntSs_app (x22.body) (q + 1)
                            refine Wp.sr [.g (show (decide ((((nc : Nat) : Int) : Int) > 500)) = false from (by simp [h34])), .i (Pn.map_to hx36 (Pn.encS_eq x37)), .c (much10 x37 25 (by omega))] ?_
                            refine Wp.cd (Pn.muchB x37 25) (fun h44 => ?_) (fun h44 => ?_)
                            · skip
                              refine Wp.sr [] ?_
                              refine Wp.ret ?_
                              refine ⟨rfl, ?_⟩
                              refine ⟨rfl, ?_⟩
                              refine ⟨rfl, ?_⟩
                              refine ⟨rfl, ?_⟩
                              refine ⟨rfl, ?_⟩
                              refine ⟨rfl, ?_⟩
                              refine ⟨rfl, ?_⟩
                              refine ⟨rfl, ?_⟩
                              refine fin_r (.sc (.bool true)) ?_
                              rw [Pn.heavyP_none (by rw [hhj, Pn.drop_next hx5]; exact Pn.hvC_none (by rw [hhk, Pn.drop_next hx21]; exact Pn.hvM_none (by rw [hhq, Pn.drop_next hx36]; exact Pn.hvB_g (by first | exact .inl (by assumption) | exact .inr (by assumption)))))]
                            · have h44 := Bool.eq_false_iff.1 h44
                              refine Wp.skip ?_
                              refine Wp.rg [.i (Pn.map_to hx36 (Pn.encS_eq x37)), .c (size08 x37 (by omega)), .z (int_add (x := ((nc : Nat) : Int)) (y := (((Pn.cntS x37) : Nat) : Int)) (z := (((nc + (Pn.cntS x37)) : Nat) : Int)) (by omega) (by omega) (by omega))] ?_
                              refine Wp.rg [.z (int_add (x := ((q : Nat) : Int)) (y := 1) (z := (((q + 1) : Nat) : Int)) (by omega) (by omega) (by omega))] ?_
                              refine ⟨((q + 1), (nc + (Pn.cntS x37))), .rf, ?_, ?_⟩
                              · exact ⟨Pn.len_lt hx36, by rw [hhq, Pn.drop_next hx36]; exact Pn.hvB_some (by assumption) (by assumption)⟩
                              · simp only; omega
                        · have h33 := of_decide_eq_false h33
                          refine Wp.exit ?_
                          refine ⟨rfl, ?_⟩
                          refine ⟨rfl, ?_⟩
                          refine Wp.rg [.z (int_add (x := ((k : Nat) : Int)) (y := 1) (z := (((k + 1) : Nat) : Int)) (by omega) (by omega) (by omega))] ?_
                          refine ⟨((k + 1), nc), .rf, ?_, ?_⟩
                          · exact ⟨Pn.len_lt hx21, by rw [hhk, Pn.drop_next hx21]; exact Pn.hvM_some (by omega) (by rw [hhq, Pn.drop_end (by omega)]; rfl)⟩
                          · simp only; omega
              · have h19 := of_decide_eq_false h19
                refine Wp.exit ?_
                refine ⟨rfl, ?_⟩
                refine ⟨rfl, ?_⟩
                refine Wp.rg [.z (int_add (x := ((j : Nat) : Int)) (y := 1) (z := (((j + 1) : Nat) : Int)) (by omega) (by omega) (by omega))] ?_
                refine ⟨((j + 1), nb), .rf, ?_, ?_⟩
                · exact ⟨Pn.len_lt hx5, by rw [hhj, Pn.drop_next hx5]; exact Pn.hvC_some (by omega) (by rw [hhk, Pn.drop_end (by omega)]; rfl)⟩
                · simp only; omega
  · have h3 := of_decide_eq_false h3
    refine Wp.exit ?_
    refine ⟨rfl, ?_⟩
    refine ⟨rfl, ?_⟩
    refine Wp.sr [] ?_
    refine Wp.ret ?_
    refine fin_r (.sc (.bool (decide ((((n : Nat) : Int) : Int) > 500)))) ?_
    rw [Pn.heavyP_some (by rw [hhj, Pn.drop_end (by omega)]; rfl)]
end Go.Proofs.YtjghgpmkepfdhaaGreatDoor
namespace Go.Proofs.YtjghgpmkepfdhaaGreatDoor
open Go.RowKit
set_option linter.unusedVariables false
set_option linter.unusedSimpArgs false
set_option maxRecDepth 100000
set_option maxHeartbeats 4000000

theorem equalfCl (G : Nat) (fs cs : List AV) (hen : ∀ vs w, (callFunc G vs).run Tryz.prog w = .ok (.enter G vs) w) (a b : List Pn.Cl) (R : Pn.Cl → Pn.Cl → Bool) (H : ∀ x ∈ a, ∀ y ∈ b, PCalls Tryz.prog G (fs ++ [(.ag (Pn.cCl x)), (.ag (Pn.cCl y))] ++ cs) (.sc (.bool (R x y)))) : PCalls Tryz.prog 32 [(.ls none (List.map Pn.encCl a)), (.ls none (List.map Pn.encCl b)), (.fn (.func G) fs cs)] (.sc (.bool (Pn.all2 R a b))) := by
  refine pcalls_fine fun hfa => ?_
  have hF1 := hfa 0 _ rfl
  have hF1l := hF1.lenm
  have hF2 := hfa 1 _ rfl
  have hF2l := hF2.lenm
  refine pcalls_rf mixed Tryz.func32 rfl ?_
  refine Wp.sr [] ?_
  refine Wp.seq ?_
  refine Wp.sr [.n (lenm Pn.encCl a), .n (lenm Pn.encCl b)] ?_
  refine Wp.cd (!decide ((((a.length : Nat) : Int) : Int) = ((b.length : Nat) : Int))) (fun h3 => ?_) (fun h3 => ?_)
  · have h3 : ¬ ((((a.length : Nat) : Int) : Int) = ((b.length : Nat) : Int)) := by simpa using h3
    refine Wp.sr [] ?_
    refine Wp.ret ?_
    refine ⟨rfl, ?_⟩
    refine fin_r (.sc (.bool false)) ?_
    rw [Pn.all2_len (by omega)]
  · have h3 : ((((a.length : Nat) : Int) : Int) = ((b.length : Nat) : Int)) := by simpa using h3
    refine Wp.skip ?_
    refine Wp.seq ?_
    refine Wp.sr [.n (lenm Pn.encCl a)] ?_
    refine Wp.block ?_
    refine Wp.lp (α := (Nat)) (fun | j => ⟨mk 32 [(0, (.ls none (List.map Pn.encCl a))), (1, (.ls none (List.map Pn.encCl b))), (2, (.fn (.func G) fs cs)), (14, (.sc (.bool (!decide ((((a.length : Nat) : Int) : Int) = ((b.length : Nat) : Int)))))), (15, (.ls none (List.map Pn.encCl a))), (16, (.sc (.int .i64 ((a.length : Nat) : Int)))), (17, (.sc (.int .i64 ((j : Nat) : Int))))], [], y0⟩) (fun | j => j ≤ a.length ∧ Pn.all2 R (a.take j) (b.take j) = true) (fun | j => a.length - j) 0 ?_ ?_
    · exact ⟨Nat.zero_le _, by simp [Pn.all2]⟩
    rintro j hv4
    obtain ⟨hlj, htj⟩ := hv4
    refine Wp.sr [] ?_
    refine Wp.seq ?_
    refine Wp.cd (decide ((((j : Nat) : Int) : Int) < ((a.length : Nat) : Int))) (fun h5 => ?_) (fun h5 => ?_)
    · have h5 := of_decide_eq_true h5
      refine Wp.skip ?_
      refine Wp.seq ?_
      refine Wp.block ?_
      obtain ⟨x8, hx7⟩ : ∃ z0, (a)[j]? = some z0 := ⟨_, List.getElem?_eq_getElem (by omega)⟩
      have hR10 : Fine (.ag (Pn.cCl x8)) := hF1.row hx7 rfl
      have hF11 : Fine (.ls none (List.map Pn.encStr x8.params)) := hR10.at 1 rfl
      have hF11l := hF11.lenm
      have hF12 : Fine (.ls none (List.map Pn.encOw x8.above)) := hR10.at 3 rfl
      have hF12l := hF12.lenm
      have hF13 : Fine (.ls none (List.map Pn.encVr x8.fields)) := hR10.at 4 rfl
      have hF13l := hF13.lenm
      have hF14 : Fine (.ls none (List.map Pn.encMe x8.methods)) := hR10.at 5 rfl
      have hF14l := hF14.lenm
      refine Wp.sr [.i (map_get Pn.encCl hx7)] ?_
      obtain ⟨x17, hx16⟩ : ∃ z0, (b)[j]? = some z0 := ⟨_, List.getElem?_eq_getElem (by omega)⟩
      have hR19 : Fine (.ag (Pn.cCl x17)) := hF2.row hx16 rfl
      have hF20 : Fine (.ls none (List.map Pn.encStr x17.params)) := hR19.at 1 rfl
      have hF20l := hF20.lenm
      have hF21 : Fine (.ls none (List.map Pn.encOw x17.above)) := hR19.at 3 rfl
      have hF21l := hF21.lenm
      have hF22 : Fine (.ls none (List.map Pn.encVr x17.fields)) := hR19.at 4 rfl
      have hF22l := hF22.lenm
      have hF23 : Fine (.ls none (List.map Pn.encMe x17.methods)) := hR19.at 5 rfl
      have hF23l := hF23.lenm
      refine Wp.sr [.i (map_get Pn.encCl hx16)] ?_
      refine Wp.sr [.cv hen (H x8 (List.mem_of_getElem? hx7) x17 (List.mem_of_getElem? hx16))] ?_
      refine Wp.cd (!(R x8 x17)) (fun h24 => ?_) (fun h24 => ?_)
      · have h24 : ¬ ((R x8 x17) = true) := by simpa using h24
        refine Wp.sr [] ?_
        refine Wp.ret ?_
        refine ⟨rfl, ?_⟩
        refine ⟨rfl, ?_⟩
        refine ⟨rfl, ?_⟩
        refine fin_r (.sc (.bool false)) ?_
        rw [Pn.all2_false hx7 hx16 (by simp [h3, h5, h24])]
      · have h24 : ((R x8 x17) = true) := by simpa using h24
        refine Wp.skip ?_
        refine Wp.rg [.z (int_add (x := ((j : Nat) : Int)) (y := 1) (z := (((j + 1) : Nat) : Int)) (by omega) (by omega) (by omega))] ?_
        refine ⟨(j + 1), .rf, ?_, ?_⟩
        · exact ⟨Pn.len_lt hx7, Pn.all2_next hx7 hx16 htj (by simp [h3, h5, h24])⟩
        · simp only; omega
    · have h5 := of_decide_eq_false h5
      refine Wp.exit ?_
      refine ⟨rfl, ?_⟩
      refine ⟨rfl, ?_⟩
      refine Wp.sr [] ?_
      refine Wp.ret ?_
      refine fin_r (.sc (.bool true)) ?_
      rw [Pn.all2_end htj (by assumption) (by omega)]

theorem equalSt (a b : List ByteArray) : PCalls Tryz.prog 60 [(.ls none (List.map Pn.encStr a)), (.ls none (List.map Pn.encStr b))] (.sc (.bool (Pn.all2 (fun x y => decide (x = y)) a b))) := by
  refine pcalls_fine fun hfa => ?_
  have hF1 := hfa 0 _ rfl
  have hF1l := hF1.lenm
  have hF2 := hfa 1 _ rfl
  have hF2l := hF2.lenm
  refine pcalls_rf mixed Tryz.func60 rfl ?_
  refine Wp.sr [] ?_
  refine Wp.seq ?_
  refine Wp.sr [.n (lenm Pn.encStr a), .n (lenm Pn.encStr b)] ?_
  refine Wp.cd (!decide ((((a.length : Nat) : Int) : Int) = ((b.length : Nat) : Int))) (fun h3 => ?_) (fun h3 => ?_)
  · have h3 : ¬ ((((a.length : Nat) : Int) : Int) = ((b.length : Nat) : Int)) := by simpa using h3
    refine Wp.sr [] ?_
    refine Wp.ret ?_
    refine ⟨rfl, ?_⟩
    refine fin_r (.sc (.bool false)) ?_
    rw [Pn.all2_len (by omega)]
  · have h3 : ((((a.length : Nat) : Int) : Int) = ((b.length : Nat) : Int)) := by simpa using h3
    refine Wp.skip ?_
    refine Wp.seq ?_
    refine Wp.sr [.n (lenm Pn.encStr a)] ?_
    refine Wp.block ?_
    refine Wp.lp (α := (Nat)) (fun | j => ⟨mk 26 [(0, (.ls none (List.map Pn.encStr a))), (1, (.ls none (List.map Pn.encStr b))), (10, (.sc (.bool (!decide ((((a.length : Nat) : Int) : Int) = ((b.length : Nat) : Int)))))), (12, (.sc (.int .i64 ((a.length : Nat) : Int)))), (13, (.sc (.int .i64 ((j : Nat) : Int))))], [], y0⟩) (fun | j => j ≤ a.length ∧ Pn.all2 (fun x y => decide (x = y)) (a.take j) (b.take j) = true) (fun | j => a.length - j) 0 ?_ ?_
    · exact ⟨Nat.zero_le _, by simp [Pn.all2]⟩
    rintro j hv4
    obtain ⟨hlj, htj⟩ := hv4
    refine Wp.sr [] ?_
    refine Wp.seq ?_
    refine Wp.cd (decide ((((j : Nat) : Int) : Int) < ((a.length : Nat) : Int))) (fun h5 => ?_) (fun h5 => ?_)
    · have h5 := of_decide_eq_true h5
      refine Wp.skip ?_
      refine Wp.seq ?_
      refine Wp.block ?_
      refine Wp.sr [] ?_
      obtain ⟨x8, hx7⟩ : ∃ z0, (a)[j]? = some z0 := ⟨_, List.getElem?_eq_getElem (by omega)⟩
      obtain ⟨x12, hx11⟩ : ∃ z0, (b)[j]? = some z0 := ⟨_, List.getElem?_eq_getElem (by omega)⟩
      refine Wp.sr [.i (map_get Pn.encStr hx7), .i (map_get Pn.encStr hx11)] ?_
      refine Wp.cd (!decide (x8 = (x12 : ByteArray))) (fun h14 => ?_) (fun h14 => ?_)
      · have h14 : ¬ (x8 = (x12 : ByteArray)) := by simpa using h14
        refine Wp.sr [] ?_
        refine Wp.ret ?_
        refine ⟨rfl, ?_⟩
        refine ⟨rfl, ?_⟩
        refine ⟨rfl, ?_⟩
        refine fin_r (.sc (.bool false)) ?_
        rw [Pn.all2_false hx7 hx11 (by simp [h3, h5, h14])]
      · have h14 : (x8 = (x12 : ByteArray)) := by simpa using h14
        refine Wp.skip ?_
        refine Wp.rg [.z (int_add (x := ((j : Nat) : Int)) (y := 1) (z := (((j + 1) : Nat) : Int)) (by omega) (by omega) (by omega))] ?_
        refine ⟨(j + 1), .rf, ?_, ?_⟩
        · exact ⟨Pn.len_lt hx7, Pn.all2_next hx7 hx11 htj (by simp [h3, h5, h14])⟩
        · simp only; omega
    · have h5 := of_decide_eq_false h5
      refine Wp.exit ?_
      refine ⟨rfl, ?_⟩
      refine ⟨rfl, ?_⟩
      refine Wp.sr [] ?_
      refine Wp.ret ?_
      refine fin_r (.sc (.bool true)) ?_
      rw [Pn.all2_end htj (by assumption) (by omega)]

theorem equalOw (a b : List Pn.Ow) : PCalls Tryz.prog 61 [(.ls none (List.map Pn.encOw a)), (.ls none (List.map Pn.encOw b))] (.sc (.bool (Pn.all2 (fun x y => decide (x = y)) a b))) := by
  refine pcalls_fine fun hfa => ?_
  have hF1 := hfa 0 _ rfl
  have hF1l := hF1.lenm
  have hF2 := hfa 1 _ rfl
  have hF2l := hF2.lenm
  refine pcalls_rf mixed Tryz.func61 rfl ?_
  refine Wp.sr [] ?_
  refine Wp.seq ?_
  refine Wp.sr [.n (lenm Pn.encOw a), .n (lenm Pn.encOw b)] ?_
  refine Wp.cd (!decide ((((a.length : Nat) : Int) : Int) = ((b.length : Nat) : Int))) (fun h3 => ?_) (fun h3 => ?_)
  · have h3 : ¬ ((((a.length : Nat) : Int) : Int) = ((b.length : Nat) : Int)) := by simpa using h3
    refine Wp.sr [] ?_
    refine Wp.ret ?_
    refine ⟨rfl, ?_⟩
    refine fin_r (.sc (.bool false)) ?_
    rw [Pn.all2_len (by omega)]
  · have h3 : ((((a.length : Nat) : Int) : Int) = ((b.length : Nat) : Int)) := by simpa using h3
    refine Wp.skip ?_
    refine Wp.seq ?_
    refine Wp.sr [.n (lenm Pn.encOw a)] ?_
    refine Wp.block ?_
    refine Wp.lp (α := (Nat)) (fun | j => ⟨mk 26 [(0, (.ls none (List.map Pn.encOw a))), (1, (.ls none (List.map Pn.encOw b))), (10, (.sc (.bool (!decide ((((a.length : Nat) : Int) : Int) = ((b.length : Nat) : Int)))))), (12, (.sc (.int .i64 ((a.length : Nat) : Int)))), (13, (.sc (.int .i64 ((j : Nat) : Int))))], [], y0⟩) (fun | j => j ≤ a.length ∧ Pn.all2 (fun x y => decide (x = y)) (a.take j) (b.take j) = true) (fun | j => a.length - j) 0 ?_ ?_
    · exact ⟨Nat.zero_le _, by simp [Pn.all2]⟩
    rintro j hv4
    obtain ⟨hlj, htj⟩ := hv4
    refine Wp.sr [] ?_
    refine Wp.seq ?_
    refine Wp.cd (decide ((((j : Nat) : Int) : Int) < ((a.length : Nat) : Int))) (fun h5 => ?_) (fun h5 => ?_)
    · have h5 := of_decide_eq_true h5
      refine Wp.skip ?_
      refine Wp.seq ?_
      refine Wp.block ?_
      refine Wp.sr [] ?_
      obtain ⟨x8, hx7⟩ : ∃ z0, (a)[j]? = some z0 := ⟨_, List.getElem?_eq_getElem (by omega)⟩
      obtain ⟨x12, hx11⟩ : ∃ z0, (b)[j]? = some z0 := ⟨_, List.getElem?_eq_getElem (by omega)⟩
      refine Wp.sr [.i (map_get Pn.encOw hx7), .i (map_get Pn.encOw hx11), .e (eqOw x8 x12)] ?_
      refine Wp.cd (true ^^ (decide (x8 = x12))) (fun h14 => ?_) (fun h14 => ?_)
      · have h14 : ¬ (x8 = x12) := by simpa using h14
        refine Wp.sr [] ?_
        refine Wp.ret ?_
        refine ⟨rfl, ?_⟩
        refine ⟨rfl, ?_⟩
        refine ⟨rfl, ?_⟩
        refine fin_r (.sc (.bool false)) ?_
        rw [Pn.all2_false hx7 hx11 (by simp [h3, h5, h14])]
      · have h14 : (x8 = x12) := by simpa using h14
        refine Wp.skip ?_
        refine Wp.rg [.z (int_add (x := ((j : Nat) : Int)) (y := 1) (z := (((j + 1) : Nat) : Int)) (by omega) (by omega) (by omega))] ?_
        refine ⟨(j + 1), .rf, ?_, ?_⟩
        · exact ⟨Pn.len_lt hx7, Pn.all2_next hx7 hx11 htj (by simp [h3, h5, h14])⟩
        · simp only; omega
    · have h5 := of_decide_eq_false h5
      refine Wp.exit ?_
      refine ⟨rfl, ?_⟩
      refine ⟨rfl, ?_⟩
      refine Wp.sr [] ?_
      refine Wp.ret ?_
      refine fin_r (.sc (.bool true)) ?_
      rw [Pn.all2_end htj (by assumption) (by omega)]
end Go.Proofs.YtjghgpmkepfdhaaGreatDoor
