/- The program's functions, told by plain functions. Conditions: none.
The program's functions, told by plain functions. Conditions: none.
The program's functions, told by plain functions. Conditions: none.
The program's functions, told by plain functions. Conditions: none.
The program's functions, told by plain functions. Conditions: none.
The document's answers, told by plain functions. Conditions: none.
The document's answers, told by plain functions. Conditions: none.
The document's answers, told by plain functions. Conditions: none.
The document's answers, told by plain functions. Conditions: none. -/
import Derived.Test.YtjghgpmkepfdhaaGreatDoorZae
import Derived.Test.YtjghgpmkepfdhaaGreatDoorChecked
import Derived.Test.YtjghgpmkepfdhaaGreatDoorZag
import Derived.Test.YtjghgpmkepfdhaaGreatDoorZaf
import Derived.Test.YtjghgpmkepfdhaaGreatDoorZay
import Derived.Test.YtjghgpmkepfdhaaGreatDoorZba
namespace Go.Proofs.YtjghgpmkepfdhaaGreatDoor
open Go.RowKit
set_option linter.unusedVariables false
set_option linter.unusedSimpArgs false
set_option maxRecDepth 100000
set_option maxHeartbeats 4000000

theorem equalfVr (G : Nat) (fs cs : List AV) (hen : ∀ vs w, (callFunc G vs).run Tryz.prog w = .ok (.enter G vs) w) (a b : List Pn.Vr) (R : Pn.Vr → Pn.Vr → Bool) (H : ∀ x ∈ a, ∀ y ∈ b, PCalls Tryz.prog G (fs ++ [(.ag (Pn.cVr x)), (.ag (Pn.cVr y))] ++ cs) (.sc (.bool (R x y)))) : PCalls Tryz.prog 62 [(.ls none (List.map Pn.encVr a)), (.ls none (List.map Pn.encVr b)), (.fn (.func G) fs cs)] (.sc (.bool (Pn.all2 R a b))) := by
  refine pcalls_fine fun hfa => ?_
  have hF1 := hfa 0 _ rfl
  have hF1l := hF1.lenm
  have hF2 := hfa 1 _ rfl
  have hF2l := hF2.lenm
  refine pcalls_rf mixed Tryz.func62 rfl ?_
  refine Wp.sr [] ?_
  refine Wp.seq ?_
  refine Wp.sr [.n (lenm Pn.encVr a), .n (lenm Pn.encVr b)] ?_
  refine Wp.cd (!decide ((((a.length : Nat) : Int) : Int) = ((b.length : Nat) : Int))) (fun h3 => ?_) (fun h3 => ?_)
  · have h3 : ¬ ((((a.length : Nat) : Int) : Int) = ((b.length : Nat) : Int)) := by simpa using h3
    refine Wp.sr [] ?_
    refine Wp.ret ?_
    refine ⟨rfl, ?_⟩
    refine fin_r (.sc (.bool false)) ?_
    rw [Pn.all2_len (by omega)]
  · have h3 : ((((a.length : Nat) : Int) : Int) = ((b.length : Nat) : Int)) := by simpa using h3
    refine Wp.skip ?_
    refine Wp.seq ?_
    refine Wp.sr [.n (lenm Pn.encVr a)] ?_
    refine Wp.block ?_
    refine Wp.lp (α := (Nat)) (fun | j => ⟨mk 32 [(0, (.ls none (List.map Pn.encVr a))), (1, (.ls none (List.map Pn.encVr b))), (2, (.fn (.func G) fs cs)), (14, (.sc (.bool (!decide ((((a.length : Nat) : Int) : Int) = ((b.length : Nat) : Int)))))), (15, (.ls none (List.map Pn.encVr a))), (16, (.sc (.int .i64 ((a.length : Nat) : Int)))), (17, (.sc (.int .i64 ((j : Nat) : Int))))], [], y0⟩) (fun | j => j ≤ a.length ∧ Pn.all2 R (a.take j) (b.take j) = true) (fun | j => a.length - j) 0 ?_ ?_
    · exact ⟨Nat.zero_le _, by simp [Pn.all2]⟩
    rintro j hv4
    obtain ⟨hlj, htj⟩ := hv4
    refine Wp.sr [] ?_
    refine Wp.seq ?_
    refine Wp.cd (decide ((((j : Nat) : Int) : Int) < ((a.length : Nat) : Int))) (fun h5 => ?_) (fun h5 => ?_)
    · have h5 := of_decide_eq_true h5
      refine Wp.skip ?_
      refine Wp.seq ?_
      refine Wp.block ?_
      obtain ⟨x8, hx7⟩ : ∃ z0, (a)[j]? = some z0 := ⟨_, List.getElem?_eq_getElem (by omega)⟩
      refine Wp.sr [.i (map_get Pn.encVr hx7)] ?_
      obtain ⟨x12, hx11⟩ : ∃ z0, (b)[j]? = some z0 := ⟨_, List.getElem?_eq_getElem (by omega)⟩
      refine Wp.sr [.i (map_get Pn.encVr hx11)] ?_
      refine Wp.sr [.cv hen (H x8 (List.mem_of_getElem? hx7) x12 (List.mem_of_getElem? hx11))] ?_
      refine Wp.cd (!(R x8 x12)) (fun h14 => ?_) (fun h14 => ?_)
      · have h14 : ¬ ((R x8 x12) = true) := by simpa using h14
        refine Wp.sr [] ?_
        refine Wp.ret ?_
        refine ⟨rfl, ?_⟩
        refine ⟨rfl, ?_⟩
        refine ⟨rfl, ?_⟩
        refine fin_r (.sc (.bool false)) ?_
        rw [Pn.all2_false hx7 hx11 (by simp [h3, h5, h14])]
      · have h14 : ((R x8 x12) = true) := by simpa using h14
        refine Wp.skip ?_
        refine Wp.rg [.z (int_add (x := ((j : Nat) : Int)) (y := 1) (z := (((j + 1) : Nat) : Int)) (by omega) (by omega) (by omega))] ?_
        refine ⟨(j + 1), .rf, ?_, ?_⟩
        · exact ⟨Pn.len_lt hx7, Pn.all2_next hx7 hx11 htj (by simp [h3, h5, h14])⟩
        · simp only; omega
    · have h5 := of_decide_eq_false h5
      refine Wp.exit ?_
      refine ⟨rfl, ?_⟩
      refine ⟨rfl, ?_⟩
      refine Wp.sr [] ?_
      refine Wp.ret ?_
      refine fin_r (.sc (.bool true)) ?_
      rw [Pn.all2_end htj (by assumption) (by omega)]

theorem equalfMe (G : Nat) (fs cs : List AV) (hen : ∀ vs w, (callFunc G vs).run Tryz.prog w = .ok (.enter G vs) w) (a b : List Pn.Me) (R : Pn.Me → Pn.Me → Bool) (H : ∀ x ∈ a, ∀ y ∈ b, PCalls Tryz.prog G (fs ++ [(.ag (Pn.cMe x)), (.ag (Pn.cMe y))] ++ cs) (.sc (.bool (R x y)))) : PCalls Tryz.prog 64 [(.ls none (List.map Pn.encMe a)), (.ls none (List.map Pn.encMe b)), (.fn (.func G) fs cs)] (.sc (.bool (Pn.all2 R a b))) := by
  refine pcalls_fine fun hfa => ?_
  have hF1 := hfa 0 _ rfl
  have hF1l := hF1.lenm
  have hF2 := hfa 1 _ rfl
  have hF2l := hF2.lenm
  refine pcalls_rf mixed Tryz.func64 rfl ?_
  refine Wp.sr [] ?_
  refine Wp.seq ?_
  refine Wp.sr [.n (lenm Pn.encMe a), .n (lenm Pn.encMe b)] ?_
  refine Wp.cd (!decide ((((a.length : Nat) : Int) : Int) = ((b.length : Nat) : Int))) (fun h3 => ?_) (fun h3 => ?_)
  · have h3 : ¬ ((((a.length : Nat) : Int) : Int) = ((b.length : Nat) : Int)) := by simpa using h3
    refine Wp.sr [] ?_
    refine Wp.ret ?_
    refine ⟨rfl, ?_⟩
    refine fin_r (.sc (.bool false)) ?_
    rw [Pn.all2_len (by omega)]
  · have h3 : ((((a.length : Nat) : Int) : Int) = ((b.length : Nat) : Int)) := by simpa using h3
    refine Wp.skip ?_
    refine Wp.seq ?_
    refine Wp.sr [.n (lenm Pn.encMe a)] ?_
    refine Wp.block ?_
    refine Wp.lp (α := (Nat)) (fun | j => ⟨mk 32 [(0, (.ls none (List.map Pn.encMe a))), (1, (.ls none (List.map Pn.encMe b))), (2, (.fn (.func G) fs cs)), (14, (.sc (.bool (!decide ((((a.length : Nat) : Int) : Int) = ((b.length : Nat) : Int)))))), (15, (.ls none (List.map Pn.encMe a))), (16, (.sc (.int .i64 ((a.length : Nat) : Int)))), (17, (.sc (.int .i64 ((j : Nat) : Int))))], [], y0⟩) (fun | j => j ≤ a.length ∧ Pn.all2 R (a.take j) (b.take j) = true) (fun | j => a.length - j) 0 ?_ ?_
    · exact ⟨Nat.zero_le _, by simp [Pn.all2]⟩
    rintro j hv4
    obtain ⟨hlj, htj⟩ := hv4
    refine Wp.sr [] ?_
    refine Wp.seq ?_
    refine Wp.cd (decide ((((j : Nat) : Int) : Int) < ((a.length : Nat) : Int))) (fun h5 => ?_) (fun h5 => ?_)
    · have h5 := of_decide_eq_true h5
      refine Wp.skip ?_
      refine Wp.seq ?_
      refine Wp.block ?_
      obtain ⟨x8, hx7⟩ : ∃ z0, (a)[j]? = some z0 := ⟨_, List.getElem?_eq_getElem (by omega)⟩
      have hR10 : Fine (.ag (Pn.cMe x8)) := hF1.row hx7 rfl
      have hF11 : Fine (.ls none (List.map Pn.encVr x8.params)) := hR10.at 13 rfl
      have hF11l := hF11.lenm
      have hF12 : Fine (.ls none (List.map Pn.encVr x8.locals)) := hR10.at 14 rfl
      have hF12l := hF12.lenm
      have hF13 : Fine (.ls none (List.map Pn.encS x8.body)) := hR10.at 15 rfl
      have hF13l := hF13.lenm
      refine Wp.sr [.i (map_get Pn.encMe hx7)] ?_
      obtain ⟨x16, hx15⟩ : ∃ z0, (b)[j]? = some z0 := ⟨_, List.getElem?_eq_getElem (by omega)⟩
      have hR18 : Fine (.ag (Pn.cMe x16)) := hF2.row hx15 rfl
      have hF19 : Fine (.ls none (List.map Pn.encVr x16.params)) := hR18.at 13 rfl
      have hF19l := hF19.lenm
      have hF20 : Fine (.ls none (List.map Pn.encVr x16.locals)) := hR18.at 14 rfl
      have hF20l := hF20.lenm
      have hF21 : Fine (.ls none (List.map Pn.encS x16.body)) := hR18.at 15 rfl
      have hF21l := hF21.lenm
      refine Wp.sr [.i (map_get Pn.encMe hx15)] ?_
      refine Wp.sr [.cv hen (H x8 (List.mem_of_getElem? hx7) x16 (List.mem_of_getElem? hx15))] ?_
      refine Wp.cd (!(R x8 x16)) (fun h22 => ?_) (fun h22 => ?_)
      · have h22 : ¬ ((R x8 x16) = true) := by simpa using h22
        refine Wp.sr [] ?_
        refine Wp.ret ?_
        refine ⟨rfl, ?_⟩
        refine ⟨rfl, ?_⟩
        refine ⟨rfl, ?_⟩
        refine fin_r (.sc (.bool false)) ?_
        rw [Pn.all2_false hx7 hx15 (by simp [h3, h5, h22])]
      · have h22 : ((R x8 x16) = true) := by simpa using h22
        refine Wp.skip ?_
        refine Wp.rg [.z (int_add (x := ((j : Nat) : Int)) (y := 1) (z := (((j + 1) : Nat) : Int)) (by omega) (by omega) (by omega))] ?_
        refine ⟨(j + 1), .rf, ?_, ?_⟩
        · exact ⟨Pn.len_lt hx7, Pn.all2_next hx7 hx15 htj (by simp [h3, h5, h22])⟩
        · simp only; omega
    · have h5 := of_decide_eq_false h5
      refine Wp.exit ?_
      refine ⟨rfl, ?_⟩
      refine ⟨rfl, ?_⟩
      refine Wp.sr [] ?_
      refine Wp.ret ?_
      refine fin_r (.sc (.bool true)) ?_
      rw [Pn.all2_end htj (by assumption) (by omega)]
end Go.Proofs.YtjghgpmkepfdhaaGreatDoor
namespace Go.Proofs.YtjghgpmkepfdhaaGreatDoor
open Go.RowKit
set_option linter.unusedVariables false
set_option linter.unusedSimpArgs false
set_option maxRecDepth 100000
set_option maxHeartbeats 4000000
theorem bareVar10 (v : Pn.Vr) : PCalls Tryz.prog 71 [(.ag (Pn.cVr v))] (.ag [(.sc (.string v.name)), (.sc (.int .i64 v.type.kind)), (.sc (.string v.type.cls)), (.sc (.int .i64 v.type.n)), (.sc (.int .i64 v.type.o0.kind)), (.sc (.int .i64 v.type.o0.n)), (.sc (.int .i64 v.type.o1.kind)), (.sc (.int .i64 v.type.o1.n)), (.sc (.int .i64 v.type.o2.kind)), (.sc (.int .i64 v.type.o2.n)), (.sc (.int .i64 v.type.o3.kind)), (.sc (.int .i64 v.type.o3.n)), (.sc (.int .i64 0))]) := by
  refine pcalls_rf mixed Tryz.func71 rfl ?_
  refine Wp.sr [] ?_
  refine Wp.sr [] ?_
  refine Wp.sr [] ?_
  refine Wp.ret ?_
  refine fin_r (.ag [(.sc (.string v.name)), (.sc (.int .i64 v.type.kind)), (.sc (.string v.type.cls)), (.sc (.int .i64 v.type.n)), (.sc (.int .i64 v.type.o0.kind)), (.sc (.int .i64 v.type.o0.n)), (.sc (.int .i64 v.type.o1.kind)), (.sc (.int .i64 v.type.o1.n)), (.sc (.int .i64 v.type.o2.kind)), (.sc (.int .i64 v.type.o2.n)), (.sc (.int .i64 v.type.o3.kind)), (.sc (.int .i64 v.type.o3.n)), (.sc (.int .i64 0))]) ?_
  rfl

theorem sameVar10 (a b : Pn.Vr) : PCalls Tryz.prog 63 [(.ag (Pn.cVr a)), (.ag (Pn.cVr b))] (.sc (.bool (Pn.eqVr false a b))) := by
  refine pcalls_rf mixed Tryz.func63 rfl ?_
  refine Wp.sr [] ?_
  refine Wp.sr [.c (bareVar10 a), .c (bareVar10 b), .e (eqVar ((a.name, a.type, 0) : ByteArray × Pn.Ty × Int) ((b.name, b.type, 0) : ByteArray × Pn.Ty × Int))] ?_
  refine Wp.ret ?_
  refine fin_r (.sc (.bool (false ^^ (decide (((a.name, a.type, 0) : ByteArray × Pn.Ty × Int) = ((b.name, b.type, 0) : ByteArray × Pn.Ty × Int)))))) ?_
  simp [Pn.eqVr, Bool.decide_and]
end Go.Proofs.YtjghgpmkepfdhaaGreatDoor
namespace Go.Proofs.YtjghgpmkepfdhaaGreatDoor
open Go.RowKit
set_option linter.unusedVariables false
set_option linter.unusedSimpArgs false
set_option maxRecDepth 100000
set_option maxHeartbeats 4000000

theorem equalfSm (G : Nat) (fs cs : List AV) (hen : ∀ vs w, (callFunc G vs).run Tryz.prog w = .ok (.enter G vs) w) (a b : List Pn.Sm) (R : Pn.Sm → Pn.Sm → Bool) (H : ∀ x ∈ a, ∀ y ∈ b, PCalls Tryz.prog G (fs ++ [(.ag (Pn.cS x)), (.ag (Pn.cS y))] ++ cs) (.sc (.bool (R x y)))) : PCalls Tryz.prog 104 [(.ls none (List.map Pn.encS a)), (.ls none (List.map Pn.encS b)), (.fn (.func G) fs cs)] (.sc (.bool (Pn.all2 R a b))) := by
  refine pcalls_fine fun hfa => ?_
  have hF1 := hfa 0 _ rfl
  have hF1l := hF1.lenm
  have hF2 := hfa 1 _ rfl
  have hF2l := hF2.lenm
  refine pcalls_rf mixed Tryz.func104 rfl ?_
  refine Wp.sr [] ?_
  refine Wp.seq ?_
  refine Wp.sr [.n (lenm Pn.encS a), .n (lenm Pn.encS b)] ?_
  refine Wp.cd (!decide ((((a.length : Nat) : Int) : Int) = ((b.length : Nat) : Int))) (fun h3 => ?_) (fun h3 => ?_)
  · have h3 : ¬ ((((a.length : Nat) : Int) : Int) = ((b.length : Nat) : Int)) := by simpa using h3
    refine Wp.sr [] ?_
    refine Wp.ret ?_
    refine ⟨rfl, ?_⟩
    refine fin_r (.sc (.bool false)) ?_
    rw [Pn.all2_len (by omega)]
  · have h3 : ((((a.length : Nat) : Int) : Int) = ((b.length : Nat) : Int)) := by simpa using h3
    refine Wp.skip ?_
    refine Wp.seq ?_
    refine Wp.sr [.n (lenm Pn.encS a)] ?_
    refine Wp.block ?_
    refine Wp.lp (α := (Nat)) (fun | j => ⟨mk 32 [(0, (.ls none (List.map Pn.encS a))), (1, (.ls none (List.map Pn.encS b))), (2, (.fn (.func G) fs cs)), (14, (.sc (.bool (!decide ((((a.length : Nat) : Int) : Int) = ((b.length : Nat) : Int)))))), (15, (.ls none (List.map Pn.encS a))), (16, (.sc (.int .i64 ((a.length : Nat) : Int)))), (17, (.sc (.int .i64 ((j : Nat) : Int))))], [], y0⟩) (fun | j => j ≤ a.length ∧ Pn.all2 R (a.take j) (b.take j) = true) (fun | j => a.length - j) 0 ?_ ?_
    · exact ⟨Nat.zero_le _, by simp [Pn.all2]⟩
    rintro j hv4
    obtain ⟨hlj, htj⟩ := hv4
    refine Wp.sr [] ?_
    refine Wp.seq ?_
    refine Wp.cd (decide ((((j : Nat) : Int) : Int) < ((a.length : Nat) : Int))) (fun h5 => ?_) (fun h5 => ?_)
    · have h5 := of_decide_eq_true h5
      refine Wp.skip ?_
      refine Wp.seq ?_
      refine Wp.block ?_
      obtain ⟨x8, hx7⟩ : ∃ z0, (a)[j]? = some z0 := ⟨_, List.getElem?_eq_getElem (by omega)⟩
      have hR10 : Fine (.ag (Pn.cS x8)) := hF1.row hx7 (Pn.encS_eq x8)
      have hF11 : Fine (.ls none (List.map Pn.encX x8.e.kids)) := hR10.at 18 rfl
      have hF11l := hF11.lenm
      have hF12 : Fine (.ls none (List.map Pn.encX x8.args)) := hR10.at 19 rfl
      have hF12l := hF12.lenm
      have hF13 : Fine (.ls none (List.map Pn.encS x8.body)) := hR10.at 20 rfl
      have hF13l := hF13.lenm
      have hF14 : Fine (.ls none (List.map Pn.encS x8.els)) := hR10.at 21 rfl
      have hF14l := hF14.lenm
      refine Wp.sr [.i (Pn.map_to hx7 (Pn.encS_eq x8))] ?_
      obtain ⟨x17, hx16⟩ : ∃ z0, (b)[j]? = some z0 := ⟨_, List.getElem?_eq_getElem (by omega)⟩
      have hR19 : Fine (.ag (Pn.cS x17)) := hF2.row hx16 (Pn.encS_eq x17)
      have hF20 : Fine (.ls none (List.map Pn.encX x17.e.kids)) := hR19.at 18 rfl
      have hF20l := hF20.lenm
      have hF21 : Fine (.ls none (List.map Pn.encX x17.args)) := hR19.at 19 rfl
      have hF21l := hF21.lenm
      have hF22 : Fine (.ls none (List.map Pn.encS x17.body)) := hR19.at 20 rfl
      have hF22l := hF22.lenm
      have hF23 : Fine (.ls none (List.map Pn.encS x17.els)) := hR19.at 21 rfl
      have hF23l := hF23.lenm
      refine Wp.sr [.i (Pn.map_to hx16 (Pn.encS_eq x17))] ?_
      refine Wp.sr [.cv hen (H x8 (List.mem_of_getElem? hx7) x17 (List.mem_of_getElem? hx16))] ?_
      refine Wp.cd (!(R x8 x17)) (fun h24 => ?_) (fun h24 => ?_)
      · have h24 : ¬ ((R x8 x17) = true) := by simpa using h24
        refine Wp.sr [] ?_
        refine Wp.ret ?_
        refine ⟨rfl, ?_⟩
        refine ⟨rfl, ?_⟩
        refine ⟨rfl, ?_⟩
        refine fin_r (.sc (.bool false)) ?_
        rw [Pn.all2_false hx7 hx16 (by simp [h3, h5, h24])]
      · have h24 : ((R x8 x17) = true) := by simpa using h24
        refine Wp.skip ?_
        refine Wp.rg [.z (int_add (x := ((j : Nat) : Int)) (y := 1) (z := (((j + 1) : Nat) : Int)) (by omega) (by omega) (by omega))] ?_
        refine ⟨(j + 1), .rf, ?_, ?_⟩
        · exact ⟨Pn.len_lt hx7, Pn.all2_next hx7 hx16 htj (by simp [h3, h5, h24])⟩
        · simp only; omega
    · have h5 := of_decide_eq_false h5
      refine Wp.exit ?_
      refine ⟨rfl, ?_⟩
      refine ⟨rfl, ?_⟩
      refine Wp.sr [] ?_
      refine Wp.ret ?_
      refine fin_r (.sc (.bool true)) ?_
      rw [Pn.all2_end htj (by assumption) (by omega)]

theorem equalfXp (G : Nat) (fs cs : List AV) (hen : ∀ vs w, (callFunc G vs).run Tryz.prog w = .ok (.enter G vs) w) (a b : List Pn.Xp) (R : Pn.Xp → Pn.Xp → Bool) (H : ∀ x ∈ a, ∀ y ∈ b, PCalls Tryz.prog G (fs ++ [(.ag (Pn.cX x)), (.ag (Pn.cX y))] ++ cs) (.sc (.bool (R x y)))) : PCalls Tryz.prog 130 [(.ls none (List.map Pn.encX a)), (.ls none (List.map Pn.encX b)), (.fn (.func G) fs cs)] (.sc (.bool (Pn.all2 R a b))) := by
  refine pcalls_fine fun hfa => ?_
  have hF1 := hfa 0 _ rfl
  have hF1l := hF1.lenm
  have hF2 := hfa 1 _ rfl
  have hF2l := hF2.lenm
  refine pcalls_rf mixed Tryz.func130 rfl ?_
  refine Wp.sr [] ?_
  refine Wp.seq ?_
  refine Wp.sr [.n (lenm Pn.encX a), .n (lenm Pn.encX b)] ?_
  refine Wp.cd (!decide ((((a.length : Nat) : Int) : Int) = ((b.length : Nat) : Int))) (fun h3 => ?_) (fun h3 => ?_)
  · have h3 : ¬ ((((a.length : Nat) : Int) : Int) = ((b.length : Nat) : Int)) := by simpa using h3
    refine Wp.sr [] ?_
    refine Wp.ret ?_
    refine ⟨rfl, ?_⟩
    refine fin_r (.sc (.bool false)) ?_
    rw [Pn.all2_len (by omega)]
  · have h3 : ((((a.length : Nat) : Int) : Int) = ((b.length : Nat) : Int)) := by simpa using h3
    refine Wp.skip ?_
    refine Wp.seq ?_
    refine Wp.sr [.n (lenm Pn.encX a)] ?_
    refine Wp.block ?_
    refine Wp.lp (α := (Nat)) (fun | j => ⟨mk 32 [(0, (.ls none (List.map Pn.encX a))), (1, (.ls none (List.map Pn.encX b))), (2, (.fn (.func G) fs cs)), (14, (.sc (.bool (!decide ((((a.length : Nat) : Int) : Int) = ((b.length : Nat) : Int)))))), (15, (.ls none (List.map Pn.encX a))), (16, (.sc (.int .i64 ((a.length : Nat) : Int)))), (17, (.sc (.int .i64 ((j : Nat) : Int))))], [], y0⟩) (fun | j => j ≤ a.length ∧ Pn.all2 R (a.take j) (b.take j) = true) (fun | j => a.length - j) 0 ?_ ?_
    · exact ⟨Nat.zero_le _, by simp [Pn.all2]⟩
    rintro j hv4
    obtain ⟨hlj, htj⟩ := hv4
    refine Wp.sr [] ?_
    refine Wp.seq ?_
    refine Wp.cd (decide ((((j : Nat) : Int) : Int) < ((a.length : Nat) : Int))) (fun h5 => ?_) (fun h5 => ?_)
    · have h5 := of_decide_eq_true h5
      refine Wp.skip ?_
      refine Wp.seq ?_
      refine Wp.block ?_
      obtain ⟨x8, hx7⟩ : ∃ z0, (a)[j]? = some z0 := ⟨_, List.getElem?_eq_getElem (by omega)⟩
      have hR10 : Fine (.ag (Pn.cX x8)) := hF1.row hx7 (Pn.encX_eq x8)
      have hF11 : Fine (.ls none (List.map Pn.encX x8.kids)) := hR10.at 3 rfl
      have hF11l := hF11.lenm
      refine Wp.sr [.i (Pn.map_to hx7 (Pn.encX_eq x8))] ?_
      obtain ⟨x14, hx13⟩ : ∃ z0, (b)[j]? = some z0 := ⟨_, List.getElem?_eq_getElem (by omega)⟩
      have hR16 : Fine (.ag (Pn.cX x14)) := hF2.row hx13 (Pn.encX_eq x14)
      have hF17 : Fine (.ls none (List.map Pn.encX x14.kids)) := hR16.at 3 rfl
      have hF17l := hF17.lenm
      refine Wp.sr [.i (Pn.map_to hx13 (Pn.encX_eq x14))] ?_
      refine Wp.sr [.cv hen (H x8 (List.mem_of_getElem? hx7) x14 (List.mem_of_getElem? hx13))] ?_
      refine Wp.cd (!(R x8 x14)) (fun h18 => ?_) (fun h18 => ?_)
      · have h18 : ¬ ((R x8 x14) = true) := by simpa using h18
        refine Wp.sr [] ?_
        refine Wp.ret ?_
        refine ⟨rfl, ?_⟩
        refine ⟨rfl, ?_⟩
        refine ⟨rfl, ?_⟩
        refine fin_r (.sc (.bool false)) ?_
        rw [Pn.all2_false hx7 hx13 (by simp [h3, h5, h18])]
      · have h18 : ((R x8 x14) = true) := by simpa using h18
        refine Wp.skip ?_
        refine Wp.rg [.z (int_add (x := ((j : Nat) : Int)) (y := 1) (z := (((j + 1) : Nat) : Int)) (by omega) (by omega) (by omega))] ?_
        refine ⟨(j + 1), .rf, ?_, ?_⟩
        · exact ⟨Pn.len_lt hx7, Pn.all2_next hx7 hx13 htj (by simp [h3, h5, h18])⟩
        · simp only; omega
    · have h5 := of_decide_eq_false h5
      refine Wp.exit ?_
      refine ⟨rfl, ?_⟩
      refine ⟨rfl, ?_⟩
      refine Wp.sr [] ?_
      refine Wp.ret ?_
      refine fin_r (.sc (.bool true)) ?_
      rw [Pn.all2_end htj (by assumption) (by omega)]
end Go.Proofs.YtjghgpmkepfdhaaGreatDoor
namespace Go.Proofs.YtjghgpmkepfdhaaGreatDoor
open Go.RowKit
set_option linter.unusedVariables false
set_option linter.unusedSimpArgs false
set_option maxRecDepth 100000
set_option maxHeartbeats 4000000
theorem PtXPad.en105 : ∀ vs w, (callFunc 105 vs).run Tryz.prog w = .ok (.enter 105 vs) w := fun vs w => run_enter Tryz.func105 (by kernel_rfl) rfl vs w
theorem PtXPad.en129 : ∀ vs w, (callFunc 129 vs).run Tryz.prog w = .ok (.enter 129 vs) w := fun vs w => run_enter Tryz.func129 (by kernel_rfl) rfl vs w
theorem same8p_step (a b : Pn.Sm) (IH : ∀ x, (x ∈ a.body ∨ x ∈ a.els) → ∀ y : Pn.Sm, PCalls Tryz.prog 105 [(.ag (Pn.cS x)), (.ag (Pn.cS y))] (.sc (.bool (Pn.sameS x y)))) : PCalls Tryz.prog 105 [(.ag (Pn.cS a)), (.ag (Pn.cS b))] (.sc (.bool (Pn.sameS a b))) := by
  refine pcalls_fine fun hfa => ?_
  have hR1 := hfa 0 _ rfl
  have hF2 : Fine (.ls none (List.map Pn.encX a.e.kids)) := hR1.at 18 rfl
  have hF2l := hF2.lenm
  have hF3 : Fine (.ls none (List.map Pn.encX a.args)) := hR1.at 19 rfl
  have hF3l := hF3.lenm
  have hF4 : Fine (.ls none (List.map Pn.encS a.body)) := hR1.at 20 rfl
  have hF4l := hF4.lenm
  have hF5 : Fine (.ls none (List.map Pn.encS a.els)) := hR1.at 21 rfl
  have hF5l := hF5.lenm
  have hR6 := hfa 1 _ rfl
  have hF7 : Fine (.ls none (List.map Pn.encX b.e.kids)) := hR6.at 18 rfl
  have hF7l := hF7.lenm
  have hF8 : Fine (.ls none (List.map Pn.encX b.args)) := hR6.at 19 rfl
  have hF8l := hF8.lenm
  have hF9 : Fine (.ls none (List.map Pn.encS b.body)) := hR6.at 20 rfl
  have hF9l := hF9.lenm
  have hF10 : Fine (.ls none (List.map Pn.encS b.els)) := hR6.at 21 rfl
  have hF10l := hF10.lenm
  refine pcalls_rf mixed Tryz.func105 rfl ?_
  refine Wp.sr [] ?_
  refine Wp.sr [.e (eqTy a.type b.type), .c (sameX6p a.e b.e), .c (equalfXp 129 [] [] PtXPad.en129 a.args b.args Pn.sameX (fun x _ y _ => sameX6p x y)), .c (equalfSm 105 [] [] PtXPad.en105 a.body b.body Pn.sameS (fun x hx y _ => IH x (.inl hx) y)), .c (equalfSm 105 [] [] PtXPad.en105 a.els b.els Pn.sameS (fun x hx y _ => IH x (.inr hx) y))] ?_
  refine Wp.ret ?_
  refine fin_r (.sc (.bool (((((((((decide ((a.kind : Int) = b.kind)) && (decide (a.x = (b.x : ByteArray)))) && (decide (a.y = (b.y : ByteArray)))) && (decide (a.name = (b.name : ByteArray)))) && (false ^^ (decide (a.type = b.type)))) && (Pn.sameX a.e b.e)) && (Pn.all2 Pn.sameX a.args b.args)) && (Pn.all2 Pn.sameS a.body b.body)) && (Pn.all2 Pn.sameS a.els b.els)))) ?_
  rw [Pn.sameS_eq]
  first
    | rfl
    | (simp only [Bool.false_xor]; done)
    | (simp only [Bool.false_xor, Bool.not_false, Bool.true_or, Bool.and_true]; done)
    | (simp only [Bool.false_xor, Bool.not_false, Bool.true_or, Bool.and_true]; ac_rfl)

theorem same8p (a b : Pn.Sm) : PCalls Tryz.prog 105 [(.ag (Pn.cS a)), (.ag (Pn.cS b))] (.sc (.bool (Pn.sameS a b))) := by
  have key : ∀ n (a b : Pn.Sm), Pn.cntS a ≤ n → PCalls Tryz.prog 105 [(.ag (Pn.cS a)), (.ag (Pn.cS b))] (.sc (.bool (Pn.sameS a b))) := by
    intro n
    induction n with
    | zero => intro a b h; rw [Pn.cntS_eq] at h; omega
    | succ n ih =>
      intro a b h
      refine same8p_step a b fun x hx y => ih x y ?_
      rw [Pn.cntS_eq] at h
      rcases hx with hx | hx
      · have h1 := Pn.cntS_in hx; omega
      · have h1 := Pn.cntS_in hx; omega
  exact key _ a b (Nat.le_refl _)
end Go.Proofs.YtjghgpmkepfdhaaGreatDoor
namespace Go.Proofs.YtjghgpmkepfdhaaGreatDoor
open Go.RowKit
set_option linter.unusedVariables false
set_option linter.unusedSimpArgs false
set_option maxRecDepth 100000
set_option maxHeartbeats 4000000
theorem PtXPae.en33 : ∀ vs w, (callFunc 33 vs).run Tryz.prog w = .ok (.enter 33 vs) w := fun vs w => run_enter Tryz.func33 (by kernel_rfl) rfl vs w
theorem PtXPae.en63 : ∀ vs w, (callFunc 63 vs).run Tryz.prog w = .ok (.enter 63 vs) w := fun vs w => run_enter Tryz.func63 (by kernel_rfl) rfl vs w
theorem PtXPae.en65 : ∀ vs w, (callFunc 65 vs).run Tryz.prog w = .ok (.enter 65 vs) w := fun vs w => run_enter Tryz.func65 (by kernel_rfl) rfl vs w
theorem PtXPae.en105 : ∀ vs w, (callFunc 105 vs).run Tryz.prog w = .ok (.enter 105 vs) w := fun vs w => run_enter Tryz.func105 (by kernel_rfl) rfl vs w
theorem sameMethod10 (a b : Pn.Me) : PCalls Tryz.prog 65 [(.ag (Pn.cMe a)), (.ag (Pn.cMe b))] (.sc (.bool (Pn.likeM false a b))) := by
  refine pcalls_fine fun hfa => ?_
  have hR1 := hfa 0 _ rfl
  have hF2 : Fine (.ls none (List.map Pn.encVr a.params)) := hR1.at 13 rfl
  have hF2l := hF2.lenm
  have hF3 : Fine (.ls none (List.map Pn.encVr a.locals)) := hR1.at 14 rfl
  have hF3l := hF3.lenm
  have hF4 : Fine (.ls none (List.map Pn.encS a.body)) := hR1.at 15 rfl
  have hF4l := hF4.lenm
  have hR5 := hfa 1 _ rfl
  have hF6 : Fine (.ls none (List.map Pn.encVr b.params)) := hR5.at 13 rfl
  have hF6l := hF6.lenm
  have hF7 : Fine (.ls none (List.map Pn.encVr b.locals)) := hR5.at 14 rfl
  have hF7l := hF7.lenm
  have hF8 : Fine (.ls none (List.map Pn.encS b.body)) := hR5.at 15 rfl
  have hF8l := hF8.lenm
  refine pcalls_rf mixed Tryz.func65 rfl ?_
  refine Wp.sr [] ?_
  refine Wp.sr [.e (eqTy a.ret b.ret), .c (equalfVr 63 [] [] PtXPae.en63 a.params b.params (fun x y => Pn.eqVr false x y) (fun x _ y _ => sameVar10 x y)), .c (equalfVr 63 [] [] PtXPae.en63 a.locals b.locals (fun x y => Pn.eqVr false x y) (fun x _ y _ => sameVar10 x y)), .c (equalfSm 105 [] [] PtXPae.en105 a.body b.body Pn.sameS (fun x _ y _ => same8p x y))] ?_
  refine Wp.ret ?_
  refine fin_r (.sc (.bool ((((((decide (a.name = (b.name : ByteArray))) && (decide (a.pure = b.pure))) && (false ^^ (decide (a.ret = b.ret)))) && (Pn.all2 (fun x y => Pn.eqVr false x y) a.params b.params)) && (Pn.all2 (fun x y => Pn.eqVr false x y) a.locals b.locals)) && (Pn.all2 Pn.sameS a.body b.body)))) ?_
  unfold Pn.likeM
  skip
  first
    | rfl
    | (simp only [Bool.false_xor]; done)
    | (simp only [Bool.false_xor, Bool.not_false, Bool.true_or, Bool.and_true]; done)
    | (simp only [Bool.false_xor, Bool.not_false, Bool.true_or, Bool.and_true]; ac_rfl)

theorem sameClass10 (a b : Pn.Cl) : PCalls Tryz.prog 33 [(.ag (Pn.cCl a)), (.ag (Pn.cCl b))] (.sc (.bool (Pn.oneC false a b))) := by
  refine pcalls_fine fun hfa => ?_
  have hR1 := hfa 0 _ rfl
  have hF2 : Fine (.ls none (List.map Pn.encStr a.params)) := hR1.at 1 rfl
  have hF2l := hF2.lenm
  have hF3 : Fine (.ls none (List.map Pn.encOw a.above)) := hR1.at 3 rfl
  have hF3l := hF3.lenm
  have hF4 : Fine (.ls none (List.map Pn.encVr a.fields)) := hR1.at 4 rfl
  have hF4l := hF4.lenm
  have hF5 : Fine (.ls none (List.map Pn.encMe a.methods)) := hR1.at 5 rfl
  have hF5l := hF5.lenm
  have hR6 := hfa 1 _ rfl
  have hF7 : Fine (.ls none (List.map Pn.encStr b.params)) := hR6.at 1 rfl
  have hF7l := hF7.lenm
  have hF8 : Fine (.ls none (List.map Pn.encOw b.above)) := hR6.at 3 rfl
  have hF8l := hF8.lenm
  have hF9 : Fine (.ls none (List.map Pn.encVr b.fields)) := hR6.at 4 rfl
  have hF9l := hF9.lenm
  have hF10 : Fine (.ls none (List.map Pn.encMe b.methods)) := hR6.at 5 rfl
  have hF10l := hF10.lenm
  refine pcalls_rf mixed Tryz.func33 rfl ?_
  refine Wp.sr [] ?_
  refine Wp.sr [.c (equalSt a.params b.params), .c (equalOw a.above b.above), .c (equalfVr 63 [] [] PtXPae.en63 a.fields b.fields (fun x y => Pn.eqVr false x y) (fun x _ y _ => sameVar10 x y)), .c (equalfMe 65 [] [] PtXPae.en65 a.methods b.methods (fun x y => Pn.likeM false x y) (fun x _ y _ => sameMethod10 x y))] ?_
  refine Wp.ret ?_
  refine fin_r (.sc (.bool ((((((decide (a.name = (b.name : ByteArray))) && (Pn.all2 (fun x y => decide (x = y)) a.params b.params)) && (decide (a.super = (b.super : ByteArray)))) && (Pn.all2 (fun x y => decide (x = y)) a.above b.above)) && (Pn.all2 (fun x y => Pn.eqVr false x y) a.fields b.fields)) && (Pn.all2 (fun x y => Pn.likeM false x y) a.methods b.methods)))) ?_
  rw [Pn.oneC_eq]
  first
    | rfl
    | (simp only [Bool.false_xor]; done)
    | (simp only [Bool.false_xor, Bool.not_false, Bool.true_or, Bool.and_true]; done)
    | (simp only [Bool.false_xor, Bool.not_false, Bool.true_or, Bool.and_true]; ac_rfl)

theorem same10p (a b : List Pn.Cl) : PCalls Tryz.prog 12 [(.ls none (List.map Pn.encCl a)), (.ls none (List.map Pn.encCl b))] (.sc (.bool (Pn.all2 (fun x y => Pn.oneC false x y) a b))) := by
  refine pcalls_fine fun hfa => ?_
  have hF1 := hfa 0 _ rfl
  have hF1l := hF1.lenm
  have hF2 := hfa 1 _ rfl
  have hF2l := hF2.lenm
  refine pcalls_rf mixed Tryz.func12 rfl ?_
  refine Wp.sr [] ?_
  refine Wp.sr [.c (equalfCl 33 [] [] PtXPae.en33 a b (fun x y => Pn.oneC false x y) (fun x _ y _ => sameClass10 x y))] ?_
  refine Wp.ret ?_
  refine fin_r (.sc (.bool (Pn.all2 (fun x y => Pn.oneC false x y) a b))) ?_
  rfl
end Go.Proofs.YtjghgpmkepfdhaaGreatDoor
namespace Go.Proofs.YtjghgpmkepfdhaaGreatDoor
open Go.RowKit
set_option linter.unusedVariables false
set_option linter.unusedSimpArgs false
set_option maxRecDepth 100000
set_option maxHeartbeats 4000000
theorem sameX_step (a b : Pn.Xp) (IH : ∀ x ∈ a.kids, ∀ y : Pn.Xp, PCalls Tryz.prog 150 [(.ag (Pn.cX x)), (.ag (Pn.cX y))] (.sc (.bool (Pn.sameX x y)))) : PCalls Tryz.prog 150 [(.ag (Pn.cX a)), (.ag (Pn.cX b))] (.sc (.bool (Pn.sameX a b))) := by
  refine pcalls_fine fun hfa => ?_
  have hR1 := hfa 0 _ rfl
  have hF2 : Fine (.ls none (List.map Pn.encX a.kids)) := hR1.at 3 rfl
  have hF2l := hF2.lenm
  have hR3 := hfa 1 _ rfl
  have hF4 : Fine (.ls none (List.map Pn.encX b.kids)) := hR3.at 3 rfl
  have hF4l := hF4.lenm
  refine pcalls_rf mixed Tryz.func150 rfl ?_
  refine Wp.sr [] ?_
  refine Wp.seq ?_
  by_cases h5 : (a.kind : Int) = b.kind
  · skip
    by_cases h6 : (a.num : Int) = b.num
    · skip
      by_cases h7 : a.name = (b.name : ByteArray)
      · skip
        refine Wp.sr [.g (show (!decide ((a.kind : Int) = b.kind)) = false from (by simp [h5])), .g (show (!decide ((a.num : Int) = b.num)) = false from (by simp [h6])), .g (show (!decide (a.name = (b.name : ByteArray))) = false from (by simp [h7])), .n (lenm Pn.encX a.kids), .n (lenm Pn.encX b.kids)] ?_
        refine Wp.cd (!decide ((((a.kids.length : Nat) : Int) : Int) = ((b.kids.length : Nat) : Int))) (fun h8 => ?_) (fun h8 => ?_)
        · have h8 : ¬ ((((a.kids.length : Nat) : Int) : Int) = ((b.kids.length : Nat) : Int)) := by simpa using h8
          refine Wp.sr [] ?_
          refine Wp.ret ?_
          refine ⟨rfl, ?_⟩
          refine fin_r (.sc (.bool false)) ?_
          rw [Pn.sameX_eq]
          first
            | (simp [h5, h6, h7, h8]; done)
            | (rw [Pn.all2_len (by omega)]; simp; done)
        · have h8 : ((((a.kids.length : Nat) : Int) : Int) = ((b.kids.length : Nat) : Int)) := by simpa using h8
          refine Wp.skip ?_
          refine Wp.seq ?_
          refine Wp.sr [] ?_
          refine Wp.block ?_
          refine Wp.lp (α := (Nat)) (fun | j => ⟨mk 53 [(0, (.ag (Pn.cX a))), (1, (.ag (Pn.cX b))), (2, (.pt 2 0)), (3, (.pt 3 0)), (5, (.sc (.int .i64 ((j : Nat) : Int)))), (33, (.sc (.bool (!decide ((((a.kids.length : Nat) : Int) : Int) = ((b.kids.length : Nat) : Int))))))], [(2, (Pn.cX a)), (3, (Pn.cX b))], y0⟩) (fun | j => j ≤ a.kids.length ∧ Pn.all2 Pn.sameX (a.kids.take j) (b.kids.take j) = true) (fun | j => a.kids.length - j) 0 ?_ ?_
          · exact ⟨Nat.zero_le _, by simp [Pn.all2]⟩
          rintro j hv9
          obtain ⟨hlj, htj⟩ := hv9
          refine Wp.seq ?_
          refine Wp.sr [.n (lenm Pn.encX a.kids)] ?_
          refine Wp.cd (decide ((((j : Nat) : Int) : Int) < ((a.kids.length : Nat) : Int))) (fun h10 => ?_) (fun h10 => ?_)
          · have h10 := of_decide_eq_true h10
            refine Wp.skip ?_
            refine Wp.seq ?_
            refine Wp.block ?_
            obtain ⟨x13, hx12⟩ : ∃ z0, (a.kids)[j]? = some z0 := ⟨_, List.getElem?_eq_getElem (by omega)⟩
            have hR15 : Fine (.ag (Pn.cX x13)) := hF2.row hx12 (Pn.encX_eq x13)
            have hF16 : Fine (.ls none (List.map Pn.encX x13.kids)) := hR15.at 3 rfl
            have hF16l := hF16.lenm
            obtain ⟨x19, hx18⟩ : ∃ z0, (b.kids)[j]? = some z0 := ⟨_, List.getElem?_eq_getElem (by omega)⟩
            have hR21 : Fine (.ag (Pn.cX x19)) := hF4.row hx18 (Pn.encX_eq x19)
            have hF22 : Fine (.ls none (List.map Pn.encX x19.kids)) := hR21.at 3 rfl
            have hF22l := hF22.lenm
            refine Wp.sr [.i (Pn.map_to hx12 (Pn.encX_eq x13)), .i (Pn.map_to hx18 (Pn.encX_eq x19)), .c (IH x13 (List.mem_of_getElem? hx12) x19)] ?_
            refine Wp.cd (!(Pn.sameX x13 x19)) (fun h23 => ?_) (fun h23 => ?_)
            · have h23 : ¬ ((Pn.sameX x13 x19) = true) := by simpa using h23
              refine Wp.sr [] ?_
              refine Wp.ret ?_
              refine ⟨rfl, ?_⟩
              refine ⟨rfl, ?_⟩
              refine ⟨rfl, ?_⟩
              refine fin_r (.sc (.bool false)) ?_
              rw [Pn.sameX_eq]
              rw [Pn.all2_false hx12 hx18 (by simp [h5, h6, h7, h8, h10, h23])]
              simp
            · have h23 : ((Pn.sameX x13 x19) = true) := by simpa using h23
              refine Wp.skip ?_
              refine Wp.rg [.z (int_add (x := ((j : Nat) : Int)) (y := 1) (z := (((j + 1) : Nat) : Int)) (by omega) (by omega) (by omega))] ?_
              refine ⟨(j + 1), .rf, ?_, ?_⟩
              · exact ⟨Pn.len_lt hx12, Pn.all2_next hx12 hx18 htj (by simp [h5, h6, h7, h8, h10, h23])⟩
              · simp only; omega
          · have h10 := of_decide_eq_false h10
            refine Wp.exit ?_
            refine ⟨rfl, ?_⟩
            refine ⟨rfl, ?_⟩
            refine Wp.sr [] ?_
            refine Wp.ret ?_
            refine fin_r (.sc (.bool true)) ?_
            rw [Pn.sameX_eq]
            rw [Pn.all2_end htj (by assumption) (by omega)]
            simp [h5, h6, h7, h8, h10]
      · skip
        refine Wp.sr [.g (show (!decide ((a.kind : Int) = b.kind)) = false from (by simp [h5])), .g (show (!decide ((a.num : Int) = b.num)) = false from (by simp [h6])), .g (show (!decide (a.name = (b.name : ByteArray))) = true from (by simp [h7]))] ?_
        refine Wp.ct (B := true) rfl ?_
        refine Wp.sr [] ?_
        refine Wp.ret ?_
        refine ⟨rfl, ?_⟩
        refine fin_r (.sc (.bool false)) ?_
        rw [Pn.sameX_eq]
        first
          | (simp [h5, h6, h7]; done)
          | (rw [Pn.all2_len (by omega)]; simp; done)
    · skip
      refine Wp.sr [.g (show (!decide ((a.kind : Int) = b.kind)) = false from (by simp [h5])), .g (show (!decide ((a.num : Int) = b.num)) = true from (by simp [h6])), .g gT] ?_
      refine Wp.ct (B := true) rfl ?_
      refine Wp.sr [] ?_
      refine Wp.ret ?_
      refine ⟨rfl, ?_⟩
      refine fin_r (.sc (.bool false)) ?_
      rw [Pn.sameX_eq]
      first
        | (simp [h5, h6]; done)
        | (rw [Pn.all2_len (by omega)]; simp; done)
  · skip
    refine Wp.sr [.g (show (!decide ((a.kind : Int) = b.kind)) = true from (by simp [h5])), .g gT, .g gT] ?_
    refine Wp.ct (B := true) rfl ?_
    refine Wp.sr [] ?_
    refine Wp.ret ?_
    refine ⟨rfl, ?_⟩
    refine fin_r (.sc (.bool false)) ?_
    rw [Pn.sameX_eq]
    first
      | (simp [h5]; done)
      | (rw [Pn.all2_len (by omega)]; simp; done)

theorem sameX06 (a b : Pn.Xp) : PCalls Tryz.prog 150 [(.ag (Pn.cX a)), (.ag (Pn.cX b))] (.sc (.bool (Pn.sameX a b))) := by
  have key : ∀ n (a b : Pn.Xp), Pn.cntX a ≤ n → PCalls Tryz.prog 150 [(.ag (Pn.cX a)), (.ag (Pn.cX b))] (.sc (.bool (Pn.sameX a b))) := by
    intro n
    induction n with
    | zero => intro a b h; rw [Pn.cntX_eq] at h; omega
    | succ n ih =>
      intro a b h
      refine sameX_step a b fun x hx y => ih x y ?_
      have h1 := Pn.cntX_kid hx
      rw [Pn.cntX_eq] at h
      omega
  exact key _ a b (Nat.le_refl _)

theorem ats_step (a b : List Pn.Sm) (IH : ∀ x ∈ a, ∀ l, (l = x.body ∨ l = x.els) → ∀ k : List Pn.Sm, PCalls Tryz.prog 106 [(.ls none (List.map Pn.encS l)), (.ls none (List.map Pn.encS k))] (.sc (.bool (Pn.atsL l k)))) : PCalls Tryz.prog 106 [(.ls none (List.map Pn.encS a)), (.ls none (List.map Pn.encS b))] (.sc (.bool (Pn.atsL a b))) := by
  refine pcalls_fine fun hfa => ?_
  have hF1 := hfa 0 _ rfl
  have hF1l := hF1.lenm
  have hF2 := hfa 1 _ rfl
  have hF2l := hF2.lenm
  refine pcalls_rf mixed Tryz.func106 rfl ?_
  refine Wp.sr [] ?_
  refine Wp.seq ?_
  refine Wp.sr [.n (lenm Pn.encS a), .n (lenm Pn.encS b)] ?_
  refine Wp.cd (!decide ((((a.length : Nat) : Int) : Int) = ((b.length : Nat) : Int))) (fun h3 => ?_) (fun h3 => ?_)
  · have h3 : ¬ ((((a.length : Nat) : Int) : Int) = ((b.length : Nat) : Int)) := by simpa using h3
    refine Wp.sr [] ?_
    refine Wp.ret ?_
    refine ⟨rfl, ?_⟩
    refine fin_r (.sc (.bool false)) ?_
    rw [Pn.atsL_eq]
    rw [Pn.all2_len (by omega)]
  · have h3 : ((((a.length : Nat) : Int) : Int) = ((b.length : Nat) : Int)) := by simpa using h3
    refine Wp.skip ?_
    refine Wp.seq ?_
    refine Wp.sr [] ?_
    refine Wp.block ?_
    refine Wp.lp (α := (Nat)) (fun | j => ⟨mk 56 [(0, (.ls none (List.map Pn.encS a))), (1, (.ls none (List.map Pn.encS b))), (5, (.sc (.int .i64 ((j : Nat) : Int)))), (10, (.sc (.bool (!decide ((((a.length : Nat) : Int) : Int) = ((b.length : Nat) : Int))))))], [], y0⟩) (fun | j => j ≤ a.length ∧ Pn.all2 Pn.atsS (a.take j) (b.take j) = true) (fun | j => a.length - j) 0 ?_ ?_
    · exact ⟨Nat.zero_le _, by simp [Pn.all2]⟩
    rintro j hv4
    obtain ⟨hlj, htj⟩ := hv4
    refine Wp.seq ?_
    refine Wp.sr [.n (lenm Pn.encS a)] ?_
    refine Wp.cd (decide ((((j : Nat) : Int) : Int) < ((a.length : Nat) : Int))) (fun h5 => ?_) (fun h5 => ?_)
    · have h5 := of_decide_eq_true h5
      refine Wp.skip ?_
      refine Wp.seq ?_
      refine Wp.block ?_
      obtain ⟨x8, hx7⟩ : ∃ z0, (a)[j]? = some z0 := ⟨_, List.getElem?_eq_getElem (by omega)⟩
      have hR10 : Fine (.ag (Pn.cS x8)) := hF1.row hx7 (Pn.encS_eq x8)
      have hF11 : Fine (.ls none (List.map Pn.encX x8.e.kids)) := hR10.at 18 rfl
      have hF11l := hF11.lenm
      have hF12 : Fine (.ls none (List.map Pn.encX x8.args)) := hR10.at 19 rfl
      have hF12l := hF12.lenm
      have hF13 : Fine (.ls none (List.map Pn.encS x8.body)) := hR10.at 20 rfl
      have hF13l := hF13.lenm
      have hF14 : Fine (.ls none (List.map Pn.encS x8.els)) := hR10.at 21 rfl
      have hF14l := hF14.lenm
      obtain ⟨x17, hx16⟩ : ∃ z0, (b)[j]? = some z0 := ⟨_, List.getElem?_eq_getElem (by omega)⟩
      have hR19 : Fine (.ag (Pn.cS x17)) := hF2.row hx16 (Pn.encS_eq x17)
      have hF20 : Fine (.ls none (List.map Pn.encX x17.e.kids)) := hR19.at 18 rfl
      have hF20l := hF20.lenm
      have hF21 : Fine (.ls none (List.map Pn.encX x17.args)) := hR19.at 19 rfl
      have hF21l := hF21.lenm
      have hF22 : Fine (.ls none (List.map Pn.encS x17.body)) := hR19.at 20 rfl
      have hF22l := hF22.lenm
      have hF23 : Fine (.ls none (List.map Pn.encS x17.els)) := hR19.at 21 rfl
      have hF23l := hF23.lenm
      by_cases h24 : (x8.pos : Int) = x17.pos
      · skip
        by_cases h25 : (Pn.atsL x8.body x17.body) = true
        · skip
          refine Wp.sr [.i (Pn.map_to hx7 (Pn.encS_eq x8)), .i (Pn.map_to hx16 (Pn.encS_eq x17)), .g (show (!decide ((x8.pos : Int) = x17.pos)) = false from (by simp [h24])), .i (Pn.map_to hx7 (Pn.encS_eq x8)), .i (Pn.map_to hx16 (Pn.encS_eq x17)), .c (IH x8 (List.mem_of_getElem? hx7) x8.body (.inl rfl) x17.body), .g (show (!(Pn.atsL x8.body x17.body)) = false from (by rw [h25]; rfl)), .i (Pn.map_to hx7 (Pn.encS_eq x8)), .i (Pn.map_to hx16 (Pn.encS_eq x17)), .c (IH x8 (List.mem_of_getElem? hx7) x8.els (.inr rfl) x17.els)] ?_
          refine Wp.cd (!(Pn.atsL x8.els x17.els)) (fun h26 => ?_) (fun h26 => ?_)
          · have h26 : ¬ ((Pn.atsL x8.els x17.els) = true) := by simpa using h26
            refine Wp.sr [] ?_
            refine Wp.ret ?_
            refine ⟨rfl, ?_⟩
            refine ⟨rfl, ?_⟩
            refine ⟨rfl, ?_⟩
            refine fin_r (.sc (.bool false)) ?_
            rw [Pn.atsL_eq]
            rw [Pn.all2_false hx7 hx16 (by simp [Pn.atsS_eq, h3, h5, h24, h25, h26])]
          · have h26 : ((Pn.atsL x8.els x17.els) = true) := by simpa using h26
            refine Wp.skip ?_
            refine Wp.rg [.z (int_add (x := ((j : Nat) : Int)) (y := 1) (z := (((j + 1) : Nat) : Int)) (by omega) (by omega) (by omega))] ?_
            refine ⟨(j + 1), .rf, ?_, ?_⟩
            · exact ⟨Pn.len_lt hx7, Pn.all2_next hx7 hx16 htj (by simp [Pn.atsS_eq, h3, h5, h24, h25, h26])⟩
            · simp only; omega
        · skip
          refine Wp.sr [.i (Pn.map_to hx7 (Pn.encS_eq x8)), .i (Pn.map_to hx16 (Pn.encS_eq x17)), .g (show (!decide ((x8.pos : Int) = x17.pos)) = false from (by simp [h24])), .i (Pn.map_to hx7 (Pn.encS_eq x8)), .i (Pn.map_to hx16 (Pn.encS_eq x17)), .c (IH x8 (List.mem_of_getElem? hx7) x8.body (.inl rfl) x17.body), .g (show (!(Pn.atsL x8.body x17.body)) = true from (by rw [(eq_false_of_ne_true h25)]; rfl))] ?_
          refine Wp.ct (B := true) rfl ?_
          refine Wp.sr [] ?_
          refine Wp.ret ?_
          refine ⟨rfl, ?_⟩
          refine ⟨rfl, ?_⟩
          refine ⟨rfl, ?_⟩
          refine fin_r (.sc (.bool false)) ?_
          rw [Pn.atsL_eq]
          rw [Pn.all2_false hx7 hx16 (by simp [Pn.atsS_eq, h3, h5, h24, h25])]
      · skip
        refine Wp.sr [.i (Pn.map_to hx7 (Pn.encS_eq x8)), .i (Pn.map_to hx16 (Pn.encS_eq x17)), .g (show (!decide ((x8.pos : Int) = x17.pos)) = true from (by simp [h24])), .g gT] ?_
        refine Wp.ct (B := true) rfl ?_
        refine Wp.sr [] ?_
        refine Wp.ret ?_
        refine ⟨rfl, ?_⟩
        refine ⟨rfl, ?_⟩
        refine ⟨rfl, ?_⟩
        refine fin_r (.sc (.bool false)) ?_
        rw [Pn.atsL_eq]
        rw [Pn.all2_false hx7 hx16 (by simp [Pn.atsS_eq, h3, h5, h24])]
    · have h5 := of_decide_eq_false h5
      refine Wp.exit ?_
      refine ⟨rfl, ?_⟩
      refine ⟨rfl, ?_⟩
      refine Wp.sr [] ?_
      refine Wp.ret ?_
      refine fin_r (.sc (.bool true)) ?_
      rw [Pn.atsL_eq]
      rw [Pn.all2_end htj (by assumption) (by omega)]

theorem ats09 (a b : List Pn.Sm) : PCalls Tryz.prog 106 [(.ls none (List.map Pn.encS a)), (.ls none (List.map Pn.encS b))] (.sc (.bool (Pn.atsL a b))) := by
  have key : ∀ n (a b : List Pn.Sm), Pn.cntSs a ≤ n → PCalls Tryz.prog 106 [(.ls none (List.map Pn.encS a)), (.ls none (List.map Pn.encS b))] (.sc (.bool (Pn.atsL a b))) := by
    intro n
    induction n with
    | zero =>
      intro a b h
      refine ats_step a b fun x hx => ?_
      have h1 := Pn.cntS_in hx
      rw [Pn.cntS_eq] at h1
      omega
    | succ n ih =>
      intro a b h
      refine ats_step a b fun x hx l hl k => ih l k ?_
      have h1 := Pn.cntS_in hx
      rw [Pn.cntS_eq] at h1
      rcases hl with rfl | rfl <;> omega
  exact key _ a b (Nat.le_refl _)
end Go.Proofs.YtjghgpmkepfdhaaGreatDoor
namespace Go.Proofs.YtjghgpmkepfdhaaGreatDoor
open Go.RowKit
set_option linter.unusedVariables false
set_option linter.unusedSimpArgs false
set_option maxRecDepth 100000
set_option maxHeartbeats 4000000
theorem list_step (a b : List Pn.Sm) (IH : ∀ x ∈ a, ∀ y : Pn.Sm, PCalls Tryz.prog 131 [(.ag (Pn.cS x)), (.ag (Pn.cS y))] (.sc (.bool (Pn.sameS x y)))) : PCalls Tryz.prog 107 [(.ls none (List.map Pn.encS a)), (.ls none (List.map Pn.encS b))] (.sc (.bool (Pn.all2 Pn.sameS a b))) := by
  refine pcalls_fine fun hfa => ?_
  have hF1 := hfa 0 _ rfl
  have hF1l := hF1.lenm
  have hF2 := hfa 1 _ rfl
  have hF2l := hF2.lenm
  refine pcalls_rf mixed Tryz.func107 rfl ?_
  refine Wp.sr [] ?_
  refine Wp.seq ?_
  refine Wp.sr [.n (lenm Pn.encS a), .n (lenm Pn.encS b)] ?_
  refine Wp.cd (!decide ((((a.length : Nat) : Int) : Int) = ((b.length : Nat) : Int))) (fun h3 => ?_) (fun h3 => ?_)
  · have h3 : ¬ ((((a.length : Nat) : Int) : Int) = ((b.length : Nat) : Int)) := by simpa using h3
    refine Wp.sr [] ?_
    refine Wp.ret ?_
    refine ⟨rfl, ?_⟩
    refine fin_r (.sc (.bool false)) ?_
    rw [Pn.all2_len (by omega)]
  · have h3 : ((((a.length : Nat) : Int) : Int) = ((b.length : Nat) : Int)) := by simpa using h3
    refine Wp.skip ?_
    refine Wp.seq ?_
    refine Wp.sr [] ?_
    refine Wp.block ?_
    refine Wp.lp (α := (Nat)) (fun | j => ⟨mk 27 [(0, (.ls none (List.map Pn.encS a))), (1, (.ls none (List.map Pn.encS b))), (5, (.sc (.int .i64 ((j : Nat) : Int)))), (10, (.sc (.bool (!decide ((((a.length : Nat) : Int) : Int) = ((b.length : Nat) : Int))))))], [], y0⟩) (fun | j => j ≤ a.length ∧ Pn.all2 Pn.sameS (a.take j) (b.take j) = true) (fun | j => a.length - j) 0 ?_ ?_
    · exact ⟨Nat.zero_le _, by simp [Pn.all2]⟩
    rintro j hv4
    obtain ⟨hlj, htj⟩ := hv4
    refine Wp.seq ?_
    refine Wp.sr [.n (lenm Pn.encS a)] ?_
    refine Wp.cd (decide ((((j : Nat) : Int) : Int) < ((a.length : Nat) : Int))) (fun h5 => ?_) (fun h5 => ?_)
    · have h5 := of_decide_eq_true h5
      refine Wp.skip ?_
      refine Wp.seq ?_
      refine Wp.block ?_
      obtain ⟨x8, hx7⟩ : ∃ z0, (a)[j]? = some z0 := ⟨_, List.getElem?_eq_getElem (by omega)⟩
      have hR10 : Fine (.ag (Pn.cS x8)) := hF1.row hx7 (Pn.encS_eq x8)
      have hF11 : Fine (.ls none (List.map Pn.encX x8.e.kids)) := hR10.at 18 rfl
      have hF11l := hF11.lenm
      have hF12 : Fine (.ls none (List.map Pn.encX x8.args)) := hR10.at 19 rfl
      have hF12l := hF12.lenm
      have hF13 : Fine (.ls none (List.map Pn.encS x8.body)) := hR10.at 20 rfl
      have hF13l := hF13.lenm
      have hF14 : Fine (.ls none (List.map Pn.encS x8.els)) := hR10.at 21 rfl
      have hF14l := hF14.lenm
      obtain ⟨x17, hx16⟩ : ∃ z0, (b)[j]? = some z0 := ⟨_, List.getElem?_eq_getElem (by omega)⟩
      have hR19 : Fine (.ag (Pn.cS x17)) := hF2.row hx16 (Pn.encS_eq x17)
      have hF20 : Fine (.ls none (List.map Pn.encX x17.e.kids)) := hR19.at 18 rfl
      have hF20l := hF20.lenm
      have hF21 : Fine (.ls none (List.map Pn.encX x17.args)) := hR19.at 19 rfl
      have hF21l := hF21.lenm
      have hF22 : Fine (.ls none (List.map Pn.encS x17.body)) := hR19.at 20 rfl
      have hF22l := hF22.lenm
      have hF23 : Fine (.ls none (List.map Pn.encS x17.els)) := hR19.at 21 rfl
      have hF23l := hF23.lenm
      refine Wp.sr [.i (Pn.map_to hx7 (Pn.encS_eq x8)), .i (Pn.map_to hx16 (Pn.encS_eq x17)), .c (IH x8 (List.mem_of_getElem? hx7) x17)] ?_
      refine Wp.cd (!(Pn.sameS x8 x17)) (fun h24 => ?_) (fun h24 => ?_)
      · have h24 : ¬ ((Pn.sameS x8 x17) = true) := by simpa using h24
        refine Wp.sr [] ?_
        refine Wp.ret ?_
        refine ⟨rfl, ?_⟩
        refine ⟨rfl, ?_⟩
        refine ⟨rfl, ?_⟩
        refine fin_r (.sc (.bool false)) ?_
        rw [Pn.all2_false hx7 hx16 (by simp [h3, h5, h24])]
      · have h24 : ((Pn.sameS x8 x17) = true) := by simpa using h24
        refine Wp.skip ?_
        refine Wp.rg [.z (int_add (x := ((j : Nat) : Int)) (y := 1) (z := (((j + 1) : Nat) : Int)) (by omega) (by omega) (by omega))] ?_
        refine ⟨(j + 1), .rf, ?_, ?_⟩
        · exact ⟨Pn.len_lt hx7, Pn.all2_next hx7 hx16 htj (by simp [h3, h5, h24])⟩
        · simp only; omega
    · have h5 := of_decide_eq_false h5
      refine Wp.exit ?_
      refine ⟨rfl, ?_⟩
      refine ⟨rfl, ?_⟩
      refine Wp.sr [] ?_
      refine Wp.ret ?_
      refine fin_r (.sc (.bool true)) ?_
      rw [Pn.all2_end htj (by assumption) (by omega)]

theorem same_step (a b : Pn.Sm) (IH : ∀ l, (l = a.body ∨ l = a.els) → ∀ k : List Pn.Sm, PCalls Tryz.prog 107 [(.ls none (List.map Pn.encS l)), (.ls none (List.map Pn.encS k))] (.sc (.bool (Pn.all2 Pn.sameS l k)))) : PCalls Tryz.prog 131 [(.ag (Pn.cS a)), (.ag (Pn.cS b))] (.sc (.bool (Pn.sameS a b))) := by
  refine pcalls_fine fun hfa => ?_
  have hR1 := hfa 0 _ rfl
  have hF2 : Fine (.ls none (List.map Pn.encX a.e.kids)) := hR1.at 18 rfl
  have hF2l := hF2.lenm
  have hF3 : Fine (.ls none (List.map Pn.encX a.args)) := hR1.at 19 rfl
  have hF3l := hF3.lenm
  have hF4 : Fine (.ls none (List.map Pn.encS a.body)) := hR1.at 20 rfl
  have hF4l := hF4.lenm
  have hF5 : Fine (.ls none (List.map Pn.encS a.els)) := hR1.at 21 rfl
  have hF5l := hF5.lenm
  have hR6 := hfa 1 _ rfl
  have hF7 : Fine (.ls none (List.map Pn.encX b.e.kids)) := hR6.at 18 rfl
  have hF7l := hF7.lenm
  have hF8 : Fine (.ls none (List.map Pn.encX b.args)) := hR6.at 19 rfl
  have hF8l := hF8.lenm
  have hF9 : Fine (.ls none (List.map Pn.encS b.body)) := hR6.at 20 rfl
  have hF9l := hF9.lenm
  have hF10 : Fine (.ls none (List.map Pn.encS b.els)) := hR6.at 21 rfl
  have hF10l := hF10.lenm
  refine pcalls_rf mixed Tryz.func131 rfl ?_
  refine Wp.sr [] ?_
  refine Wp.seq ?_
  by_cases h11 : (a.kind : Int) = b.kind
  · skip
    by_cases h12 : a.x = (b.x : ByteArray)
    · skip
      by_cases h13 : a.y = (b.y : ByteArray)
      · skip
        by_cases h14 : a.name = (b.name : ByteArray)
        · skip
          by_cases h15 : a.type = b.type
          · skip
            by_cases h16 : (Pn.sameX a.e b.e) = true
            · skip
              refine Wp.sr [.g (show (!decide ((a.kind : Int) = b.kind)) = false from (by simp [h11])), .g (show (!decide (a.x = (b.x : ByteArray))) = false from (by simp [h12])), .g (show (!decide (a.y = (b.y : ByteArray))) = false from (by simp [h13])), .g (show (!decide (a.name = (b.name : ByteArray))) = false from (by simp [h14])), .e (eqTy a.type b.type), .g (show (true ^^ (decide (a.type = b.type))) = false from (by simp [h15])), .c (sameX06 a.e b.e), .g (show (!(Pn.sameX a.e b.e)) = false from (by rw [h16]; rfl)), .n (lenm Pn.encX a.args), .n (lenm Pn.encX b.args)] ?_
              refine Wp.cd (!decide ((((a.args.length : Nat) : Int) : Int) = ((b.args.length : Nat) : Int))) (fun h17 => ?_) (fun h17 => ?_)
              · have h17 : ¬ ((((a.args.length : Nat) : Int) : Int) = ((b.args.length : Nat) : Int)) := by simpa using h17
                refine Wp.sr [] ?_
                refine Wp.ret ?_
                refine ⟨rfl, ?_⟩
                refine fin_r (.sc (.bool false)) ?_
                rw [Pn.sameS_eq]
                first
                  | (simp [h11, h12, h13, h14, h15, h16, h17]; done)
                  | (rw [Pn.all2_len (l := a.args) (r := b.args) (by omega)]; simp; done)
                  | (rw [Pn.all2_end htj (by assumption) (by omega)]; simp [h11, h12, h13, h14, h15, h16, h17]; done)
              · have h17 : ((((a.args.length : Nat) : Int) : Int) = ((b.args.length : Nat) : Int)) := by simpa using h17
                refine Wp.skip ?_
                refine Wp.seq ?_
                refine Wp.sr [] ?_
                refine Wp.block ?_
                refine Wp.lp (α := (Nat)) (fun | j => ⟨mk 87 [(0, (.ag (Pn.cS a))), (1, (.ag (Pn.cS b))), (2, (.pt 2 0)), (3, (.pt 3 0)), (5, (.sc (.int .i64 ((j : Nat) : Int)))), (55, (.sc (.bool (!decide ((((a.args.length : Nat) : Int) : Int) = ((b.args.length : Nat) : Int))))))], [(2, (Pn.cS a)), (3, (Pn.cS b))], y0⟩) (fun | j => j ≤ a.args.length ∧ Pn.all2 Pn.sameX (a.args.take j) (b.args.take j) = true) (fun | j => a.args.length - j) 0 ?_ ?_
                · exact ⟨Nat.zero_le _, by simp [Pn.all2]⟩
                rintro j hv18
                obtain ⟨hlj, htj⟩ := hv18
                refine Wp.seq ?_
                refine Wp.sr [.n (lenm Pn.encX a.args)] ?_
                refine Wp.cd (decide ((((j : Nat) : Int) : Int) < ((a.args.length : Nat) : Int))) (fun h19 => ?_) (fun h19 => ?_)
                · have h19 := of_decide_eq_true h19
                  refine Wp.skip ?_
                  refine Wp.seq ?_
                  refine Wp.block ?_
                  obtain ⟨x22, hx21⟩ : ∃ z0, (a.args)[j]? = some z0 := ⟨_, List.getElem?_eq_getElem (by omega)⟩
                  have hR24 : Fine (.ag (Pn.cX x22)) := hF3.row hx21 (Pn.encX_eq x22)
                  have hF25 : Fine (.ls none (List.map Pn.encX x22.kids)) := hR24.at 3 rfl
                  have hF25l := hF25.lenm
                  obtain ⟨x28, hx27⟩ : ∃ z0, (b.args)[j]? = some z0 := ⟨_, List.getElem?_eq_getElem (by omega)⟩
                  have hR30 : Fine (.ag (Pn.cX x28)) := hF8.row hx27 (Pn.encX_eq x28)
                  have hF31 : Fine (.ls none (List.map Pn.encX x28.kids)) := hR30.at 3 rfl
                  have hF31l := hF31.lenm
                  refine Wp.sr [.i (Pn.map_to hx21 (Pn.encX_eq x22)), .i (Pn.map_to hx27 (Pn.encX_eq x28)), .c (sameX06 x22 x28)] ?_
                  refine Wp.cd (!(Pn.sameX x22 x28)) (fun h32 => ?_) (fun h32 => ?_)
                  · have h32 : ¬ ((Pn.sameX x22 x28) = true) := by simpa using h32
                    refine Wp.sr [] ?_
                    refine Wp.ret ?_
                    refine ⟨rfl, ?_⟩
                    refine ⟨rfl, ?_⟩
                    refine ⟨rfl, ?_⟩
                    refine fin_r (.sc (.bool false)) ?_
                    rw [Pn.sameS_eq]
                    rw [Pn.all2_false hx21 hx27 (by simp [h11, h12, h13, h14, h15, h16, h17, h19, h32])]
                    simp
                  · have h32 : ((Pn.sameX x22 x28) = true) := by simpa using h32
                    refine Wp.skip ?_
                    refine Wp.rg [.z (int_add (x := ((j : Nat) : Int)) (y := 1) (z := (((j + 1) : Nat) : Int)) (by omega) (by omega) (by omega))] ?_
                    refine ⟨(j + 1), .rf, ?_, ?_⟩
                    · exact ⟨Pn.len_lt hx21, Pn.all2_next hx21 hx27 htj (by simp [h11, h12, h13, h14, h15, h16, h17, h19, h32])⟩
                    · simp only; omega
                · have h19 := of_decide_eq_false h19
                  refine Wp.exit ?_
                  refine ⟨rfl, ?_⟩
                  refine ⟨rfl, ?_⟩
                  by_cases h33 : (Pn.all2 Pn.sameS a.body b.body) = true
                  · skip
                    refine Wp.sr [.c (IH a.body (.inl rfl) b.body), .g (show (Pn.all2 Pn.sameS a.body b.body) = true from (by exact h33)), .c (IH a.els (.inr rfl) b.els)] ?_
                    refine Wp.ret ?_
                    refine fin_r (.sc (.bool (Pn.all2 Pn.sameS a.els b.els))) ?_
                    rw [Pn.sameS_eq]
                    first
                      | (simp [h11, h12, h13, h14, h15, h16, h17, h19, h33]; done)
                      | (rw [Pn.all2_len (l := a.args) (r := b.args) (by omega)]; simp; done)
                      | (rw [Pn.all2_end htj (by assumption) (by omega)]; simp [h11, h12, h13, h14, h15, h16, h17, h19, h33]; done)
                  · skip
                    refine Wp.sr [.c (IH a.body (.inl rfl) b.body), .g (show (Pn.all2 Pn.sameS a.body b.body) = false from (by exact (eq_false_of_ne_true h33)))] ?_
                    refine Wp.ret ?_
                    refine fin_r (.sc (.bool false)) ?_
                    rw [Pn.sameS_eq]
                    first
                      | (simp [h11, h12, h13, h14, h15, h16, h17, h19, h33]; done)
                      | (rw [Pn.all2_len (l := a.args) (r := b.args) (by omega)]; simp; done)
                      | (rw [Pn.all2_end htj (by assumption) (by omega)]; simp [h11, h12, h13, h14, h15, h16, h17, h19, h33]; done)
            · skip
              refine Wp.sr [.g (show (!decide ((a.kind : Int) = b.kind)) = false from (by simp [h11])), .g (show (!decide (a.x = (b.x : ByteArray))) = false from (by simp [h12])), .g (show (!decide (a.y = (b.y : ByteArray))) = false from (by simp [h13])), .g (show (!decide (a.name = (b.name : ByteArray))) = false from (by simp [h14])), .e (eqTy a.type b.type), .g (show (true ^^ (decide (a.type = b.type))) = false from (by simp [h15])), .c (sameX06 a.e b.e), .g (show (!(Pn.sameX a.e b.e)) = true from (by rw [(eq_false_of_ne_true h16)]; rfl))] ?_
              refine Wp.ct (B := true) rfl ?_
              refine Wp.sr [] ?_
              refine Wp.ret ?_
              refine ⟨rfl, ?_⟩
              refine fin_r (.sc (.bool false)) ?_
              rw [Pn.sameS_eq]
              first
                | (simp [h11, h12, h13, h14, h15, h16]; done)
                | (rw [Pn.all2_len (l := a.args) (r := b.args) (by omega)]; simp; done)
                | (rw [Pn.all2_end htj (by assumption) (by omega)]; simp [h11, h12, h13, h14, h15, h16]; done)
          · skip
            refine Wp.sr [.g (show (!decide ((a.kind : Int) = b.kind)) = false from (by simp [h11])), .g (show (!decide (a.x = (b.x : ByteArray))) = false from (by simp [h12])), .g (show (!decide (a.y = (b.y : ByteArray))) = false from (by simp [h13])), .g (show (!decide (a.name = (b.name : ByteArray))) = false from (by simp [h14])), .e (eqTy a.type b.type), .g (show (true ^^ (decide (a.type = b.type))) = true from (by simp [h15])), .g gT] ?_
            refine Wp.ct (B := true) rfl ?_
            refine Wp.sr [] ?_
            refine Wp.ret ?_
            refine ⟨rfl, ?_⟩
            refine fin_r (.sc (.bool false)) ?_
            rw [Pn.sameS_eq]
            first
              | (simp [h11, h12, h13, h14, h15]; done)
              | (rw [Pn.all2_len (l := a.args) (r := b.args) (by omega)]; simp; done)
              | (rw [Pn.all2_end htj (by assumption) (by omega)]; simp [h11, h12, h13, h14, h15]; done)
        · skip
          refine Wp.sr [.g (show (!decide ((a.kind : Int) = b.kind)) = false from (by simp [h11])), .g (show (!decide (a.x = (b.x : ByteArray))) = false from (by simp [h12])), .g (show (!decide (a.y = (b.y : ByteArray))) = false from (by simp [h13])), .g (show (!decide (a.name = (b.name : ByteArray))) = true from (by simp [h14])), .g gT, .g gT] ?_
          refine Wp.ct (B := true) rfl ?_
          refine Wp.sr [] ?_
          refine Wp.ret ?_
          refine ⟨rfl, ?_⟩
          refine fin_r (.sc (.bool false)) ?_
          rw [Pn.sameS_eq]
          first
            | (simp [h11, h12, h13, h14]; done)
            | (rw [Pn.all2_len (l := a.args) (r := b.args) (by omega)]; simp; done)
            | (rw [Pn.all2_end htj (by assumption) (by omega)]; simp [h11, h12, h13, h14]; done)
      · skip
        refine Wp.sr [.g (show (!decide ((a.kind : Int) = b.kind)) = false from (by simp [h11])), .g (show (!decide (a.x = (b.x : ByteArray))) = false from (by simp [h12])), .g (show (!decide (a.y = (b.y : ByteArray))) = true from (by simp [h13])), .g gT, .g gT, .g gT] ?_
        refine Wp.ct (B := true) rfl ?_
        refine Wp.sr [] ?_
        refine Wp.ret ?_
        refine ⟨rfl, ?_⟩
        refine fin_r (.sc (.bool false)) ?_
        rw [Pn.sameS_eq]
        first
          | (simp [h11, h12, h13]; done)
          | (rw [Pn.all2_len (l := a.args) (r := b.args) (by omega)]; simp; done)
          | (rw [Pn.all2_end htj (by assumption) (by omega)]; simp [h11, h12, h13]; done)
    · skip
      refine Wp.sr [.g (show (!decide ((a.kind : Int) = b.kind)) = false from (by simp [h11])), .g (show (!decide (a.x = (b.x : ByteArray))) = true from (by simp [h12])), .g gT, .g gT, .g gT, .g gT] ?_
      refine Wp.ct (B := true) rfl ?_
      refine Wp.sr [] ?_
      refine Wp.ret ?_
      refine ⟨rfl, ?_⟩
      refine fin_r (.sc (.bool false)) ?_
      rw [Pn.sameS_eq]
      first
        | (simp [h11, h12]; done)
        | (rw [Pn.all2_len (l := a.args) (r := b.args) (by omega)]; simp; done)
        | (rw [Pn.all2_end htj (by assumption) (by omega)]; simp [h11, h12]; done)
  · skip
    refine Wp.sr [.g (show (!decide ((a.kind : Int) = b.kind)) = true from (by simp [h11])), .g gT, .g gT, .g gT, .g gT, .g gT] ?_
    refine Wp.ct (B := true) rfl ?_
    refine Wp.sr [] ?_
    refine Wp.ret ?_
    refine ⟨rfl, ?_⟩
    refine fin_r (.sc (.bool false)) ?_
    rw [Pn.sameS_eq]
    first
      | (simp [h11]; done)
      | (rw [Pn.all2_len (l := a.args) (r := b.args) (by omega)]; simp; done)
      | (rw [Pn.all2_end htj (by assumption) (by omega)]; simp [h11]; done)

theorem same08 (a b : Pn.Sm) : PCalls Tryz.prog 131 [(.ag (Pn.cS a)), (.ag (Pn.cS b))] (.sc (.bool (Pn.sameS a b))) := by
  have key : ∀ n (a b : Pn.Sm), Pn.cntS a ≤ n → PCalls Tryz.prog 131 [(.ag (Pn.cS a)), (.ag (Pn.cS b))] (.sc (.bool (Pn.sameS a b))) := by
    intro n
    induction n with
    | zero => intro a b h; rw [Pn.cntS_eq] at h; omega
    | succ n ih =>
      intro a b h
      refine same_step a b fun l hl k => list_step l k fun x hx y => ih x y ?_
      have h1 := Pn.cntS_in hx
      rw [Pn.cntS_eq] at h
      rcases hl with rfl | rfl <;> omega
  exact key _ a b (Nat.le_refl _)
theorem list08 (a b : List Pn.Sm) : PCalls Tryz.prog 107 [(.ls none (List.map Pn.encS a)), (.ls none (List.map Pn.encS b))] (.sc (.bool (Pn.all2 Pn.sameS a b))) := list_step a b fun x hx y => same08 x y
end Go.Proofs.YtjghgpmkepfdhaaGreatDoor
namespace Go.Proofs.YtjghgpmkepfdhaaGreatDoor
open Go.RowKit
set_option linter.unusedVariables false
set_option linter.unusedSimpArgs false
set_option maxRecDepth 100000
set_option maxHeartbeats 4000000
theorem vars09 (a b : List Pn.Vr) (atp : Bool) : PCalls Tryz.prog 67 [(.ls none (List.map Pn.encVr a)), (.ls none (List.map Pn.encVr b)), (.sc (.bool atp))] (.sc (.bool (Pn.all2 (fun x y => Pn.eqVr atp x y) a b))) := by
  refine pcalls_fine fun hfa => ?_
  have hF1 := hfa 0 _ rfl
  have hF1l := hF1.lenm
  have hF2 := hfa 1 _ rfl
  have hF2l := hF2.lenm
  refine pcalls_rf mixed Tryz.func67 rfl ?_
  refine Wp.sr [] ?_
  refine Wp.seq ?_
  refine Wp.sr [.n (lenm Pn.encVr a), .n (lenm Pn.encVr b)] ?_
  refine Wp.cd (!decide ((((a.length : Nat) : Int) : Int) = ((b.length : Nat) : Int))) (fun h3 => ?_) (fun h3 => ?_)
  · have h3 : ¬ ((((a.length : Nat) : Int) : Int) = ((b.length : Nat) : Int)) := by simpa using h3
    refine Wp.sr [] ?_
    refine Wp.ret ?_
    refine ⟨rfl, ?_⟩
    refine fin_r (.sc (.bool false)) ?_
    rw [Pn.all2_len (by omega)]
  · have h3 : ((((a.length : Nat) : Int) : Int) = ((b.length : Nat) : Int)) := by simpa using h3
    refine Wp.skip ?_
    refine Wp.seq ?_
    refine Wp.sr [] ?_
    refine Wp.block ?_
    refine Wp.lp (α := (Nat)) (fun | j => ⟨mk 59 [(0, (.ls none (List.map Pn.encVr a))), (1, (.ls none (List.map Pn.encVr b))), (2, (.sc (.bool atp))), (7, (.sc (.int .i64 ((j : Nat) : Int)))), (12, (.sc (.bool (!decide ((((a.length : Nat) : Int) : Int) = ((b.length : Nat) : Int))))))], [], y0⟩) (fun | j => j ≤ a.length ∧ Pn.all2 (fun x y => Pn.eqVr atp x y) (a.take j) (b.take j) = true) (fun | j => a.length - j) 0 ?_ ?_
    · exact ⟨Nat.zero_le _, by simp [Pn.all2]⟩
    rintro j hv4
    obtain ⟨hlj, htj⟩ := hv4
    refine Wp.seq ?_
    refine Wp.sr [.n (lenm Pn.encVr a)] ?_
    refine Wp.cd (decide ((((j : Nat) : Int) : Int) < ((a.length : Nat) : Int))) (fun h5 => ?_) (fun h5 => ?_)
    · have h5 := of_decide_eq_true h5
      refine Wp.skip ?_
      refine Wp.seq ?_
      refine Wp.block ?_
      obtain ⟨x8, hx7⟩ : ∃ z0, (a)[j]? = some z0 := ⟨_, List.getElem?_eq_getElem (by omega)⟩
      obtain ⟨x12, hx11⟩ : ∃ z0, (b)[j]? = some z0 := ⟨_, List.getElem?_eq_getElem (by omega)⟩
      by_cases h14 : x8.name = (x12.name : ByteArray)
      · skip
        by_cases h15 : x8.type = x12.type
        · skip
          by_cases h16 : atp = true
          · skip
            refine Wp.sr [.i (map_get Pn.encVr hx7), .i (map_get Pn.encVr hx11), .g (show (!decide (x8.name = (x12.name : ByteArray))) = false from (by simp [h14])), .i (map_get Pn.encVr hx7), .i (map_get Pn.encVr hx11), .e (eqTy x8.type x12.type), .g (show (true ^^ (decide (x8.type = x12.type))) = false from (by simp [h15])), .g (show atp = true from (by exact h16)), .i (map_get Pn.encVr hx7), .i (map_get Pn.encVr hx11)] ?_
            refine Wp.cd (!decide ((x8.pos : Int) = x12.pos)) (fun h17 => ?_) (fun h17 => ?_)
            · have h17 : ¬ ((x8.pos : Int) = x12.pos) := by simpa using h17
              refine Wp.sr [] ?_
              refine Wp.ret ?_
              refine ⟨rfl, ?_⟩
              refine ⟨rfl, ?_⟩
              refine ⟨rfl, ?_⟩
              refine fin_r (.sc (.bool false)) ?_
              rw [Pn.all2_false hx7 hx11 (by simp [Pn.eqVr, h3, h5, h14, h15, h16, h17])]
            · have h17 : ((x8.pos : Int) = x12.pos) := by simpa using h17
              refine Wp.skip ?_
              refine Wp.rg [.z (int_add (x := ((j : Nat) : Int)) (y := 1) (z := (((j + 1) : Nat) : Int)) (by omega) (by omega) (by omega))] ?_
              refine ⟨(j + 1), .rf, ?_, ?_⟩
              · exact ⟨Pn.len_lt hx7, Pn.all2_next hx7 hx11 htj (by simp [Pn.eqVr, h3, h5, h14, h15, h16, h17])⟩
              · simp only; omega
          · skip
            refine Wp.sr [.i (map_get Pn.encVr hx7), .i (map_get Pn.encVr hx11), .g (show (!decide (x8.name = (x12.name : ByteArray))) = false from (by simp [h14])), .i (map_get Pn.encVr hx7), .i (map_get Pn.encVr hx11), .e (eqTy x8.type x12.type), .g (show (true ^^ (decide (x8.type = x12.type))) = false from (by simp [h15])), .g (show atp = false from (by exact (eq_false_of_ne_true h16)))] ?_
            refine Wp.cf (B := false) rfl ?_
            refine Wp.skip ?_
            refine Wp.rg [.z (int_add (x := ((j : Nat) : Int)) (y := 1) (z := (((j + 1) : Nat) : Int)) (by omega) (by omega) (by omega))] ?_
            refine ⟨(j + 1), .rf, ?_, ?_⟩
            · exact ⟨Pn.len_lt hx7, Pn.all2_next hx7 hx11 htj (by simp [Pn.eqVr, h3, h5, h14, h15, h16])⟩
            · simp only; omega
        · skip
          refine Wp.sr [.i (map_get Pn.encVr hx7), .i (map_get Pn.encVr hx11), .g (show (!decide (x8.name = (x12.name : ByteArray))) = false from (by simp [h14])), .i (map_get Pn.encVr hx7), .i (map_get Pn.encVr hx11), .e (eqTy x8.type x12.type), .g (show (true ^^ (decide (x8.type = x12.type))) = true from (by simp [h15]))] ?_
          refine Wp.ct (B := true) rfl ?_
          refine Wp.sr [] ?_
          refine Wp.ret ?_
          refine ⟨rfl, ?_⟩
          refine ⟨rfl, ?_⟩
          refine ⟨rfl, ?_⟩
          refine fin_r (.sc (.bool false)) ?_
          rw [Pn.all2_false hx7 hx11 (by simp [Pn.eqVr, h3, h5, h14, h15])]
      · skip
        refine Wp.sr [.i (map_get Pn.encVr hx7), .i (map_get Pn.encVr hx11), .g (show (!decide (x8.name = (x12.name : ByteArray))) = true from (by simp [h14])), .g gT] ?_
        refine Wp.ct (B := true) rfl ?_
        refine Wp.sr [] ?_
        refine Wp.ret ?_
        refine ⟨rfl, ?_⟩
        refine ⟨rfl, ?_⟩
        refine ⟨rfl, ?_⟩
        refine fin_r (.sc (.bool false)) ?_
        rw [Pn.all2_false hx7 hx11 (by simp [Pn.eqVr, h3, h5, h14])]
    · have h5 := of_decide_eq_false h5
      refine Wp.exit ?_
      refine ⟨rfl, ?_⟩
      refine ⟨rfl, ?_⟩
      refine Wp.sr [] ?_
      refine Wp.ret ?_
      refine fin_r (.sc (.bool true)) ?_
      congr 2
      exact Pn.all2_end htj (by assumption) (by omega)

theorem like09 (a b : Pn.Me) (atp : Bool) : PCalls Tryz.prog 66 [(.ag (Pn.cMe a)), (.ag (Pn.cMe b)), (.sc (.bool atp))] (.sc (.bool (Pn.likeM atp a b))) := by
  refine pcalls_fine fun hfa => ?_
  have hR1 := hfa 0 _ rfl
  have hF2 : Fine (.ls none (List.map Pn.encVr a.params)) := hR1.at 13 rfl
  have hF2l := hF2.lenm
  have hF3 : Fine (.ls none (List.map Pn.encVr a.locals)) := hR1.at 14 rfl
  have hF3l := hF3.lenm
  have hF4 : Fine (.ls none (List.map Pn.encS a.body)) := hR1.at 15 rfl
  have hF4l := hF4.lenm
  have hR5 := hfa 1 _ rfl
  have hF6 : Fine (.ls none (List.map Pn.encVr b.params)) := hR5.at 13 rfl
  have hF6l := hF6.lenm
  have hF7 : Fine (.ls none (List.map Pn.encVr b.locals)) := hR5.at 14 rfl
  have hF7l := hF7.lenm
  have hF8 : Fine (.ls none (List.map Pn.encS b.body)) := hR5.at 15 rfl
  have hF8l := hF8.lenm
  refine pcalls_rf mixed Tryz.func66 rfl ?_
  refine Wp.sr [] ?_
  refine Wp.seq ?_
  by_cases h9 : a.name = (b.name : ByteArray)
  · skip
    by_cases h10 : a.pure = b.pure
    · skip
      by_cases h11 : a.ret = b.ret
      · skip
        by_cases h12 : atp = true
        · skip
          by_cases h13 : (a.pos : Int) = b.pos
          · skip
            refine Wp.sr [.g (show (!decide (a.name = (b.name : ByteArray))) = false from (by simp [h9])), .g (show (!decide (a.pure = b.pure)) = false from (by simp [h10])), .e (eqTy a.ret b.ret), .g (show (true ^^ (decide (a.ret = b.ret))) = false from (by simp [h11])), .g (show atp = true from (by exact h12)), .g (show (!decide ((a.pos : Int) = b.pos)) = false from (by simp [h13])), .c (ats09 a.body b.body)] ?_
            refine Wp.cd (!(Pn.atsL a.body b.body)) (fun h14 => ?_) (fun h14 => ?_)
            · have h14 : ¬ ((Pn.atsL a.body b.body) = true) := by simpa using h14
              refine Wp.sr [] ?_
              refine Wp.ret ?_
              refine ⟨rfl, ?_⟩
              refine fin_r (.sc (.bool false)) ?_
              subst h12
              unfold Pn.likeM
              simp [h9, h10, h11, h13, h14]
            · have h14 : ((Pn.atsL a.body b.body) = true) := by simpa using h14
              refine Wp.skip ?_
              by_cases h15 : Pn.all2 (fun x y => Pn.eqVr atp x y) a.params b.params = true
              · skip
                by_cases h16 : Pn.all2 (fun x y => Pn.eqVr atp x y) a.locals b.locals = true
                · skip
                  refine Wp.sr [.c (vars09 a.params b.params atp), .g (show (Pn.all2 (fun x y => Pn.eqVr atp x y) a.params b.params) = true from (by simp [h15])), .c (vars09 a.locals b.locals atp), .g (show (Pn.all2 (fun x y => Pn.eqVr atp x y) a.locals b.locals) = true from (by simp [h16])), .c (list08 a.body b.body)] ?_
                  refine Wp.ret ?_
                  refine fin_r (.sc (.bool (Pn.all2 Pn.sameS a.body b.body))) ?_
                  subst h12
                  unfold Pn.likeM
                  simp [h9, h10, h11, h13, h14, h15, h16]
                · skip
                  refine Wp.sr [.c (vars09 a.params b.params atp), .g (show (Pn.all2 (fun x y => Pn.eqVr atp x y) a.params b.params) = true from (by simp [h15])), .c (vars09 a.locals b.locals atp), .g (show (Pn.all2 (fun x y => Pn.eqVr atp x y) a.locals b.locals) = false from (by simp [h16]))] ?_
                  refine Wp.ret ?_
                  refine fin_r (.sc (.bool false)) ?_
                  subst h12
                  unfold Pn.likeM
                  simp [h9, h10, h11, h13, h14, h15, h16]
              · skip
                refine Wp.sr [.c (vars09 a.params b.params atp), .g (show (Pn.all2 (fun x y => Pn.eqVr atp x y) a.params b.params) = false from (by simp [h15])), .g gF] ?_
                refine Wp.ret ?_
                refine fin_r (.sc (.bool false)) ?_
                subst h12
                unfold Pn.likeM
                simp [h9, h10, h11, h13, h14, h15]
          · skip
            refine Wp.sr [.g (show (!decide (a.name = (b.name : ByteArray))) = false from (by simp [h9])), .g (show (!decide (a.pure = b.pure)) = false from (by simp [h10])), .e (eqTy a.ret b.ret), .g (show (true ^^ (decide (a.ret = b.ret))) = false from (by simp [h11])), .g (show atp = true from (by exact h12)), .g (show (!decide ((a.pos : Int) = b.pos)) = true from (by simp [h13]))] ?_
            refine Wp.ct (B := true) rfl ?_
            refine Wp.sr [] ?_
            refine Wp.ret ?_
            refine ⟨rfl, ?_⟩
            refine fin_r (.sc (.bool false)) ?_
            subst h12
            unfold Pn.likeM
            simp [h9, h10, h11, h13]
        · skip
          refine Wp.sr [.g (show (!decide (a.name = (b.name : ByteArray))) = false from (by simp [h9])), .g (show (!decide (a.pure = b.pure)) = false from (by simp [h10])), .e (eqTy a.ret b.ret), .g (show (true ^^ (decide (a.ret = b.ret))) = false from (by simp [h11])), .g (show atp = false from (by exact (eq_false_of_ne_true h12)))] ?_
          refine Wp.cf (B := false) rfl ?_
          refine Wp.skip ?_
          by_cases h17 : Pn.all2 (fun x y => Pn.eqVr atp x y) a.params b.params = true
          · skip
            by_cases h18 : Pn.all2 (fun x y => Pn.eqVr atp x y) a.locals b.locals = true
            · skip
              refine Wp.sr [.c (vars09 a.params b.params atp), .g (show (Pn.all2 (fun x y => Pn.eqVr atp x y) a.params b.params) = true from (by simp [h17])), .c (vars09 a.locals b.locals atp), .g (show (Pn.all2 (fun x y => Pn.eqVr atp x y) a.locals b.locals) = true from (by simp [h18])), .c (list08 a.body b.body)] ?_
              refine Wp.ret ?_
              refine fin_r (.sc (.bool (Pn.all2 Pn.sameS a.body b.body))) ?_
              have hat := Bool.eq_false_iff.2 h12
              subst hat
              unfold Pn.likeM
              simp [h9, h10, h11, h17, h18]
            · skip
              refine Wp.sr [.c (vars09 a.params b.params atp), .g (show (Pn.all2 (fun x y => Pn.eqVr atp x y) a.params b.params) = true from (by simp [h17])), .c (vars09 a.locals b.locals atp), .g (show (Pn.all2 (fun x y => Pn.eqVr atp x y) a.locals b.locals) = false from (by simp [h18]))] ?_
              refine Wp.ret ?_
              refine fin_r (.sc (.bool false)) ?_
              have hat := Bool.eq_false_iff.2 h12
              subst hat
              unfold Pn.likeM
              simp [h9, h10, h11, h17, h18]
          · skip
            refine Wp.sr [.c (vars09 a.params b.params atp), .g (show (Pn.all2 (fun x y => Pn.eqVr atp x y) a.params b.params) = false from (by simp [h17])), .g gF] ?_
            refine Wp.ret ?_
            refine fin_r (.sc (.bool false)) ?_
            have hat := Bool.eq_false_iff.2 h12
            subst hat
            unfold Pn.likeM
            simp [h9, h10, h11, h17]
      · skip
        refine Wp.sr [.g (show (!decide (a.name = (b.name : ByteArray))) = false from (by simp [h9])), .g (show (!decide (a.pure = b.pure)) = false from (by simp [h10])), .e (eqTy a.ret b.ret), .g (show (true ^^ (decide (a.ret = b.ret))) = true from (by simp [h11]))] ?_
        refine Wp.ct (B := true) rfl ?_
        refine Wp.sr [] ?_
        refine Wp.ret ?_
        refine ⟨rfl, ?_⟩
        refine fin_r (.sc (.bool false)) ?_
        unfold Pn.likeM
        simp [h9, h10, h11]
    · skip
      refine Wp.sr [.g (show (!decide (a.name = (b.name : ByteArray))) = false from (by simp [h9])), .g (show (!decide (a.pure = b.pure)) = true from (by simp [h10])), .g gT] ?_
      refine Wp.ct (B := true) rfl ?_
      refine Wp.sr [] ?_
      refine Wp.ret ?_
      refine ⟨rfl, ?_⟩
      refine fin_r (.sc (.bool false)) ?_
      unfold Pn.likeM
      simp [h9, h10]
  · skip
    refine Wp.sr [.g (show (!decide (a.name = (b.name : ByteArray))) = true from (by simp [h9])), .g gT, .g gT] ?_
    refine Wp.ct (B := true) rfl ?_
    refine Wp.sr [] ?_
    refine Wp.ret ?_
    refine ⟨rfl, ?_⟩
    refine fin_r (.sc (.bool false)) ?_
    unfold Pn.likeM
    simp [h9]

theorem one09 (a b : Pn.Cl) (atp : Bool) : PCalls Tryz.prog 34 [(.ag (Pn.cCl a)), (.ag (Pn.cCl b)), (.sc (.bool atp))] (.sc (.bool (Pn.oneC atp a b))) := by
  refine pcalls_fine fun hfa => ?_
  have hR1 := hfa 0 _ rfl
  have hF2 : Fine (.ls none (List.map Pn.encStr a.params)) := hR1.at 1 rfl
  have hF2l := hF2.lenm
  have hF3 : Fine (.ls none (List.map Pn.encOw a.above)) := hR1.at 3 rfl
  have hF3l := hF3.lenm
  have hF4 : Fine (.ls none (List.map Pn.encVr a.fields)) := hR1.at 4 rfl
  have hF4l := hF4.lenm
  have hF5 : Fine (.ls none (List.map Pn.encMe a.methods)) := hR1.at 5 rfl
  have hF5l := hF5.lenm
  have hR6 := hfa 1 _ rfl
  have hF7 : Fine (.ls none (List.map Pn.encStr b.params)) := hR6.at 1 rfl
  have hF7l := hF7.lenm
  have hF8 : Fine (.ls none (List.map Pn.encOw b.above)) := hR6.at 3 rfl
  have hF8l := hF8.lenm
  have hF9 : Fine (.ls none (List.map Pn.encVr b.fields)) := hR6.at 4 rfl
  have hF9l := hF9.lenm
  have hF10 : Fine (.ls none (List.map Pn.encMe b.methods)) := hR6.at 5 rfl
  have hF10l := hF10.lenm
  refine pcalls_rf mixed Tryz.func34 rfl ?_
  refine Wp.sr [] ?_
  refine Wp.seq ?_
  by_cases h11 : a.name = (b.name : ByteArray)
  · skip
    by_cases h12 : a.super = (b.super : ByteArray)
    · skip
      by_cases h13 : (((a.params.length : Nat) : Int) : Int) = ((b.params.length : Nat) : Int)
      · skip
        by_cases h14 : (((a.above.length : Nat) : Int) : Int) = ((b.above.length : Nat) : Int)
        · skip
          by_cases h15 : (((a.methods.length : Nat) : Int) : Int) = ((b.methods.length : Nat) : Int)
          · skip
            by_cases h16 : atp = true
            · skip
              refine Wp.sr [.g (show (!decide (a.name = (b.name : ByteArray))) = false from (by simp [h11])), .g (show (!decide (a.super = (b.super : ByteArray))) = false from (by simp [h12])), .n (lenm Pn.encStr a.params), .n (lenm Pn.encStr b.params), .g (show (!decide ((((a.params.length : Nat) : Int) : Int) = ((b.params.length : Nat) : Int))) = false from (by first | (simp [h13]; done) | (simp only [h13, decide_false, decide_true, Bool.not_true, Bool.not_false, Bool.false_eq_true, not_false_eq_true, beq_self_eq_true]; done))), .n (lenm Pn.encOw a.above), .n (lenm Pn.encOw b.above), .g (show (!decide ((((a.above.length : Nat) : Int) : Int) = ((b.above.length : Nat) : Int))) = false from (by first | (simp [h14]; done) | (simp only [h14, decide_false, decide_true, Bool.not_true, Bool.not_false, Bool.false_eq_true, not_false_eq_true, beq_self_eq_true]; done))), .n (lenm Pn.encMe a.methods), .n (lenm Pn.encMe b.methods), .g (show (!decide ((((a.methods.length : Nat) : Int) : Int) = ((b.methods.length : Nat) : Int))) = false from (by first | (simp [h15]; done) | (simp only [h15, decide_false, decide_true, Bool.not_true, Bool.not_false, Bool.false_eq_true, not_false_eq_true, beq_self_eq_true]; done))), .g (show atp = true from (by exact h16))] ?_
              refine Wp.cd (!decide ((a.pos : Int) = b.pos)) (fun h17 => ?_) (fun h17 => ?_)
              · have h17 : ¬ ((a.pos : Int) = b.pos) := by simpa using h17
                refine Wp.sr [] ?_
                refine Wp.ret ?_
                refine ⟨rfl, ?_⟩
                refine fin_r (.sc (.bool false)) ?_
                rw [Pn.oneC_eq]
                first
                  | (simp [h11, h12, h13, h14, h15, h16, h17]; done)
                  | (rw [Pn.all2_len (l := a.params) (r := b.params) (by omega)]; simp; done)
                  | (rw [Pn.all2_len (l := a.above) (r := b.above) (by omega)]; simp; done)
                  | (rw [Pn.all2_len (l := a.methods) (r := b.methods) (by omega)]; simp; done)
              · have h17 : ((a.pos : Int) = b.pos) := by simpa using h17
                refine Wp.skip ?_
                refine Wp.seq ?_
                refine Wp.sr [] ?_
                refine Wp.block ?_
                refine Wp.lp (α := (Nat)) (fun | j => ⟨mk 121 [(0, (.ag (Pn.cCl a))), (1, (.ag (Pn.cCl b))), (2, (.sc (.bool atp))), (3, (.pt 3 0)), (4, (.pt 4 0)), (7, (.sc (.int .i64 ((j : Nat) : Int)))), (58, (.sc (.bool (!decide ((a.pos : Int) = b.pos)))))], [(3, (Pn.cCl a)), (4, (Pn.cCl b))], y0⟩) (fun | j => j ≤ a.params.length ∧ Pn.all2 (fun x y => decide (x = y)) (a.params.take j) (b.params.take j) = true) (fun | j => a.params.length - j) 0 ?_ ?_
                · exact ⟨Nat.zero_le _, by simp [Pn.all2]⟩
                rintro j hv18
                obtain ⟨hlj, htj⟩ := hv18
                refine Wp.seq ?_
                refine Wp.sr [.n (lenm Pn.encStr a.params)] ?_
                refine Wp.cd (decide ((((j : Nat) : Int) : Int) < ((a.params.length : Nat) : Int))) (fun h19 => ?_) (fun h19 => ?_)
                · have h19 := of_decide_eq_true h19
                  refine Wp.skip ?_
                  refine Wp.seq ?_
                  refine Wp.block ?_
                  obtain ⟨x22, hx21⟩ : ∃ z0, (a.params)[j]? = some z0 := ⟨_, List.getElem?_eq_getElem (by omega)⟩
                  obtain ⟨x26, hx25⟩ : ∃ z0, (b.params)[j]? = some z0 := ⟨_, List.getElem?_eq_getElem (by omega)⟩
                  refine Wp.sr [.i (map_get Pn.encStr hx21), .i (map_get Pn.encStr hx25)] ?_
                  refine Wp.cd (!decide (x22 = (x26 : ByteArray))) (fun h28 => ?_) (fun h28 => ?_)
                  · have h28 : ¬ (x22 = (x26 : ByteArray)) := by simpa using h28
                    refine Wp.sr [] ?_
                    refine Wp.ret ?_
                    refine ⟨rfl, ?_⟩
                    refine ⟨rfl, ?_⟩
                    refine ⟨rfl, ?_⟩
                    refine fin_r (.sc (.bool false)) ?_
                    rw [Pn.oneC_eq]
                    rw [Pn.all2_false (l := a.params) hx21 hx25 (by simp [h11, h12, h13, h14, h15, h17, h19, h28])]
                    simp
                  · have h28 : (x22 = (x26 : ByteArray)) := by simpa using h28
                    refine Wp.skip ?_
                    refine Wp.rg [.z (int_add (x := ((j : Nat) : Int)) (y := 1) (z := (((j + 1) : Nat) : Int)) (by omega) (by omega) (by omega))] ?_
                    refine ⟨(j + 1), .rf, ?_, ?_⟩
                    · exact ⟨Pn.len_lt hx21, Pn.all2_next hx21 hx25 htj (by simp [h11, h12, h13, h14, h15, h16, h17, h19, h28])⟩
                    · simp only; omega
                · have h19 := of_decide_eq_false h19
                  refine Wp.exit ?_
                  refine ⟨rfl, ?_⟩
                  refine ⟨rfl, ?_⟩
                  refine Wp.seq ?_
                  refine Wp.sr [] ?_
                  refine Wp.block ?_
                  refine Wp.lp (α := (Nat)) (fun | k => ⟨mk 121 [(0, (.ag (Pn.cCl a))), (1, (.ag (Pn.cCl b))), (2, (.sc (.bool atp))), (3, (.pt 3 0)), (4, (.pt 4 0)), (7, (.sc (.int .i64 ((j : Nat) : Int)))), (8, (.sc (.int .i64 ((k : Nat) : Int)))), (58, (.sc (.bool (!decide ((a.pos : Int) = b.pos))))), (63, (.sc (.bool (decide ((((j : Nat) : Int) : Int) < ((a.params.length : Nat) : Int))))))], [(3, (Pn.cCl a)), (4, (Pn.cCl b))], y0⟩) (fun | k => k ≤ a.above.length ∧ Pn.all2 (fun x y => decide (x = y)) (a.above.take k) (b.above.take k) = true) (fun | k => a.above.length - k) 0 ?_ ?_
                  · exact ⟨Nat.zero_le _, by simp [Pn.all2]⟩
                  rintro k hv29
                  obtain ⟨hlk, htk⟩ := hv29
                  refine Wp.seq ?_
                  refine Wp.sr [.n (lenm Pn.encOw a.above)] ?_
                  refine Wp.cd (decide ((((k : Nat) : Int) : Int) < ((a.above.length : Nat) : Int))) (fun h30 => ?_) (fun h30 => ?_)
                  · have h30 := of_decide_eq_true h30
                    refine Wp.skip ?_
                    refine Wp.seq ?_
                    refine Wp.block ?_
                    obtain ⟨x33, hx32⟩ : ∃ z0, (a.above)[k]? = some z0 := ⟨_, List.getElem?_eq_getElem (by omega)⟩
                    obtain ⟨x37, hx36⟩ : ∃ z0, (b.above)[k]? = some z0 := ⟨_, List.getElem?_eq_getElem (by omega)⟩
                    refine Wp.sr [.i (map_get Pn.encOw hx32), .i (map_get Pn.encOw hx36), .e (eqOw x33 x37)] ?_
                    refine Wp.cd (true ^^ (decide (x33 = x37))) (fun h39 => ?_) (fun h39 => ?_)
                    · have h39 : ¬ (x33 = x37) := by simpa using h39
                      refine Wp.sr [] ?_
                      refine Wp.ret ?_
                      refine ⟨rfl, ?_⟩
                      refine ⟨rfl, ?_⟩
                      refine ⟨rfl, ?_⟩
                      refine fin_r (.sc (.bool false)) ?_
                      rw [Pn.oneC_eq]
                      rw [Pn.all2_false (l := a.above) hx32 hx36 (by simp [h11, h12, h13, h14, h15, h17, h19, h30, h39])]
                      simp
                    · have h39 : (x33 = x37) := by simpa using h39
                      refine Wp.skip ?_
                      refine Wp.rg [.z (int_add (x := ((k : Nat) : Int)) (y := 1) (z := (((k + 1) : Nat) : Int)) (by omega) (by omega) (by omega))] ?_
                      refine ⟨(k + 1), .rf, ?_, ?_⟩
                      · exact ⟨Pn.len_lt hx32, Pn.all2_next hx32 hx36 htk (by simp [h11, h12, h13, h14, h15, h16, h17, h19, h30, h39])⟩
                      · simp only; omega
                  · have h30 := of_decide_eq_false h30
                    refine Wp.exit ?_
                    refine ⟨rfl, ?_⟩
                    refine ⟨rfl, ?_⟩
                    refine Wp.seq ?_
                    refine Wp.sr [] ?_
                    refine Wp.block ?_
                    refine Wp.lp (α := (Nat)) (fun | m => ⟨mk 121 [(0, (.ag (Pn.cCl a))), (1, (.ag (Pn.cCl b))), (2, (.sc (.bool atp))), (3, (.pt 3 0)), (4, (.pt 4 0)), (7, (.sc (.int .i64 ((j : Nat) : Int)))), (8, (.sc (.int .i64 ((k : Nat) : Int)))), (9, (.sc (.int .i64 ((m : Nat) : Int)))), (58, (.sc (.bool (!decide ((a.pos : Int) = b.pos))))), (63, (.sc (.bool (decide ((((j : Nat) : Int) : Int) < ((a.params.length : Nat) : Int)))))), (81, (.sc (.bool (decide ((((k : Nat) : Int) : Int) < ((a.above.length : Nat) : Int))))))], [(3, (Pn.cCl a)), (4, (Pn.cCl b))], y0⟩) (fun | m => m ≤ a.methods.length ∧ Pn.all2 (fun x y => Pn.likeM atp x y) (a.methods.take m) (b.methods.take m) = true) (fun | m => a.methods.length - m) 0 ?_ ?_
                    · exact ⟨Nat.zero_le _, by simp [Pn.all2]⟩
                    rintro m hv40
                    obtain ⟨hlm, htm⟩ := hv40
                    refine Wp.seq ?_
                    refine Wp.sr [.n (lenm Pn.encMe a.methods)] ?_
                    refine Wp.cd (decide ((((m : Nat) : Int) : Int) < ((a.methods.length : Nat) : Int))) (fun h41 => ?_) (fun h41 => ?_)
                    · have h41 := of_decide_eq_true h41
                      refine Wp.skip ?_
                      refine Wp.seq ?_
                      refine Wp.block ?_
                      obtain ⟨x44, hx43⟩ : ∃ z0, (a.methods)[m]? = some z0 := ⟨_, List.getElem?_eq_getElem (by omega)⟩
                      have hR46 : Fine (.ag (Pn.cMe x44)) := hF5.row hx43 rfl
                      have hF47 : Fine (.ls none (List.map Pn.encVr x44.params)) := hR46.at 13 rfl
                      have hF47l := hF47.lenm
                      have hF48 : Fine (.ls none (List.map Pn.encVr x44.locals)) := hR46.at 14 rfl
                      have hF48l := hF48.lenm
                      have hF49 : Fine (.ls none (List.map Pn.encS x44.body)) := hR46.at 15 rfl
                      have hF49l := hF49.lenm
                      obtain ⟨x52, hx51⟩ : ∃ z0, (b.methods)[m]? = some z0 := ⟨_, List.getElem?_eq_getElem (by omega)⟩
                      have hR54 : Fine (.ag (Pn.cMe x52)) := hF10.row hx51 rfl
                      have hF55 : Fine (.ls none (List.map Pn.encVr x52.params)) := hR54.at 13 rfl
                      have hF55l := hF55.lenm
                      have hF56 : Fine (.ls none (List.map Pn.encVr x52.locals)) := hR54.at 14 rfl
                      have hF56l := hF56.lenm
                      have hF57 : Fine (.ls none (List.map Pn.encS x52.body)) := hR54.at 15 rfl
                      have hF57l := hF57.lenm
                      refine Wp.sr [.i (map_get Pn.encMe hx43), .i (map_get Pn.encMe hx51), .c (like09 x44 x52 atp)] ?_
                      refine Wp.cd (!(Pn.likeM atp x44 x52)) (fun h58 => ?_) (fun h58 => ?_)
                      · have h58 : ¬ ((Pn.likeM atp x44 x52) = true) := by simpa using h58
                        refine Wp.sr [] ?_
                        refine Wp.ret ?_
                        refine ⟨rfl, ?_⟩
                        refine ⟨rfl, ?_⟩
                        refine ⟨rfl, ?_⟩
                        refine fin_r (.sc (.bool false)) ?_
                        rw [Pn.oneC_eq]
                        rw [Pn.all2_false (l := a.methods) hx43 hx51 (by simp [h11, h12, h13, h14, h15, h17, h19, h30, h41, h58])]
                        simp
                      · have h58 : ((Pn.likeM atp x44 x52) = true) := by simpa using h58
                        refine Wp.skip ?_
                        refine Wp.rg [.z (int_add (x := ((m : Nat) : Int)) (y := 1) (z := (((m + 1) : Nat) : Int)) (by omega) (by omega) (by omega))] ?_
                        refine ⟨(m + 1), .rf, ?_, ?_⟩
                        · exact ⟨Pn.len_lt hx43, Pn.all2_next hx43 hx51 htm (by simp [h11, h12, h13, h14, h15, h17, h19, h30, h41, h58])⟩
                        · simp only; omega
                    · have h41 := of_decide_eq_false h41
                      refine Wp.exit ?_
                      refine ⟨rfl, ?_⟩
                      refine ⟨rfl, ?_⟩
                      refine Wp.sr [.c (vars09 a.fields b.fields atp)] ?_
                      refine Wp.ret ?_
                      refine fin_r (.sc (.bool (Pn.all2 (fun x y => Pn.eqVr atp x y) a.fields b.fields))) ?_
                      rw [Pn.oneC_eq]
                      rw [Pn.all2_end htj (by assumption) (by omega), Pn.all2_end htk (by assumption) (by omega), Pn.all2_end htm (by assumption) (by omega)]
                      simp [h11, h12, h13, h14, h15, h16, h17, h19, h30, h41]
            · skip
              refine Wp.sr [.g (show (!decide (a.name = (b.name : ByteArray))) = false from (by simp [h11])), .g (show (!decide (a.super = (b.super : ByteArray))) = false from (by simp [h12])), .n (lenm Pn.encStr a.params), .n (lenm Pn.encStr b.params), .g (show (!decide ((((a.params.length : Nat) : Int) : Int) = ((b.params.length : Nat) : Int))) = false from (by first | (simp [h13]; done) | (simp only [h13, decide_false, decide_true, Bool.not_true, Bool.not_false, Bool.false_eq_true, not_false_eq_true, beq_self_eq_true]; done))), .n (lenm Pn.encOw a.above), .n (lenm Pn.encOw b.above), .g (show (!decide ((((a.above.length : Nat) : Int) : Int) = ((b.above.length : Nat) : Int))) = false from (by first | (simp [h14]; done) | (simp only [h14, decide_false, decide_true, Bool.not_true, Bool.not_false, Bool.false_eq_true, not_false_eq_true, beq_self_eq_true]; done))), .n (lenm Pn.encMe a.methods), .n (lenm Pn.encMe b.methods), .g (show (!decide ((((a.methods.length : Nat) : Int) : Int) = ((b.methods.length : Nat) : Int))) = false from (by first | (simp [h15]; done) | (simp only [h15, decide_false, decide_true, Bool.not_true, Bool.not_false, Bool.false_eq_true, not_false_eq_true, beq_self_eq_true]; done))), .g (show atp = false from (by exact (eq_false_of_ne_true h16)))] ?_
              refine Wp.cf (B := false) rfl ?_
              refine Wp.skip ?_
              refine Wp.seq ?_
              refine Wp.sr [] ?_
              refine Wp.block ?_
              refine Wp.lp (α := (Nat)) (fun | j => ⟨mk 121 [(0, (.ag (Pn.cCl a))), (1, (.ag (Pn.cCl b))), (2, (.sc (.bool atp))), (3, (.pt 3 0)), (4, (.pt 4 0)), (7, (.sc (.int .i64 ((j : Nat) : Int)))), (58, (.sc (.bool false)))], [(3, (Pn.cCl a)), (4, (Pn.cCl b))], y0⟩) (fun | j => j ≤ a.params.length ∧ Pn.all2 (fun x y => decide (x = y)) (a.params.take j) (b.params.take j) = true) (fun | j => a.params.length - j) 0 ?_ ?_
              · exact ⟨Nat.zero_le _, by simp [Pn.all2]⟩
              rintro j hv59
              obtain ⟨hlj, htj⟩ := hv59
              refine Wp.seq ?_
              refine Wp.sr [.n (lenm Pn.encStr a.params)] ?_
              refine Wp.cd (decide ((((j : Nat) : Int) : Int) < ((a.params.length : Nat) : Int))) (fun h60 => ?_) (fun h60 => ?_)
              · have h60 := of_decide_eq_true h60
                refine Wp.skip ?_
                refine Wp.seq ?_
                refine Wp.block ?_
                obtain ⟨x63, hx62⟩ : ∃ z0, (a.params)[j]? = some z0 := ⟨_, List.getElem?_eq_getElem (by omega)⟩
                obtain ⟨x67, hx66⟩ : ∃ z0, (b.params)[j]? = some z0 := ⟨_, List.getElem?_eq_getElem (by omega)⟩
                refine Wp.sr [.i (map_get Pn.encStr hx62), .i (map_get Pn.encStr hx66)] ?_
                refine Wp.cd (!decide (x63 = (x67 : ByteArray))) (fun h69 => ?_) (fun h69 => ?_)
                · have h69 : ¬ (x63 = (x67 : ByteArray)) := by simpa using h69
                  refine Wp.sr [] ?_
                  refine Wp.ret ?_
                  refine ⟨rfl, ?_⟩
                  refine ⟨rfl, ?_⟩
                  refine ⟨rfl, ?_⟩
                  refine fin_r (.sc (.bool false)) ?_
                  rw [Pn.oneC_eq]
                  rw [Pn.all2_false (l := a.params) hx62 hx66 (by simp [h11, h12, h13, h14, h15, h60, h69])]
                  simp
                · have h69 : (x63 = (x67 : ByteArray)) := by simpa using h69
                  refine Wp.skip ?_
                  refine Wp.rg [.z (int_add (x := ((j : Nat) : Int)) (y := 1) (z := (((j + 1) : Nat) : Int)) (by omega) (by omega) (by omega))] ?_
                  refine ⟨(j + 1), .rf, ?_, ?_⟩
                  · exact ⟨Pn.len_lt hx62, Pn.all2_next hx62 hx66 htj (by simp [h11, h12, h13, h14, h15, h16, h60, h69])⟩
                  · simp only; omega
              · have h60 := of_decide_eq_false h60
                refine Wp.exit ?_
                refine ⟨rfl, ?_⟩
                refine ⟨rfl, ?_⟩
                refine Wp.seq ?_
                refine Wp.sr [] ?_
                refine Wp.block ?_
                refine Wp.lp (α := (Nat)) (fun | k => ⟨mk 121 [(0, (.ag (Pn.cCl a))), (1, (.ag (Pn.cCl b))), (2, (.sc (.bool atp))), (3, (.pt 3 0)), (4, (.pt 4 0)), (7, (.sc (.int .i64 ((j : Nat) : Int)))), (8, (.sc (.int .i64 ((k : Nat) : Int)))), (58, (.sc (.bool false))), (63, (.sc (.bool (decide ((((j : Nat) : Int) : Int) < ((a.params.length : Nat) : Int))))))], [(3, (Pn.cCl a)), (4, (Pn.cCl b))], y0⟩) (fun | k => k ≤ a.above.length ∧ Pn.all2 (fun x y => decide (x = y)) (a.above.take k) (b.above.take k) = true) (fun | k => a.above.length - k) 0 ?_ ?_
                · exact ⟨Nat.zero_le _, by simp [Pn.all2]⟩
                rintro k hv70
                obtain ⟨hlk, htk⟩ := hv70
                refine Wp.seq ?_
                refine Wp.sr [.n (lenm Pn.encOw a.above)] ?_
                refine Wp.cd (decide ((((k : Nat) : Int) : Int) < ((a.above.length : Nat) : Int))) (fun h71 => ?_) (fun h71 => ?_)
                · have h71 := of_decide_eq_true h71
                  refine Wp.skip ?_
                  refine Wp.seq ?_
                  refine Wp.block ?_
                  obtain ⟨x74, hx73⟩ : ∃ z0, (a.above)[k]? = some z0 := ⟨_, List.getElem?_eq_getElem (by omega)⟩
                  obtain ⟨x78, hx77⟩ : ∃ z0, (b.above)[k]? = some z0 := ⟨_, List.getElem?_eq_getElem (by omega)⟩
                  refine Wp.sr [.i (map_get Pn.encOw hx73), .i (map_get Pn.encOw hx77), .e (eqOw x74 x78)] ?_
                  refine Wp.cd (true ^^ (decide (x74 = x78))) (fun h80 => ?_) (fun h80 => ?_)
                  · have h80 : ¬ (x74 = x78) := by simpa using h80
                    refine Wp.sr [] ?_
                    refine Wp.ret ?_
                    refine ⟨rfl, ?_⟩
                    refine ⟨rfl, ?_⟩
                    refine ⟨rfl, ?_⟩
                    refine fin_r (.sc (.bool false)) ?_
                    rw [Pn.oneC_eq]
                    rw [Pn.all2_false (l := a.above) hx73 hx77 (by simp [h11, h12, h13, h14, h15, h60, h71, h80])]
                    simp
                  · have h80 : (x74 = x78) := by simpa using h80
                    refine Wp.skip ?_
                    refine Wp.rg [.z (int_add (x := ((k : Nat) : Int)) (y := 1) (z := (((k + 1) : Nat) : Int)) (by omega) (by omega) (by omega))] ?_
                    refine ⟨(k + 1), .rf, ?_, ?_⟩
                    · exact ⟨Pn.len_lt hx73, Pn.all2_next hx73 hx77 htk (by simp [h11, h12, h13, h14, h15, h16, h60, h71, h80])⟩
                    · simp only; omega
                · have h71 := of_decide_eq_false h71
                  refine Wp.exit ?_
                  refine ⟨rfl, ?_⟩
                  refine ⟨rfl, ?_⟩
                  refine Wp.seq ?_
                  refine Wp.sr [] ?_
                  refine Wp.block ?_
                  refine Wp.lp (α := (Nat)) (fun | m => ⟨mk 121 [(0, (.ag (Pn.cCl a))), (1, (.ag (Pn.cCl b))), (2, (.sc (.bool atp))), (3, (.pt 3 0)), (4, (.pt 4 0)), (7, (.sc (.int .i64 ((j : Nat) : Int)))), (8, (.sc (.int .i64 ((k : Nat) : Int)))), (9, (.sc (.int .i64 ((m : Nat) : Int)))), (58, (.sc (.bool false))), (63, (.sc (.bool (decide ((((j : Nat) : Int) : Int) < ((a.params.length : Nat) : Int)))))), (81, (.sc (.bool (decide ((((k : Nat) : Int) : Int) < ((a.above.length : Nat) : Int))))))], [(3, (Pn.cCl a)), (4, (Pn.cCl b))], y0⟩) (fun | m => m ≤ a.methods.length ∧ Pn.all2 (fun x y => Pn.likeM atp x y) (a.methods.take m) (b.methods.take m) = true) (fun | m => a.methods.length - m) 0 ?_ ?_
                  · exact ⟨Nat.zero_le _, by simp [Pn.all2]⟩
                  rintro m hv81
                  obtain ⟨hlm, htm⟩ := hv81
                  refine Wp.seq ?_
                  refine Wp.sr [.n (lenm Pn.encMe a.methods)] ?_
                  refine Wp.cd (decide ((((m : Nat) : Int) : Int) < ((a.methods.length : Nat) : Int))) (fun h82 => ?_) (fun h82 => ?_)
                  · have h82 := of_decide_eq_true h82
                    refine Wp.skip ?_
                    refine Wp.seq ?_
                    refine Wp.block ?_
                    obtain ⟨x85, hx84⟩ : ∃ z0, (a.methods)[m]? = some z0 := ⟨_, List.getElem?_eq_getElem (by omega)⟩
                    have hR87 : Fine (.ag (Pn.cMe x85)) := hF5.row hx84 rfl
                    have hF88 : Fine (.ls none (List.map Pn.encVr x85.params)) := hR87.at 13 rfl
                    have hF88l := hF88.lenm
                    have hF89 : Fine (.ls none (List.map Pn.encVr x85.locals)) := hR87.at 14 rfl
                    have hF89l := hF89.lenm
                    have hF90 : Fine (.ls none (List.map Pn.encS x85.body)) := hR87.at 15 rfl
                    have hF90l := hF90.lenm
                    obtain ⟨x93, hx92⟩ : ∃ z0, (b.methods)[m]? = some z0 := ⟨_, List.getElem?_eq_getElem (by omega)⟩
                    have hR95 : Fine (.ag (Pn.cMe x93)) := hF10.row hx92 rfl
                    have hF96 : Fine (.ls none (List.map Pn.encVr x93.params)) := hR95.at 13 rfl
                    have hF96l := hF96.lenm
                    have hF97 : Fine (.ls none (List.map Pn.encVr x93.locals)) := hR95.at 14 rfl
                    have hF97l := hF97.lenm
                    have hF98 : Fine (.ls none (List.map Pn.encS x93.body)) := hR95.at 15 rfl
                    have hF98l := hF98.lenm
                    refine Wp.sr [.i (map_get Pn.encMe hx84), .i (map_get Pn.encMe hx92), .c (like09 x85 x93 atp)] ?_
                    refine Wp.cd (!(Pn.likeM atp x85 x93)) (fun h99 => ?_) (fun h99 => ?_)
                    · have h99 : ¬ ((Pn.likeM atp x85 x93) = true) := by simpa using h99
                      refine Wp.sr [] ?_
                      refine Wp.ret ?_
                      refine ⟨rfl, ?_⟩
                      refine ⟨rfl, ?_⟩
                      refine ⟨rfl, ?_⟩
                      refine fin_r (.sc (.bool false)) ?_
                      rw [Pn.oneC_eq]
                      rw [Pn.all2_false (l := a.methods) hx84 hx92 (by simp [h11, h12, h13, h14, h15, h60, h71, h82, h99])]
                      simp
                    · have h99 : ((Pn.likeM atp x85 x93) = true) := by simpa using h99
                      refine Wp.skip ?_
                      refine Wp.rg [.z (int_add (x := ((m : Nat) : Int)) (y := 1) (z := (((m + 1) : Nat) : Int)) (by omega) (by omega) (by omega))] ?_
                      refine ⟨(m + 1), .rf, ?_, ?_⟩
                      · exact ⟨Pn.len_lt hx84, Pn.all2_next hx84 hx92 htm (by simp [h11, h12, h13, h14, h15, h60, h71, h82, h99])⟩
                      · simp only; omega
                  · have h82 := of_decide_eq_false h82
                    refine Wp.exit ?_
                    refine ⟨rfl, ?_⟩
                    refine ⟨rfl, ?_⟩
                    refine Wp.sr [.c (vars09 a.fields b.fields atp)] ?_
                    refine Wp.ret ?_
                    refine fin_r (.sc (.bool (Pn.all2 (fun x y => Pn.eqVr atp x y) a.fields b.fields))) ?_
                    rw [Pn.oneC_eq]
                    rw [Pn.all2_end htj (by assumption) (by omega), Pn.all2_end htk (by assumption) (by omega), Pn.all2_end htm (by assumption) (by omega)]
                    simp [h11, h12, h13, h14, h15, h16, h60, h71, h82]
          · skip
            refine Wp.sr [.g (show (!decide (a.name = (b.name : ByteArray))) = false from (by simp [h11])), .g (show (!decide (a.super = (b.super : ByteArray))) = false from (by simp [h12])), .n (lenm Pn.encStr a.params), .n (lenm Pn.encStr b.params), .g (show (!decide ((((a.params.length : Nat) : Int) : Int) = ((b.params.length : Nat) : Int))) = false from (by first | (simp [h13]; done) | (simp only [h13, decide_false, decide_true, Bool.not_true, Bool.not_false, Bool.false_eq_true, not_false_eq_true, beq_self_eq_true]; done))), .n (lenm Pn.encOw a.above), .n (lenm Pn.encOw b.above), .g (show (!decide ((((a.above.length : Nat) : Int) : Int) = ((b.above.length : Nat) : Int))) = false from (by first | (simp [h14]; done) | (simp only [h14, decide_false, decide_true, Bool.not_true, Bool.not_false, Bool.false_eq_true, not_false_eq_true, beq_self_eq_true]; done))), .n (lenm Pn.encMe a.methods), .n (lenm Pn.encMe b.methods), .g (show (!decide ((((a.methods.length : Nat) : Int) : Int) = ((b.methods.length : Nat) : Int))) = true from (by first | (simp [h15]; done) | (simp only [h15, decide_false, decide_true, Bool.not_true, Bool.not_false, Bool.false_eq_true, not_false_eq_true, beq_self_eq_true]; done)))] ?_
            refine Wp.ct (B := true) rfl ?_
            refine Wp.sr [] ?_
            refine Wp.ret ?_
            refine ⟨rfl, ?_⟩
            refine fin_r (.sc (.bool false)) ?_
            rw [Pn.oneC_eq]
            first
              | (simp [h11, h12, h13, h14, h15]; done)
              | (rw [Pn.all2_len (l := a.params) (r := b.params) (by omega)]; simp; done)
              | (rw [Pn.all2_len (l := a.above) (r := b.above) (by omega)]; simp; done)
              | (rw [Pn.all2_len (l := a.methods) (r := b.methods) (by omega)]; simp; done)
        · skip
          refine Wp.sr [.g (show (!decide (a.name = (b.name : ByteArray))) = false from (by simp [h11])), .g (show (!decide (a.super = (b.super : ByteArray))) = false from (by simp [h12])), .n (lenm Pn.encStr a.params), .n (lenm Pn.encStr b.params), .g (show (!decide ((((a.params.length : Nat) : Int) : Int) = ((b.params.length : Nat) : Int))) = false from (by first | (simp [h13]; done) | (simp only [h13, decide_false, decide_true, Bool.not_true, Bool.not_false, Bool.false_eq_true, not_false_eq_true, beq_self_eq_true]; done))), .n (lenm Pn.encOw a.above), .n (lenm Pn.encOw b.above), .g (show (!decide ((((a.above.length : Nat) : Int) : Int) = ((b.above.length : Nat) : Int))) = true from (by first | (simp [h14]; done) | (simp only [h14, decide_false, decide_true, Bool.not_true, Bool.not_false, Bool.false_eq_true, not_false_eq_true, beq_self_eq_true]; done))), .g gT] ?_
          refine Wp.ct (B := true) rfl ?_
          refine Wp.sr [] ?_
          refine Wp.ret ?_
          refine ⟨rfl, ?_⟩
          refine fin_r (.sc (.bool false)) ?_
          rw [Pn.oneC_eq]
          first
            | (simp [h11, h12, h13, h14]; done)
            | (rw [Pn.all2_len (l := a.params) (r := b.params) (by omega)]; simp; done)
            | (rw [Pn.all2_len (l := a.above) (r := b.above) (by omega)]; simp; done)
            | (rw [Pn.all2_len (l := a.methods) (r := b.methods) (by omega)]; simp; done)
      · skip
        refine Wp.sr [.g (show (!decide (a.name = (b.name : ByteArray))) = false from (by simp [h11])), .g (show (!decide (a.super = (b.super : ByteArray))) = false from (by simp [h12])), .n (lenm Pn.encStr a.params), .n (lenm Pn.encStr b.params), .g (show (!decide ((((a.params.length : Nat) : Int) : Int) = ((b.params.length : Nat) : Int))) = true from (by first | (simp [h13]; done) | (simp only [h13, decide_false, decide_true, Bool.not_true, Bool.not_false, Bool.false_eq_true, not_false_eq_true, beq_self_eq_true]; done))), .g gT, .g gT] ?_
        refine Wp.ct (B := true) rfl ?_
        refine Wp.sr [] ?_
        refine Wp.ret ?_
        refine ⟨rfl, ?_⟩
        refine fin_r (.sc (.bool false)) ?_
        rw [Pn.oneC_eq]
        first
          | (simp [h11, h12, h13]; done)
          | (rw [Pn.all2_len (l := a.params) (r := b.params) (by omega)]; simp; done)
          | (rw [Pn.all2_len (l := a.above) (r := b.above) (by omega)]; simp; done)
          | (rw [Pn.all2_len (l := a.methods) (r := b.methods) (by omega)]; simp; done)
    · skip
      refine Wp.sr [.g (show (!decide (a.name = (b.name : ByteArray))) = false from (by simp [h11])), .g (show (!decide (a.super = (b.super : ByteArray))) = true from (by simp [h12])), .g gT, .g gT, .g gT] ?_
      refine Wp.ct (B := true) rfl ?_
      refine Wp.sr [] ?_
      refine Wp.ret ?_
      refine ⟨rfl, ?_⟩
      refine fin_r (.sc (.bool false)) ?_
      rw [Pn.oneC_eq]
      first
        | (simp [h11, h12]; done)
        | (rw [Pn.all2_len (l := a.params) (r := b.params) (by omega)]; simp; done)
        | (rw [Pn.all2_len (l := a.above) (r := b.above) (by omega)]; simp; done)
        | (rw [Pn.all2_len (l := a.methods) (r := b.methods) (by omega)]; simp; done)
  · skip
    refine Wp.sr [.g (show (!decide (a.name = (b.name : ByteArray))) = true from (by simp [h11])), .g gT, .g gT, .g gT, .g gT] ?_
    refine Wp.ct (B := true) rfl ?_
    refine Wp.sr [] ?_
    refine Wp.ret ?_
    refine ⟨rfl, ?_⟩
    refine fin_r (.sc (.bool false)) ?_
    rw [Pn.oneC_eq]
    first
      | (simp [h11]; done)
      | (rw [Pn.all2_len (l := a.params) (r := b.params) (by omega)]; simp; done)
      | (rw [Pn.all2_len (l := a.above) (r := b.above) (by omega)]; simp; done)
      | (rw [Pn.all2_len (l := a.methods) (r := b.methods) (by omega)]; simp; done)

theorem Like09 (a b : List Pn.Cl) (atp : Bool) : PCalls Tryz.prog 13 [(.ls none (List.map Pn.encCl a)), (.ls none (List.map Pn.encCl b)), (.sc (.bool atp))] (.sc (.bool (Pn.all2 (fun x y => Pn.oneC atp x y) a b))) := by
  refine pcalls_fine fun hfa => ?_
  have hF1 := hfa 0 _ rfl
  have hF1l := hF1.lenm
  have hF2 := hfa 1 _ rfl
  have hF2l := hF2.lenm
  refine pcalls_rf mixed Tryz.func13 rfl ?_
  refine Wp.sr [] ?_
  refine Wp.seq ?_
  refine Wp.sr [.n (lenm Pn.encCl a), .n (lenm Pn.encCl b)] ?_
  refine Wp.cd (!decide ((((a.length : Nat) : Int) : Int) = ((b.length : Nat) : Int))) (fun h3 => ?_) (fun h3 => ?_)
  · have h3 : ¬ ((((a.length : Nat) : Int) : Int) = ((b.length : Nat) : Int)) := by simpa using h3
    refine Wp.sr [] ?_
    refine Wp.ret ?_
    refine ⟨rfl, ?_⟩
    refine fin_r (.sc (.bool false)) ?_
    rw [Pn.all2_len (by omega)]
  · have h3 : ((((a.length : Nat) : Int) : Int) = ((b.length : Nat) : Int)) := by simpa using h3
    refine Wp.skip ?_
    refine Wp.seq ?_
    refine Wp.sr [] ?_
    refine Wp.block ?_
    refine Wp.lp (α := (Nat)) (fun | j => ⟨mk 30 [(0, (.ls none (List.map Pn.encCl a))), (1, (.ls none (List.map Pn.encCl b))), (2, (.sc (.bool atp))), (7, (.sc (.int .i64 ((j : Nat) : Int)))), (12, (.sc (.bool (!decide ((((a.length : Nat) : Int) : Int) = ((b.length : Nat) : Int))))))], [], y0⟩) (fun | j => j ≤ a.length ∧ Pn.all2 (fun x y => Pn.oneC atp x y) (a.take j) (b.take j) = true) (fun | j => a.length - j) 0 ?_ ?_
    · exact ⟨Nat.zero_le _, by simp [Pn.all2]⟩
    rintro j hv4
    obtain ⟨hlj, htj⟩ := hv4
    refine Wp.seq ?_
    refine Wp.sr [.n (lenm Pn.encCl a)] ?_
    refine Wp.cd (decide ((((j : Nat) : Int) : Int) < ((a.length : Nat) : Int))) (fun h5 => ?_) (fun h5 => ?_)
    · have h5 := of_decide_eq_true h5
      refine Wp.skip ?_
      refine Wp.seq ?_
      refine Wp.block ?_
      obtain ⟨x8, hx7⟩ : ∃ z0, (a)[j]? = some z0 := ⟨_, List.getElem?_eq_getElem (by omega)⟩
      have hR10 : Fine (.ag (Pn.cCl x8)) := hF1.row hx7 rfl
      have hF11 : Fine (.ls none (List.map Pn.encStr x8.params)) := hR10.at 1 rfl
      have hF11l := hF11.lenm
      have hF12 : Fine (.ls none (List.map Pn.encOw x8.above)) := hR10.at 3 rfl
      have hF12l := hF12.lenm
      have hF13 : Fine (.ls none (List.map Pn.encVr x8.fields)) := hR10.at 4 rfl
      have hF13l := hF13.lenm
      have hF14 : Fine (.ls none (List.map Pn.encMe x8.methods)) := hR10.at 5 rfl
      have hF14l := hF14.lenm
      obtain ⟨x17, hx16⟩ : ∃ z0, (b)[j]? = some z0 := ⟨_, List.getElem?_eq_getElem (by omega)⟩
      have hR19 : Fine (.ag (Pn.cCl x17)) := hF2.row hx16 rfl
      have hF20 : Fine (.ls none (List.map Pn.encStr x17.params)) := hR19.at 1 rfl
      have hF20l := hF20.lenm
      have hF21 : Fine (.ls none (List.map Pn.encOw x17.above)) := hR19.at 3 rfl
      have hF21l := hF21.lenm
      have hF22 : Fine (.ls none (List.map Pn.encVr x17.fields)) := hR19.at 4 rfl
      have hF22l := hF22.lenm
      have hF23 : Fine (.ls none (List.map Pn.encMe x17.methods)) := hR19.at 5 rfl
      have hF23l := hF23.lenm
      refine Wp.sr [.i (map_get Pn.encCl hx7), .i (map_get Pn.encCl hx16), .c (one09 x8 x17 atp)] ?_
      refine Wp.cd (!(Pn.oneC atp x8 x17)) (fun h24 => ?_) (fun h24 => ?_)
      · have h24 : ¬ ((Pn.oneC atp x8 x17) = true) := by simpa using h24
        refine Wp.sr [] ?_
        refine Wp.ret ?_
        refine ⟨rfl, ?_⟩
        refine ⟨rfl, ?_⟩
        refine ⟨rfl, ?_⟩
        refine fin_r (.sc (.bool false)) ?_
        rw [Pn.all2_false hx7 hx16 (by simp [h3, h5, h24])]
      · have h24 : ((Pn.oneC atp x8 x17) = true) := by simpa using h24
        refine Wp.skip ?_
        refine Wp.rg [.z (int_add (x := ((j : Nat) : Int)) (y := 1) (z := (((j + 1) : Nat) : Int)) (by omega) (by omega) (by omega))] ?_
        refine ⟨(j + 1), .rf, ?_, ?_⟩
        · exact ⟨Pn.len_lt hx7, Pn.all2_next hx7 hx16 htj (by simp [h3, h5, h24])⟩
        · simp only; omega
    · have h5 := of_decide_eq_false h5
      refine Wp.exit ?_
      refine ⟨rfl, ?_⟩
      refine ⟨rfl, ?_⟩
      refine Wp.sr [] ?_
      refine Wp.ret ?_
      refine fin_r (.sc (.bool true)) ?_
      rw [Pn.all2_end htj (by assumption) (by omega)]
end Go.Proofs.YtjghgpmkepfdhaaGreatDoor
namespace Go.Proofs.YtjghgpmkepfdhaaGreatDoor
open Go.RowKit
set_option linter.unusedVariables false
set_option linter.unusedSimpArgs false
set_option maxRecDepth 100000
set_option maxHeartbeats 4000000
theorem names08 (b : Low) (x : Pn.Sm) (p : Int) : PCalls Tryz.prog 147 [(.ag (Pn.cS x)), (.sc (.int .i64 p))] (.sc (.bool (Pn.namesS b.nm b.rt x p))) := by
  refine pcalls_fine fun hfa => ?_
  have hR1 := hfa 0 _ rfl
  have hF2 : Fine (.ls none (List.map Pn.encX x.e.kids)) := hR1.at 18 rfl
  have hF2l := hF2.lenm
  have hF3 : Fine (.ls none (List.map Pn.encX x.args)) := hR1.at 19 rfl
  have hF3l := hF3.lenm
  have hF4 : Fine (.ls none (List.map Pn.encS x.body)) := hR1.at 20 rfl
  have hF4l := hF4.lenm
  have hF5 : Fine (.ls none (List.map Pn.encS x.els)) := hR1.at 21 rfl
  have hF5l := hF5.lenm
  refine pcalls_rf mixed Tryz.func147 rfl ?_
  refine Wp.sr [] ?_
  refine Wp.sr [] ?_
  refine Wp.sr [.c (b.hnm x.x)] ?_
  refine Wp.sr [.c (b.hnm x.y)] ?_
  refine Wp.sr [.c (b.hnm x.name)] ?_
  refine Wp.sr [.c (b.hrt x.type p)] ?_
  refine Wp.sr [] ?_
  refine Wp.ret ?_
  refine fin_r (.sc (.bool ((((((((b.nm x.x) || ((decide ((x.kind : Int) = 4)) && (decide (x.x = (⟨#[]⟩ : ByteArray))))) || (decide ((x.kind : Int) = 3))) || (decide ((x.kind : Int) = 8))) || (decide ((x.kind : Int) ≥ 9))) && ((((((b.nm x.y) || ((((decide ((x.kind : Int) = 2)) || (decide ((x.kind : Int) = 3))) || (decide ((x.kind : Int) = 4))) && (decide (x.y = (⟨#[116, 104, 105, 115]⟩ : ByteArray))))) || (decide ((x.kind : Int) = 1))) || (decide ((x.kind : Int) = 5))) || (decide ((x.kind : Int) = 6))) || (decide ((x.kind : Int) ≥ 9)))) && ((b.nm x.name) || (((!decide ((x.kind : Int) = 2)) && (!decide ((x.kind : Int) = 3))) && (!decide ((x.kind : Int) = 4))))) && (((decide ((x.type.kind : Int) = 2)) && (b.rt x.type p)) || ((!decide ((x.kind : Int) = 5)) && (!decide ((x.kind : Int) = 6))))))) ?_
  first
    | rfl
    | (unfold Pn.namesS; simp [Bool.or_assoc, Bool.and_assoc])
end Go.Proofs.YtjghgpmkepfdhaaGreatDoor
