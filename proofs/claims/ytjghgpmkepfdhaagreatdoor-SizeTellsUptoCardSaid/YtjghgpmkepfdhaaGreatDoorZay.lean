/- The program's functions, told by plain functions. Conditions: none.
The program's functions, told by plain functions. Conditions: none.
The program's functions, told by plain functions. Conditions: none.
The program's functions, told by plain functions. Conditions: none.
The program's functions, told by plain functions. Conditions: none.
The program's functions, told by plain functions. Conditions: none.
The program's functions, told by plain functions. Conditions: none.
The program's functions, told by plain functions. Conditions: none.
The program's functions, told by plain functions. Conditions: none.
The program's functions, told by plain functions. Conditions: none.
The program's functions, told by plain functions. Conditions: none.
The program's functions, told by plain functions. Conditions: none.
The program's functions, told by plain functions. Conditions: none.
The program's functions, told by plain functions. Conditions: none. -/
import Derived.Test.YtjghgpmkepfdhaaGreatDoorZae
import Derived.Test.YtjghgpmkepfdhaaGreatDoorChecked
import Derived.Test.YtjghgpmkepfdhaaGreatDoorZag
import Derived.Test.YtjghgpmkepfdhaaGreatDoorZaf
import Derived.Test.YtjghgpmkepfdhaaGreatDoorZax
import Derived.Test.YtjghgpmkepfdhaaGreatDoorZah
namespace Go.Proofs.YtjghgpmkepfdhaaGreatDoor
open Go.RowKit
set_option linter.unusedVariables false
set_option linter.unusedSimpArgs false
set_option maxRecDepth 100000
set_option maxHeartbeats 4000000

theorem rest8p (x : Pn.Sm) : PCalls Tryz.prog 165 [(.ag (Pn.cS x))] (.ag (Pn.encS (Pn.blankS x))) := by
  refine pcalls_fine fun hfa => ?_
  have hR1 := hfa 0 _ rfl
  have hF2 : Fine (.ls none (List.map Pn.encX x.e.kids)) := hR1.at 18 rfl
  have hF2l := hF2.lenm
  have hF3 : Fine (.ls none (List.map Pn.encX x.args)) := hR1.at 19 rfl
  have hF3l := hF3.lenm
  have hF4 : Fine (.ls none (List.map Pn.encS x.body)) := hR1.at 20 rfl
  have hF4l := hF4.lenm
  have hF5 : Fine (.ls none (List.map Pn.encS x.els)) := hR1.at 21 rfl
  have hF5l := hF5.lenm
  refine pcalls_rf mixed Tryz.func165 rfl ?_
  refine Wp.sr [] ?_
  refine Wp.seq ?_
  refine Wp.sr [] ?_
  refine Wp.block ?_
  refine Wp.sr [] ?_
  refine Wp.cd (decide ((x.kind : Int) = 1)) (fun h6 => ?_) (fun h6 => ?_)
  · have h6 := of_decide_eq_true h6
    refine Wp.rg [] ?_
    refine Wp.sr [] ?_
    refine Wp.ret ?_
    refine fin_r (.ag [(.sc (.int .i64 x.kind)), (.sc (.string ⟨#[]⟩)), (.sc (.string x.y)), (.sc (.string x.name)), (.sc (.int .i64 x.type.kind)), (.sc (.string x.type.cls)), (.sc (.int .i64 x.type.n)), (.sc (.int .i64 x.type.o0.kind)), (.sc (.int .i64 x.type.o0.n)), (.sc (.int .i64 x.type.o1.kind)), (.sc (.int .i64 x.type.o1.n)), (.sc (.int .i64 x.type.o2.kind)), (.sc (.int .i64 x.type.o2.n)), (.sc (.int .i64 x.type.o3.kind)), (.sc (.int .i64 x.type.o3.n)), (.sc (.int .i64 0)), (.sc (.int .i64 0)), (.sc (.string ⟨#[]⟩)), (.ls none []), (.ls none (List.map Pn.encX x.args)), (.ls none (List.map Pn.encS x.body)), (.ls none (List.map Pn.encS x.els)), (.sc (.int .i64 x.pos))]) ?_
    rw [Pn.encS_eq]
    simp [Pn.blX, Pn.blY, Pn.blN, Pn.blT, Pn.blE, Pn.noT, Pn.noX, Pn.Xp.kind, Pn.Xp.num, Pn.Xp.name, Pn.Xp.kids, Pn.bl_kind, Pn.bl_x, Pn.bl_y, Pn.bl_name, Pn.bl_type, Pn.bl_e, Pn.bl_args, Pn.bl_body, Pn.bl_els, Pn.bl_pos, h6]
    try all_goals exact ⟨rfl, rfl⟩
  · have h6 := of_decide_eq_false h6
    refine Wp.sr [] ?_
    refine Wp.cd (decide ((x.kind : Int) = 2)) (fun h7 => ?_) (fun h7 => ?_)
    · have h7 := of_decide_eq_true h7
      refine Wp.rg [] ?_
      refine Wp.sr [] ?_
      refine Wp.ret ?_
      refine fin_r (.ag [(.sc (.int .i64 x.kind)), (.sc (.string ⟨#[]⟩)), (.sc (.string ⟨#[]⟩)), (.sc (.string ⟨#[]⟩)), (.sc (.int .i64 x.type.kind)), (.sc (.string x.type.cls)), (.sc (.int .i64 x.type.n)), (.sc (.int .i64 x.type.o0.kind)), (.sc (.int .i64 x.type.o0.n)), (.sc (.int .i64 x.type.o1.kind)), (.sc (.int .i64 x.type.o1.n)), (.sc (.int .i64 x.type.o2.kind)), (.sc (.int .i64 x.type.o2.n)), (.sc (.int .i64 x.type.o3.kind)), (.sc (.int .i64 x.type.o3.n)), (.sc (.int .i64 x.e.kind)), (.sc (.int .i64 x.e.num)), (.sc (.string x.e.name)), (.ls none (List.map Pn.encX x.e.kids)), (.ls none (List.map Pn.encX x.args)), (.ls none (List.map Pn.encS x.body)), (.ls none (List.map Pn.encS x.els)), (.sc (.int .i64 x.pos))]) ?_
      rw [Pn.encS_eq]
      simp [Pn.blX, Pn.blY, Pn.blN, Pn.blT, Pn.blE, Pn.noT, Pn.noX, Pn.Xp.kind, Pn.Xp.num, Pn.Xp.name, Pn.Xp.kids, Pn.bl_kind, Pn.bl_x, Pn.bl_y, Pn.bl_name, Pn.bl_type, Pn.bl_e, Pn.bl_args, Pn.bl_body, Pn.bl_els, Pn.bl_pos, h6, h7]
      try all_goals exact ⟨rfl, rfl⟩
    · have h7 := of_decide_eq_false h7
      refine Wp.sr [] ?_
      refine Wp.cd (decide ((x.kind : Int) = 3)) (fun h8 => ?_) (fun h8 => ?_)
      · have h8 := of_decide_eq_true h8
        refine Wp.rg [] ?_
        refine Wp.sr [] ?_
        refine Wp.ret ?_
        refine fin_r (.ag [(.sc (.int .i64 x.kind)), (.sc (.string x.x)), (.sc (.string ⟨#[]⟩)), (.sc (.string ⟨#[]⟩)), (.sc (.int .i64 x.type.kind)), (.sc (.string x.type.cls)), (.sc (.int .i64 x.type.n)), (.sc (.int .i64 x.type.o0.kind)), (.sc (.int .i64 x.type.o0.n)), (.sc (.int .i64 x.type.o1.kind)), (.sc (.int .i64 x.type.o1.n)), (.sc (.int .i64 x.type.o2.kind)), (.sc (.int .i64 x.type.o2.n)), (.sc (.int .i64 x.type.o3.kind)), (.sc (.int .i64 x.type.o3.n)), (.sc (.int .i64 0)), (.sc (.int .i64 0)), (.sc (.string ⟨#[]⟩)), (.ls none []), (.ls none (List.map Pn.encX x.args)), (.ls none (List.map Pn.encS x.body)), (.ls none (List.map Pn.encS x.els)), (.sc (.int .i64 x.pos))]) ?_
        rw [Pn.encS_eq]
        simp [Pn.blX, Pn.blY, Pn.blN, Pn.blT, Pn.blE, Pn.noT, Pn.noX, Pn.Xp.kind, Pn.Xp.num, Pn.Xp.name, Pn.Xp.kids, Pn.bl_kind, Pn.bl_x, Pn.bl_y, Pn.bl_name, Pn.bl_type, Pn.bl_e, Pn.bl_args, Pn.bl_body, Pn.bl_els, Pn.bl_pos, h6, h7, h8]
        try all_goals exact ⟨rfl, rfl⟩
      · have h8 := of_decide_eq_false h8
        refine Wp.sr [] ?_
        refine Wp.cd (decide ((x.kind : Int) = 4)) (fun h9 => ?_) (fun h9 => ?_)
        · have h9 := of_decide_eq_true h9
          refine Wp.rg [] ?_
          refine Wp.sr [] ?_
          refine Wp.ret ?_
          refine fin_r (.ag [(.sc (.int .i64 x.kind)), (.sc (.string ⟨#[]⟩)), (.sc (.string ⟨#[]⟩)), (.sc (.string ⟨#[]⟩)), (.sc (.int .i64 x.type.kind)), (.sc (.string x.type.cls)), (.sc (.int .i64 x.type.n)), (.sc (.int .i64 x.type.o0.kind)), (.sc (.int .i64 x.type.o0.n)), (.sc (.int .i64 x.type.o1.kind)), (.sc (.int .i64 x.type.o1.n)), (.sc (.int .i64 x.type.o2.kind)), (.sc (.int .i64 x.type.o2.n)), (.sc (.int .i64 x.type.o3.kind)), (.sc (.int .i64 x.type.o3.n)), (.sc (.int .i64 x.e.kind)), (.sc (.int .i64 x.e.num)), (.sc (.string x.e.name)), (.ls none (List.map Pn.encX x.e.kids)), (.ls none []), (.ls none (List.map Pn.encS x.body)), (.ls none (List.map Pn.encS x.els)), (.sc (.int .i64 x.pos))]) ?_
          rw [Pn.encS_eq]
          simp [Pn.blX, Pn.blY, Pn.blN, Pn.blT, Pn.blE, Pn.noT, Pn.noX, Pn.Xp.kind, Pn.Xp.num, Pn.Xp.name, Pn.Xp.kids, Pn.bl_kind, Pn.bl_x, Pn.bl_y, Pn.bl_name, Pn.bl_type, Pn.bl_e, Pn.bl_args, Pn.bl_body, Pn.bl_els, Pn.bl_pos, h6, h7, h8, h9]
          try all_goals exact ⟨rfl, rfl⟩
        · have h9 := of_decide_eq_false h9
          refine Wp.sr [] ?_
          refine Wp.cd (decide ((x.kind : Int) = 5)) (fun h10 => ?_) (fun h10 => ?_)
          · have h10 := of_decide_eq_true h10
            refine Wp.rg [] ?_
            refine Wp.sr [] ?_
            refine Wp.ret ?_
            refine fin_r (.ag [(.sc (.int .i64 x.kind)), (.sc (.string ⟨#[]⟩)), (.sc (.string x.y)), (.sc (.string x.name)), (.sc (.int .i64 0)), (.sc (.string ⟨#[]⟩)), (.sc (.int .i64 0)), (.sc (.int .i64 0)), (.sc (.int .i64 0)), (.sc (.int .i64 0)), (.sc (.int .i64 0)), (.sc (.int .i64 0)), (.sc (.int .i64 0)), (.sc (.int .i64 0)), (.sc (.int .i64 0)), (.sc (.int .i64 x.e.kind)), (.sc (.int .i64 x.e.num)), (.sc (.string x.e.name)), (.ls none (List.map Pn.encX x.e.kids)), (.ls none (List.map Pn.encX x.args)), (.ls none (List.map Pn.encS x.body)), (.ls none (List.map Pn.encS x.els)), (.sc (.int .i64 x.pos))]) ?_
            rw [Pn.encS_eq]
            simp [Pn.blX, Pn.blY, Pn.blN, Pn.blT, Pn.blE, Pn.noT, Pn.noX, Pn.Xp.kind, Pn.Xp.num, Pn.Xp.name, Pn.Xp.kids, Pn.bl_kind, Pn.bl_x, Pn.bl_y, Pn.bl_name, Pn.bl_type, Pn.bl_e, Pn.bl_args, Pn.bl_body, Pn.bl_els, Pn.bl_pos, h6, h7, h8, h9, h10]
            try all_goals exact ⟨rfl, rfl⟩
          · have h10 := of_decide_eq_false h10
            refine Wp.sr [] ?_
            refine Wp.cd (decide ((x.kind : Int) = 6)) (fun h11 => ?_) (fun h11 => ?_)
            · have h11 := of_decide_eq_true h11
              refine Wp.rg [] ?_
              refine Wp.sr [] ?_
              refine Wp.ret ?_
              refine fin_r (.ag [(.sc (.int .i64 x.kind)), (.sc (.string ⟨#[]⟩)), (.sc (.string x.y)), (.sc (.string x.name)), (.sc (.int .i64 0)), (.sc (.string ⟨#[]⟩)), (.sc (.int .i64 0)), (.sc (.int .i64 0)), (.sc (.int .i64 0)), (.sc (.int .i64 0)), (.sc (.int .i64 0)), (.sc (.int .i64 0)), (.sc (.int .i64 0)), (.sc (.int .i64 0)), (.sc (.int .i64 0)), (.sc (.int .i64 0)), (.sc (.int .i64 0)), (.sc (.string ⟨#[]⟩)), (.ls none []), (.ls none (List.map Pn.encX x.args)), (.ls none (List.map Pn.encS x.body)), (.ls none (List.map Pn.encS x.els)), (.sc (.int .i64 x.pos))]) ?_
              rw [Pn.encS_eq]
              simp [Pn.blX, Pn.blY, Pn.blN, Pn.blT, Pn.blE, Pn.noT, Pn.noX, Pn.Xp.kind, Pn.Xp.num, Pn.Xp.name, Pn.Xp.kids, Pn.bl_kind, Pn.bl_x, Pn.bl_y, Pn.bl_name, Pn.bl_type, Pn.bl_e, Pn.bl_args, Pn.bl_body, Pn.bl_els, Pn.bl_pos, h6, h7, h8, h9, h10, h11]
              try all_goals exact ⟨rfl, rfl⟩
            · have h11 := of_decide_eq_false h11
              refine Wp.sr [] ?_
              refine Wp.cd (decide ((x.kind : Int) = 7)) (fun h12 => ?_) (fun h12 => ?_)
              · have h12 := of_decide_eq_true h12
                refine Wp.rg [] ?_
                refine Wp.sr [] ?_
                refine Wp.ret ?_
                refine fin_r (.ag [(.sc (.int .i64 x.kind)), (.sc (.string ⟨#[]⟩)), (.sc (.string ⟨#[]⟩)), (.sc (.string x.name)), (.sc (.int .i64 x.type.kind)), (.sc (.string x.type.cls)), (.sc (.int .i64 x.type.n)), (.sc (.int .i64 x.type.o0.kind)), (.sc (.int .i64 x.type.o0.n)), (.sc (.int .i64 x.type.o1.kind)), (.sc (.int .i64 x.type.o1.n)), (.sc (.int .i64 x.type.o2.kind)), (.sc (.int .i64 x.type.o2.n)), (.sc (.int .i64 x.type.o3.kind)), (.sc (.int .i64 x.type.o3.n)), (.sc (.int .i64 x.e.kind)), (.sc (.int .i64 x.e.num)), (.sc (.string x.e.name)), (.ls none (List.map Pn.encX x.e.kids)), (.ls none (List.map Pn.encX x.args)), (.ls none (List.map Pn.encS x.body)), (.ls none (List.map Pn.encS x.els)), (.sc (.int .i64 x.pos))]) ?_
                rw [Pn.encS_eq]
                simp [Pn.blX, Pn.blY, Pn.blN, Pn.blT, Pn.blE, Pn.noT, Pn.noX, Pn.Xp.kind, Pn.Xp.num, Pn.Xp.name, Pn.Xp.kids, Pn.bl_kind, Pn.bl_x, Pn.bl_y, Pn.bl_name, Pn.bl_type, Pn.bl_e, Pn.bl_args, Pn.bl_body, Pn.bl_els, Pn.bl_pos, h6, h7, h8, h9, h10, h11, h12]
                try all_goals exact ⟨rfl, rfl⟩
              · have h12 := of_decide_eq_false h12
                refine Wp.sr [] ?_
                refine Wp.cd (decide ((x.kind : Int) = 8)) (fun h13 => ?_) (fun h13 => ?_)
                · have h13 := of_decide_eq_true h13
                  refine Wp.rg [] ?_
                  refine Wp.sr [] ?_
                  refine Wp.ret ?_
                  refine fin_r (.ag [(.sc (.int .i64 x.kind)), (.sc (.string x.x)), (.sc (.string ⟨#[]⟩)), (.sc (.string x.name)), (.sc (.int .i64 x.type.kind)), (.sc (.string x.type.cls)), (.sc (.int .i64 x.type.n)), (.sc (.int .i64 x.type.o0.kind)), (.sc (.int .i64 x.type.o0.n)), (.sc (.int .i64 x.type.o1.kind)), (.sc (.int .i64 x.type.o1.n)), (.sc (.int .i64 x.type.o2.kind)), (.sc (.int .i64 x.type.o2.n)), (.sc (.int .i64 x.type.o3.kind)), (.sc (.int .i64 x.type.o3.n)), (.sc (.int .i64 x.e.kind)), (.sc (.int .i64 x.e.num)), (.sc (.string x.e.name)), (.ls none (List.map Pn.encX x.e.kids)), (.ls none (List.map Pn.encX x.args)), (.ls none (List.map Pn.encS x.body)), (.ls none (List.map Pn.encS x.els)), (.sc (.int .i64 x.pos))]) ?_
                  rw [Pn.encS_eq]
                  simp [Pn.blX, Pn.blY, Pn.blN, Pn.blT, Pn.blE, Pn.noT, Pn.noX, Pn.Xp.kind, Pn.Xp.num, Pn.Xp.name, Pn.Xp.kids, Pn.bl_kind, Pn.bl_x, Pn.bl_y, Pn.bl_name, Pn.bl_type, Pn.bl_e, Pn.bl_args, Pn.bl_body, Pn.bl_els, Pn.bl_pos, h6, h7, h8, h9, h10, h11, h12, h13]
                  try all_goals exact ⟨rfl, rfl⟩
                · have h13 := of_decide_eq_false h13
                  refine Wp.sr [] ?_
                  refine Wp.cd (decide ((x.kind : Int) = 9)) (fun h14 => ?_) (fun h14 => ?_)
                  · have h14 := of_decide_eq_true h14
                    refine Wp.rg [] ?_
                    refine Wp.sr [] ?_
                    refine Wp.ret ?_
                    refine fin_r (.ag [(.sc (.int .i64 x.kind)), (.sc (.string x.x)), (.sc (.string x.y)), (.sc (.string x.name)), (.sc (.int .i64 x.type.kind)), (.sc (.string x.type.cls)), (.sc (.int .i64 x.type.n)), (.sc (.int .i64 x.type.o0.kind)), (.sc (.int .i64 x.type.o0.n)), (.sc (.int .i64 x.type.o1.kind)), (.sc (.int .i64 x.type.o1.n)), (.sc (.int .i64 x.type.o2.kind)), (.sc (.int .i64 x.type.o2.n)), (.sc (.int .i64 x.type.o3.kind)), (.sc (.int .i64 x.type.o3.n)), (.sc (.int .i64 0)), (.sc (.int .i64 0)), (.sc (.string ⟨#[]⟩)), (.ls none []), (.ls none (List.map Pn.encX x.args)), (.ls none []), (.ls none []), (.sc (.int .i64 x.pos))]) ?_
                    rw [Pn.encS_eq]
                    simp [Pn.blX, Pn.blY, Pn.blN, Pn.blT, Pn.blE, Pn.noT, Pn.noX, Pn.Xp.kind, Pn.Xp.num, Pn.Xp.name, Pn.Xp.kids, Pn.bl_kind, Pn.bl_x, Pn.bl_y, Pn.bl_name, Pn.bl_type, Pn.bl_e, Pn.bl_args, Pn.bl_body, Pn.bl_els, Pn.bl_pos, h6, h7, h8, h9, h10, h11, h12, h13, h14]
                    try all_goals exact ⟨rfl, rfl⟩
                  · have h14 := of_decide_eq_false h14
                    refine Wp.sr [] ?_
                    refine Wp.cd (decide ((x.kind : Int) = 10)) (fun h15 => ?_) (fun h15 => ?_)
                    · have h15 := of_decide_eq_true h15
                      refine Wp.rg [] ?_
                      refine Wp.sr [] ?_
                      refine Wp.ret ?_
                      refine fin_r (.ag [(.sc (.int .i64 x.kind)), (.sc (.string x.x)), (.sc (.string x.y)), (.sc (.string x.name)), (.sc (.int .i64 x.type.kind)), (.sc (.string x.type.cls)), (.sc (.int .i64 x.type.n)), (.sc (.int .i64 x.type.o0.kind)), (.sc (.int .i64 x.type.o0.n)), (.sc (.int .i64 x.type.o1.kind)), (.sc (.int .i64 x.type.o1.n)), (.sc (.int .i64 x.type.o2.kind)), (.sc (.int .i64 x.type.o2.n)), (.sc (.int .i64 x.type.o3.kind)), (.sc (.int .i64 x.type.o3.n)), (.sc (.int .i64 0)), (.sc (.int .i64 0)), (.sc (.string ⟨#[]⟩)), (.ls none []), (.ls none (List.map Pn.encX x.args)), (.ls none []), (.ls none (List.map Pn.encS x.els)), (.sc (.int .i64 x.pos))]) ?_
                      rw [Pn.encS_eq]
                      simp [Pn.blX, Pn.blY, Pn.blN, Pn.blT, Pn.blE, Pn.noT, Pn.noX, Pn.Xp.kind, Pn.Xp.num, Pn.Xp.name, Pn.Xp.kids, Pn.bl_kind, Pn.bl_x, Pn.bl_y, Pn.bl_name, Pn.bl_type, Pn.bl_e, Pn.bl_args, Pn.bl_body, Pn.bl_els, Pn.bl_pos, h6, h7, h8, h9, h10, h11, h12, h13, h14, h15]
                      try all_goals exact ⟨rfl, rfl⟩
                    · have h15 := of_decide_eq_false h15
                      refine Wp.sr [] ?_
                      refine Wp.cd (decide ((x.kind : Int) = 11)) (fun h16 => ?_) (fun h16 => ?_)
                      · have h16 := of_decide_eq_true h16
                        refine Wp.rg [] ?_
                        refine Wp.sr [] ?_
                        refine Wp.ret ?_
                        refine fin_r (.ag [(.sc (.int .i64 x.kind)), (.sc (.string x.x)), (.sc (.string x.y)), (.sc (.string x.name)), (.sc (.int .i64 x.type.kind)), (.sc (.string x.type.cls)), (.sc (.int .i64 x.type.n)), (.sc (.int .i64 x.type.o0.kind)), (.sc (.int .i64 x.type.o0.n)), (.sc (.int .i64 x.type.o1.kind)), (.sc (.int .i64 x.type.o1.n)), (.sc (.int .i64 x.type.o2.kind)), (.sc (.int .i64 x.type.o2.n)), (.sc (.int .i64 x.type.o3.kind)), (.sc (.int .i64 x.type.o3.n)), (.sc (.int .i64 0)), (.sc (.int .i64 0)), (.sc (.string ⟨#[]⟩)), (.ls none []), (.ls none (List.map Pn.encX x.args)), (.ls none (List.map Pn.encS x.body)), (.ls none (List.map Pn.encS x.els)), (.sc (.int .i64 x.pos))]) ?_
                        rw [Pn.encS_eq]
                        simp [Pn.blX, Pn.blY, Pn.blN, Pn.blT, Pn.blE, Pn.noT, Pn.noX, Pn.Xp.kind, Pn.Xp.num, Pn.Xp.name, Pn.Xp.kids, Pn.bl_kind, Pn.bl_x, Pn.bl_y, Pn.bl_name, Pn.bl_type, Pn.bl_e, Pn.bl_args, Pn.bl_body, Pn.bl_els, Pn.bl_pos, h6, h7, h8, h9, h10, h11, h12, h13, h14, h15, h16]
                        try all_goals exact ⟨rfl, rfl⟩
                      · have h16 := of_decide_eq_false h16
                        refine Wp.skip ?_
                        refine Wp.sr [] ?_
                        refine Wp.ret ?_
                        refine fin_r (.ag (Pn.cS x)) ?_
                        rw [Pn.encS_eq]
                        simp [Pn.blX, Pn.blY, Pn.blN, Pn.blT, Pn.blE, Pn.noT, Pn.noX, Pn.Xp.kind, Pn.Xp.num, Pn.Xp.name, Pn.Xp.kids, Pn.bl_kind, Pn.bl_x, Pn.bl_y, Pn.bl_name, Pn.bl_type, Pn.bl_e, Pn.bl_args, Pn.bl_body, Pn.bl_els, Pn.bl_pos, h6, h7, h8, h9, h10, h11, h12, h13, h14, h15, h16]
                        try all_goals exact ⟨rfl, rfl⟩
end Go.Proofs.YtjghgpmkepfdhaaGreatDoor
namespace Go.Proofs.YtjghgpmkepfdhaaGreatDoor
open Go.RowKit
set_option linter.unusedVariables false
set_option linter.unusedSimpArgs false
set_option maxRecDepth 100000
set_option maxHeartbeats 4000000
theorem PtXPab.en169 : ∀ vs w, (callFunc 169 vs).run Tryz.prog w = .ok (.enter 169 vs) w := fun vs w => run_enter Tryz.func169 (by kernel_rfl) rfl vs w
set_option maxRecDepth 100000 in
set_option maxHeartbeats 4000000 in
theorem kidsY (Y : Ys) (x : Pn.Xp) (hit : Y.items = Pn.kidI x.kids) : YCalls Tryz.prog 169 [(.fn (.yield Y.l) [] []), (.pr (Pn.cX x))] Y (0) (.tp []) (ran Y.ans 0 x.kids.length).1 := by
  refine ycalls_fine fun hfa => ?_
  have hR1 := hfa 1 _ rfl
  have hF2 : Fine (.ls none (List.map Pn.encX x.kids)) := hR1.atp 3 rfl
  have hF2l := hF2.lenm
  refine ycalls_wp mixed Tryz.func169 rfl ⟨mk 19 [(0, (.fn (.yield Y.l) [] [])), (1, (.pr (Pn.cX x)))], [], ⟨0, some Y⟩⟩ (by rw [Tryz.ntmps169]; kernel_rfl) ?_
  refine Wp.sr [.n (lenm Pn.encX x.kids)] ?_
  refine Wp.block ?_
  refine Wp.lp (α := (Nat)) (fun | j => ⟨mk 19 [(0, (.fn (.yield Y.l) [] [])), (1, (.pr (Pn.cX x))), (6, (.ls none (List.map Pn.encX x.kids))), (7, (.sc (.int .i64 ((x.kids.length : Nat) : Int)))), (8, (.sc (.int .i64 ((j : Nat) : Int))))], [], ⟨0 + j, some Y⟩⟩) (fun | j => j ≤ x.kids.length ∧ ran Y.ans 0 j = (0 + j, true)) (fun | j => x.kids.length - j) 0 ?_ ?_
  · exact ⟨Nat.zero_le _, rfl⟩
  rintro j hv3
  obtain ⟨hlj, htj⟩ := hv3
  refine Wp.sr [] ?_
  refine Wp.seq ?_
  refine Wp.cd (decide ((((j : Nat) : Int) : Int) < ((x.kids.length : Nat) : Int))) (fun h4 => ?_) (fun h4 => ?_)
  · have h4 := of_decide_eq_true h4
    refine Wp.skip ?_
    refine Wp.seq ?_
    refine Wp.block ?_
    obtain ⟨x7, hx6⟩ : ∃ z0, (x.kids)[j]? = some z0 := ⟨_, List.getElem?_eq_getElem (by omega)⟩
    have hR9 : Fine (.ag (Pn.cX x7)) := hF2.row hx6 (Pn.encX_eq x7)
    have hF10 : Fine (.ls none (List.map Pn.encX x7.kids)) := hR9.at 3 rfl
    have hF10l := hF10.lenm
    refine Wp.sr [.i (Pn.map_to hx6 (Pn.encX_eq x7))] ?_
    refine Wp.srY [3] [.yy (Y := Y) (h := 0 + j) (row := [(.sc (.int .i64 ((j : Nat) : Int))), (.ag [(.sc (.int .i64 x7.kind)), (.sc (.int .i64 x7.num)), (.sc (.string x7.name)), (.ls none (List.map Pn.encX x7.kids))])]) (ran_live (.inl rfl) htj) (by rw [hit, Nat.zero_add]; exact Pn.kidI_at hx6)] ?_
    refine Wp.cd (!(Y.ans (0 + j))) (fun h11 => ?_) (fun h11 => ?_)
    · have h11 : ¬ ((Y.ans (0 + j)) = true) := by simpa using h11
      refine Wp.ret ?_
      refine ⟨rfl, ?_⟩
      refine ⟨rfl, ?_⟩
      refine ⟨.inl rfl, ?_, ?_⟩
      · exact res_none rfl
      · have hh : (ran Y.ans 0 x.kids.length).1 = (0 + j + 1) := by
          rw [ran_stop htj (by simpa using h11) (by omega)]
        exact y_end hh (by kernel_rfl)
    · have h11 : ((Y.ans (0 + j)) = true) := by simpa using h11
      refine Wp.skip ?_
      refine Wp.rg [.z (int_add (x := ((j : Nat) : Int)) (y := 1) (z := (((j + 1) : Nat) : Int)) (by omega) (by omega) (by omega))] ?_
      refine ⟨(j + 1), .rf, ?_, ?_⟩
      · exact ⟨Pn.len_lt hx6, ran_next htj h11⟩
      · simp only; omega
  · have h4 := of_decide_eq_false h4
    refine Wp.exit ?_
    refine ⟨rfl, ?_⟩
    refine ⟨rfl, ?_⟩
    refine ⟨.inr rfl, ?_, ?_⟩
    · exact res_none rfl
    · have hh : (ran Y.ans 0 x.kids.length).1 = 0 + j := by
        have e : x.kids.length = j := by omega
        rw [e, htj]
      exact y_end hh (by kernel_rfl)

theorem kids6p (x : Pn.Xp) : PCalls Tryz.prog 149 [(.ag (Pn.cX x))] (.fn (.func 169) [] [(.pr (Pn.cX x))]) := by
  refine pcalls_fine fun hfa => ?_
  have hR1 := hfa 0 _ rfl
  have hF2 : Fine (.ls none (List.map Pn.encX x.kids)) := hR1.at 3 rfl
  have hF2l := hF2.lenm
  refine pcalls_rf mixed Tryz.func149 rfl ?_
  refine Wp.sr [] ?_
  refine Wp.sr [] ?_
  refine Wp.ret ?_
  refine fin_r (.fn (.func 169) [] [(.pr (Pn.cX x))]) ?_
  rfl

theorem sameX6_step (a b : Pn.Xp) (IH : ∀ x ∈ a.kids, ∀ y : Pn.Xp, PCalls Tryz.prog 129 [(.ag (Pn.cX x)), (.ag (Pn.cX y))] (.sc (.bool (Pn.sameX x y)))) : PCalls Tryz.prog 129 [(.ag (Pn.cX a)), (.ag (Pn.cX b))] (.sc (.bool (Pn.sameX a b))) := by
  refine pcalls_fine fun hfa => ?_
  have hR1 := hfa 0 _ rfl
  have hF2 : Fine (.ls none (List.map Pn.encX a.kids)) := hR1.at 3 rfl
  have hF2l := hF2.lenm
  have hR3 := hfa 1 _ rfl
  have hF4 : Fine (.ls none (List.map Pn.encX b.kids)) := hR3.at 3 rfl
  have hF4l := hF4.lenm
  refine pcalls_rf mixed Tryz.func129 rfl ?_
  refine Wp.sr [] ?_
  refine Wp.seq ?_
  by_cases h5 : (a.kind : Int) = b.kind
  · skip
    by_cases h6 : (a.num : Int) = b.num
    · skip
      by_cases h7 : a.name = (b.name : ByteArray)
      · skip
        refine Wp.sr [.g (show (!decide ((a.kind : Int) = b.kind)) = false from (by simp [h5])), .g (show (!decide ((a.num : Int) = b.num)) = false from (by simp [h6])), .g (show (!decide (a.name = (b.name : ByteArray))) = false from (by simp [h7])), .n (lenm Pn.encX a.kids), .n (lenm Pn.encX b.kids)] ?_
        refine Wp.cd (!decide ((((a.kids.length : Nat) : Int) : Int) = ((b.kids.length : Nat) : Int))) (fun h8 => ?_) (fun h8 => ?_)
        · have h8 : ¬ ((((a.kids.length : Nat) : Int) : Int) = ((b.kids.length : Nat) : Int)) := by simpa using h8
          refine Wp.sr [] ?_
          refine Wp.ret ?_
          refine ⟨rfl, ?_⟩
          refine fin_r (.sc (.bool false)) ?_
          rw [Pn.sameX_eq]
          first
            | (simp [h5, h6, h7, h8]; done)
            | (rw [Pn.all2_len (l := a.kids) (r := b.kids) (by omega)]; simp; done)
        · have h8 : ((((a.kids.length : Nat) : Int) : Int) = ((b.kids.length : Nat) : Int)) := by simpa using h8
          refine Wp.skip ?_
          refine Wp.seq ?_
          refine Wp.sr [.c (kids6p a)] ?_
          refine Wp.block ?_
          refine Wp.range (st' := ⟨(mk 47 [(0, (.ag (Pn.cX a))), (1, (.ag (Pn.cX b))), (2, (.pt 10002 0)), (3, (.pt 10003 0)), (4, (.pt 10004 0)), (34, (.sc (.bool (!decide ((((a.kids.length : Nat) : Int) : Int) = ((b.kids.length : Nat) : Int)))))), (36, (.fn (.func 169) [] [(.pr (Pn.cX a))]))]), [(10002, [(.sc (.int .i64 a.kind)), (.sc (.int .i64 a.num)), (.sc (.string a.name)), (.ls none (List.map Pn.encX a.kids))]), (10003, [(.sc (.int .i64 b.kind)), (.sc (.int .i64 b.num)), (.sc (.string b.name)), (.ls none (List.map Pn.encX b.kids))]), (10004, [(.sc (.bool false))])], y0⟩) mixed PtXPab.en169 (fs := []) (caps := [(.pr (Pn.cX a))]) (by kernel_rfl) (by kernel_rfl) (Pn.ans2 Pn.sameX a.kids b.kids) (Pn.kidI a.kids) (fun _ => none) (fun q9 => [(10002, [(.sc (.int .i64 a.kind)), (.sc (.int .i64 a.num)), (.sc (.string a.name)), (.ls none (List.map Pn.encX a.kids))]), (10003, [(.sc (.int .i64 b.kind)), (.sc (.int .i64 b.num)), (.sc (.string b.name)), (.ls none (List.map Pn.encX b.kids))]), (10004, [(.sc (.bool false))])]) (mk 47 [(0, (.ag (Pn.cX a))), (1, (.ag (Pn.cX b))), (2, (.pt 10002 0)), (3, (.pt 10003 0)), (4, (.pt 10004 0)), (34, (.sc (.bool (!decide ((((a.kids.length : Nat) : Int) : Int) = ((b.kids.length : Nat) : Int)))))), (36, (.fn (.func 169) [] [(.pr (Pn.cX a))]))]) (le_of [0, 1, 2, 3, 4, 34, 36] [10002, 10003, 10004] (by kernel_rfl)) (noq_all (by kernel_rfl)) (fun q9 t row h => vget_ge (by kernel_rfl) h) (fun row h => Pn.kidI_len h) (.tp []) (ran (Pn.ans2 Pn.sameX a.kids b.kids) 0 a.kids.length).1 (fun l => kidsY ⟨l, (Pn.ans2 Pn.sameX a.kids b.kids), (Pn.kidI a.kids)⟩ a rfl) ?_ (by kernel_rfl) ?_
          · intro q10 row11 hr12 hl13
            obtain ⟨x14, hx15, rfl⟩ := Pn.kidI_out hr12
            have hq := Pn.len_lt hx15
            refine Wp.weak (st' := ⟨mk 47 [(0, (.ag (Pn.cX a))), (1, (.ag (Pn.cX b))), (2, (.pt 10002 0)), (3, (.pt 10003 0)), (4, (.pt 10004 0)), (34, (.sc (.bool (!decide ((((a.kids.length : Nat) : Int) : Int) = ((b.kids.length : Nat) : Int)))))), (36, (.fn (.func 169) [] [(.pr (Pn.cX a))])), (37, (.sc (.int .i64 ((q10 : Nat) : Int)))), (38, (.ag (Pn.cX x14)))], [(10002, (Pn.cX a)), (10003, (Pn.cX b)), (10004, [(.sc (.bool false))])], y0⟩) [0, 1, 2, 3, 4, 34, 36, 37, 38] [10002, 10003, 10004] (by kernel_rfl) ?_
            refine Wp.sr [] ?_
            refine Wp.rg [] ?_
            refine ⟨rfl, ?_⟩
            refine Wp.block ?_
            obtain ⟨x18, hx17⟩ : ∃ z0, (b.kids)[q10]? = some z0 := ⟨_, List.getElem?_eq_getElem (by omega)⟩
            have hR20 : Fine (.ag (Pn.cX x18)) := hF4.row hx17 (Pn.encX_eq x18)
            have hF21 : Fine (.ls none (List.map Pn.encX x18.kids)) := hR20.at 3 rfl
            have hF21l := hF21.lenm
            refine Wp.sr [.i (Pn.map_to hx17 (Pn.encX_eq x18)), .c (IH x14 (List.mem_of_getElem? hx15) x18)] ?_
            refine Wp.cd (!(Pn.sameX x14 x18)) (fun h22 => ?_) (fun h22 => ?_)
            · have h22 : ¬ ((Pn.sameX x14 x18) = true) := by simpa using h22
              refine Wp.sr [] ?_
              refine Wp.ret ?_
              refine ⟨?_, ?_⟩
              · exact vsub [10002, 10003, 10004] (by kernel_rfl)
              · exact .inr ⟨rfl, by rw [Pn.ans2_at hx15 hx17]; simpa using h22⟩
            · have h22 : ((Pn.sameX x14 x18) = true) := by simpa using h22
              refine Wp.skip ?_
              refine ⟨?_, ?_⟩
              · exact vsub [10002, 10003, 10004] (by kernel_rfl)
              · exact .inl ⟨rfl, by rw [Pn.ans2_at hx15 hx17]; simpa using h22⟩
          · by_cases hL23 : liveB (Pn.ans2 Pn.sameX a.kids b.kids) ((ran (Pn.ans2 Pn.sameX a.kids b.kids) 0 a.kids.length).1) = true
            · rw [if_pos hL23]
              refine Wp.sr [] ?_
              refine Wp.ret ?_
              refine fin_r (.sc (.bool true)) ?_
              rw [Pn.sameX_eq]
              rw [Pn.live_ran, Pn.ran_all, Pn.range_all2 a.kids b.kids (by omega)] at hL23
              simp [h5, h6, h7, h8, hL23]
            · rw [if_neg hL23]
              refine ⟨rfl, ?_⟩
              refine fin_r (.sc (.bool false)) ?_
              rw [Pn.sameX_eq]
              rw [Pn.live_ran, Pn.ran_all, Pn.range_all2 a.kids b.kids (by omega)] at hL23
              simp [h5, h6, h7, h8, hL23]
      · skip
        refine Wp.sr [.g (show (!decide ((a.kind : Int) = b.kind)) = false from (by simp [h5])), .g (show (!decide ((a.num : Int) = b.num)) = false from (by simp [h6])), .g (show (!decide (a.name = (b.name : ByteArray))) = true from (by simp [h7]))] ?_
        refine Wp.ct (B := true) rfl ?_
        refine Wp.sr [] ?_
        refine Wp.ret ?_
        refine ⟨rfl, ?_⟩
        refine fin_r (.sc (.bool false)) ?_
        rw [Pn.sameX_eq]
        first
          | (simp [h5, h6, h7]; done)
          | (rw [Pn.all2_len (l := a.kids) (r := b.kids) (by omega)]; simp; done)
    · skip
      refine Wp.sr [.g (show (!decide ((a.kind : Int) = b.kind)) = false from (by simp [h5])), .g (show (!decide ((a.num : Int) = b.num)) = true from (by simp [h6])), .g gT] ?_
      refine Wp.ct (B := true) rfl ?_
      refine Wp.sr [] ?_
      refine Wp.ret ?_
      refine ⟨rfl, ?_⟩
      refine fin_r (.sc (.bool false)) ?_
      rw [Pn.sameX_eq]
      first
        | (simp [h5, h6]; done)
        | (rw [Pn.all2_len (l := a.kids) (r := b.kids) (by omega)]; simp; done)
  · skip
    refine Wp.sr [.g (show (!decide ((a.kind : Int) = b.kind)) = true from (by simp [h5])), .g gT, .g gT] ?_
    refine Wp.ct (B := true) rfl ?_
    refine Wp.sr [] ?_
    refine Wp.ret ?_
    refine ⟨rfl, ?_⟩
    refine fin_r (.sc (.bool false)) ?_
    rw [Pn.sameX_eq]
    first
      | (simp [h5]; done)
      | (rw [Pn.all2_len (l := a.kids) (r := b.kids) (by omega)]; simp; done)

theorem sameX6p (a b : Pn.Xp) : PCalls Tryz.prog 129 [(.ag (Pn.cX a)), (.ag (Pn.cX b))] (.sc (.bool (Pn.sameX a b))) := by
  have key : ∀ n (a b : Pn.Xp), Pn.cntX a ≤ n → PCalls Tryz.prog 129 [(.ag (Pn.cX a)), (.ag (Pn.cX b))] (.sc (.bool (Pn.sameX a b))) := by
    intro n
    induction n with
    | zero => intro a b h; rw [Pn.cntX_eq] at h; omega
    | succ n ih =>
      intro a b h
      refine sameX6_step a b fun x hx y => ih x y ?_
      have h1 := Pn.cntX_kid hx
      rw [Pn.cntX_eq] at h
      omega
  exact key _ a b (Nat.le_refl _)
end Go.Proofs.YtjghgpmkepfdhaaGreatDoor
namespace Go.Proofs.YtjghgpmkepfdhaaGreatDoor
open Go.RowKit
set_option linter.unusedVariables false
set_option linter.unusedSimpArgs false
set_option maxRecDepth 100000
set_option maxHeartbeats 4000000
theorem none8p (x : Pn.Xp) : PCalls Tryz.prog 179 [(.ag (Pn.cX x))] (.sc (.bool (Pn.noneB x))) := by
  refine pcalls_fine fun hfa => ?_
  have hR1 := hfa 0 _ rfl
  have hF2 : Fine (.ls none (List.map Pn.encX x.kids)) := hR1.at 3 rfl
  have hF2l := hF2.lenm
  refine pcalls_rf mixed Tryz.func179 rfl ?_
  refine Wp.sr [] ?_
  refine Wp.sr [.c (sameX6p x (Pn.Xp.mk 0 0 ⟨#[]⟩ []))] ?_
  refine Wp.ret ?_
  refine fin_r (.sc (.bool (Pn.sameX x (Pn.Xp.mk 0 0 ⟨#[]⟩ [])))) ?_
  rfl

theorem nothing8p (x : Pn.Sm) : PCalls Tryz.prog 164 [(.ag (Pn.cS x))] (.sc (.bool (Pn.nothB x))) := by
  refine pcalls_fine fun hfa => ?_
  have hR1 := hfa 0 _ rfl
  have hF2 : Fine (.ls none (List.map Pn.encX x.e.kids)) := hR1.at 18 rfl
  have hF2l := hF2.lenm
  have hF3 : Fine (.ls none (List.map Pn.encX x.args)) := hR1.at 19 rfl
  have hF3l := hF3.lenm
  have hF4 : Fine (.ls none (List.map Pn.encS x.body)) := hR1.at 20 rfl
  have hF4l := hF4.lenm
  have hF5 : Fine (.ls none (List.map Pn.encS x.els)) := hR1.at 21 rfl
  have hF5l := hF5.lenm
  refine pcalls_rf mixed Tryz.func164 rfl ?_
  refine Wp.sr [] ?_
  refine Wp.sr [.e (eqTy x.type (⟨0, ⟨#[]⟩, 0, ⟨0, 0⟩, ⟨0, 0⟩, ⟨0, 0⟩, ⟨0, 0⟩⟩ : Pn.Ty)), .c (none8p x.e), .n (lenm Pn.encX x.args), .n (lenm Pn.encS x.body), .n (lenm Pn.encS x.els)] ?_
  refine Wp.ret ?_
  refine fin_r (.sc (.bool ((((((((decide (x.x = (⟨#[]⟩ : ByteArray))) && (decide (x.y = (⟨#[]⟩ : ByteArray)))) && (decide (x.name = (⟨#[]⟩ : ByteArray)))) && (false ^^ (decide (x.type = (⟨0, ⟨#[]⟩, 0, ⟨0, 0⟩, ⟨0, 0⟩, ⟨0, 0⟩, ⟨0, 0⟩⟩ : Pn.Ty))))) && (Pn.noneB x.e)) && (decide ((((x.args.length : Nat) : Int) : Int) = 0))) && (decide ((((x.body.length : Nat) : Int) : Int) = 0))) && (decide ((((x.els.length : Nat) : Int) : Int) = 0))))) ?_
  unfold Pn.nothB
  first
    | rfl
    | (simp only [Bool.false_xor]; done)
    | (congr 2; rw [Bool.eq_iff_iff]; simp only [Bool.and_eq_true, decide_eq_true_eq, Bool.false_xor, and_assoc]; exact Iff.rfl)
end Go.Proofs.YtjghgpmkepfdhaaGreatDoor
namespace Go.Proofs.YtjghgpmkepfdhaaGreatDoor
open Go.RowKit
set_option linter.unusedVariables false
set_option linter.unusedSimpArgs false
set_option maxRecDepth 100000
set_option maxHeartbeats 4000000
theorem kidsOf6 (k : Int) : PCalls Tryz.prog 192 [(.sc (.int .i64 k))] (.tp [(.sc (.int .i64 (Pn.kidsN k))), (.sc (.bool (Pn.isK k)))]) := by
  refine pcalls_rf mixed Tryz.func192 rfl ?_
  refine Wp.sr [] ?_
  refine Wp.seq ?_
  refine Wp.sr [] ?_
  refine Wp.block ?_
  refine Wp.seq ?_
  refine Wp.sr [] ?_
  refine Wp.cd (decide ((k : Int) = 1)) (fun h1 => ?_) (fun h1 => ?_)
  · have h1 := of_decide_eq_true h1
    refine Wp.skip ?_
    refine Wp.ct (B := (decide ((k : Int) = 1))) (by simp [h1]) ?_
    refine Wp.sr [] ?_
    refine Wp.ret ?_
    refine ⟨rfl, ?_⟩
    refine fin_r (.tp [(.sc (.int .i64 0)), (.sc (.bool true))]) ?_
    rw [show Pn.kidsN k = 0 by (unfold Pn.kidsN; split <;> (try split) <;> omega), show Pn.isK k = true by (unfold Pn.isK; simp; omega)]
  · have h1 := of_decide_eq_false h1
    refine Wp.sr [] ?_
    refine Wp.cd (decide ((k : Int) = 2)) (fun h2 => ?_) (fun h2 => ?_)
    · have h2 := of_decide_eq_true h2
      refine Wp.skip ?_
      refine Wp.ct (B := (decide ((k : Int) = 2))) (by simp [h2]) ?_
      refine Wp.sr [] ?_
      refine Wp.ret ?_
      refine ⟨rfl, ?_⟩
      refine fin_r (.tp [(.sc (.int .i64 0)), (.sc (.bool true))]) ?_
      rw [show Pn.kidsN k = 0 by (unfold Pn.kidsN; split <;> (try split) <;> omega), show Pn.isK k = true by (unfold Pn.isK; simp; omega)]
    · have h2 := of_decide_eq_false h2
      refine Wp.sr [] ?_
      refine Wp.cd (decide ((k : Int) = 3)) (fun h3 => ?_) (fun h3 => ?_)
      · have h3 := of_decide_eq_true h3
        refine Wp.skip ?_
        refine Wp.ct (B := (decide ((k : Int) = 3))) (by simp [h3]) ?_
        refine Wp.sr [] ?_
        refine Wp.ret ?_
        refine ⟨rfl, ?_⟩
        refine fin_r (.tp [(.sc (.int .i64 0)), (.sc (.bool true))]) ?_
        rw [show Pn.kidsN k = 0 by (unfold Pn.kidsN; split <;> (try split) <;> omega), show Pn.isK k = true by (unfold Pn.isK; simp; omega)]
      · have h3 := of_decide_eq_false h3
        refine Wp.sr [] ?_
        refine Wp.cd (decide ((k : Int) = 4)) (fun h4 => ?_) (fun h4 => ?_)
        · have h4 := of_decide_eq_true h4
          refine Wp.skip ?_
          refine Wp.ct (B := (decide ((k : Int) = 4))) (by simp [h4]) ?_
          refine Wp.sr [] ?_
          refine Wp.ret ?_
          refine ⟨rfl, ?_⟩
          refine fin_r (.tp [(.sc (.int .i64 0)), (.sc (.bool true))]) ?_
          rw [show Pn.kidsN k = 0 by (unfold Pn.kidsN; split <;> (try split) <;> omega), show Pn.isK k = true by (unfold Pn.isK; simp; omega)]
        · have h4 := of_decide_eq_false h4
          refine Wp.rg [] ?_
          refine Wp.cd (decide ((k : Int) = 5)) (fun h5 => ?_) (fun h5 => ?_)
          · have h5 := of_decide_eq_true h5
            refine Wp.sr [] ?_
            refine Wp.ret ?_
            refine ⟨rfl, ?_⟩
            refine fin_r (.tp [(.sc (.int .i64 0)), (.sc (.bool true))]) ?_
            rw [show Pn.kidsN k = 0 by (unfold Pn.kidsN; split <;> (try split) <;> omega), show Pn.isK k = true by (unfold Pn.isK; simp; omega)]
          · have h5 := of_decide_eq_false h5
            refine Wp.seq ?_
            refine Wp.sr [] ?_
            refine Wp.cd (decide ((k : Int) = 12)) (fun h6 => ?_) (fun h6 => ?_)
            · have h6 := of_decide_eq_true h6
              refine Wp.skip ?_
              refine Wp.ct (B := (decide ((k : Int) = 12))) (by simp [h6]) ?_
              refine Wp.sr [] ?_
              refine Wp.ret ?_
              refine ⟨rfl, ?_⟩
              refine fin_r (.tp [(.sc (.int .i64 1)), (.sc (.bool true))]) ?_
              rw [show Pn.kidsN k = 1 by (unfold Pn.kidsN; split <;> (try split) <;> omega), show Pn.isK k = true by (unfold Pn.isK; simp; omega)]
            · have h6 := of_decide_eq_false h6
              refine Wp.rg [] ?_
              refine Wp.cd (decide ((k : Int) = 13)) (fun h7 => ?_) (fun h7 => ?_)
              · have h7 := of_decide_eq_true h7
                refine Wp.sr [] ?_
                refine Wp.ret ?_
                refine ⟨rfl, ?_⟩
                refine fin_r (.tp [(.sc (.int .i64 1)), (.sc (.bool true))]) ?_
                rw [show Pn.kidsN k = 1 by (unfold Pn.kidsN; split <;> (try split) <;> omega), show Pn.isK k = true by (unfold Pn.isK; simp; omega)]
              · have h7 := of_decide_eq_false h7
                refine Wp.seq ?_
                refine Wp.sr [] ?_
                refine Wp.cd (decide ((k : Int) = 6)) (fun h8 => ?_) (fun h8 => ?_)
                · have h8 := of_decide_eq_true h8
                  refine Wp.skip ?_
                  refine Wp.ct (B := (decide ((k : Int) = 6))) (by simp [h8]) ?_
                  refine Wp.sr [] ?_
                  refine Wp.ret ?_
                  refine ⟨rfl, ?_⟩
                  refine fin_r (.tp [(.sc (.int .i64 2)), (.sc (.bool true))]) ?_
                  rw [show Pn.kidsN k = 2 by (unfold Pn.kidsN; split <;> (try split) <;> omega), show Pn.isK k = true by (unfold Pn.isK; simp; omega)]
                · have h8 := of_decide_eq_false h8
                  refine Wp.sr [] ?_
                  refine Wp.cd (decide ((k : Int) = 7)) (fun h9 => ?_) (fun h9 => ?_)
                  · have h9 := of_decide_eq_true h9
                    refine Wp.skip ?_
                    refine Wp.ct (B := (decide ((k : Int) = 7))) (by simp [h9]) ?_
                    refine Wp.sr [] ?_
                    refine Wp.ret ?_
                    refine ⟨rfl, ?_⟩
                    refine fin_r (.tp [(.sc (.int .i64 2)), (.sc (.bool true))]) ?_
                    rw [show Pn.kidsN k = 2 by (unfold Pn.kidsN; split <;> (try split) <;> omega), show Pn.isK k = true by (unfold Pn.isK; simp; omega)]
                  · have h9 := of_decide_eq_false h9
                    refine Wp.sr [] ?_
                    refine Wp.cd (decide ((k : Int) = 8)) (fun h10 => ?_) (fun h10 => ?_)
                    · have h10 := of_decide_eq_true h10
                      refine Wp.skip ?_
                      refine Wp.ct (B := (decide ((k : Int) = 8))) (by simp [h10]) ?_
                      refine Wp.sr [] ?_
                      refine Wp.ret ?_
                      refine ⟨rfl, ?_⟩
                      refine fin_r (.tp [(.sc (.int .i64 2)), (.sc (.bool true))]) ?_
                      rw [show Pn.kidsN k = 2 by (unfold Pn.kidsN; split <;> (try split) <;> omega), show Pn.isK k = true by (unfold Pn.isK; simp; omega)]
                    · have h10 := of_decide_eq_false h10
                      refine Wp.sr [] ?_
                      refine Wp.cd (decide ((k : Int) = 9)) (fun h11 => ?_) (fun h11 => ?_)
                      · have h11 := of_decide_eq_true h11
                        refine Wp.skip ?_
                        refine Wp.ct (B := (decide ((k : Int) = 9))) (by simp [h11]) ?_
                        refine Wp.sr [] ?_
                        refine Wp.ret ?_
                        refine ⟨rfl, ?_⟩
                        refine fin_r (.tp [(.sc (.int .i64 2)), (.sc (.bool true))]) ?_
                        rw [show Pn.kidsN k = 2 by (unfold Pn.kidsN; split <;> (try split) <;> omega), show Pn.isK k = true by (unfold Pn.isK; simp; omega)]
                      · have h11 := of_decide_eq_false h11
                        refine Wp.sr [] ?_
                        refine Wp.cd (decide ((k : Int) = 10)) (fun h12 => ?_) (fun h12 => ?_)
                        · have h12 := of_decide_eq_true h12
                          refine Wp.skip ?_
                          refine Wp.ct (B := (decide ((k : Int) = 10))) (by simp [h12]) ?_
                          refine Wp.sr [] ?_
                          refine Wp.ret ?_
                          refine ⟨rfl, ?_⟩
                          refine fin_r (.tp [(.sc (.int .i64 2)), (.sc (.bool true))]) ?_
                          rw [show Pn.kidsN k = 2 by (unfold Pn.kidsN; split <;> (try split) <;> omega), show Pn.isK k = true by (unfold Pn.isK; simp; omega)]
                        · have h12 := of_decide_eq_false h12
                          refine Wp.sr [] ?_
                          refine Wp.cd (decide ((k : Int) = 11)) (fun h13 => ?_) (fun h13 => ?_)
                          · have h13 := of_decide_eq_true h13
                            refine Wp.skip ?_
                            refine Wp.ct (B := (decide ((k : Int) = 11))) (by simp [h13]) ?_
                            refine Wp.sr [] ?_
                            refine Wp.ret ?_
                            refine ⟨rfl, ?_⟩
                            refine fin_r (.tp [(.sc (.int .i64 2)), (.sc (.bool true))]) ?_
                            rw [show Pn.kidsN k = 2 by (unfold Pn.kidsN; split <;> (try split) <;> omega), show Pn.isK k = true by (unfold Pn.isK; simp; omega)]
                          · have h13 := of_decide_eq_false h13
                            refine Wp.rg [] ?_
                            refine Wp.cd (decide ((k : Int) = 14)) (fun h14 => ?_) (fun h14 => ?_)
                            · have h14 := of_decide_eq_true h14
                              refine Wp.sr [] ?_
                              refine Wp.ret ?_
                              refine ⟨rfl, ?_⟩
                              refine fin_r (.tp [(.sc (.int .i64 2)), (.sc (.bool true))]) ?_
                              rw [show Pn.kidsN k = 2 by (unfold Pn.kidsN; split <;> (try split) <;> omega), show Pn.isK k = true by (unfold Pn.isK; simp; omega)]
                            · have h14 := of_decide_eq_false h14
                              refine Wp.skip ?_
                              refine Wp.sr [] ?_
                              refine Wp.ret ?_
                              refine fin_r (.tp [(.sc (.int .i64 0)), (.sc (.bool false))]) ?_
                              rw [show Pn.kidsN k = 0 by (unfold Pn.kidsN; split <;> (try split) <;> omega), show Pn.isK k = false by (unfold Pn.isK; simp; omega)]

theorem mayHold6 (k y : Int) : PCalls Tryz.prog 194 [(.sc (.int .i64 k)), (.sc (.int .i64 y))] (.sc (.bool (Pn.holdB k y))) := by
  refine pcalls_rf mixed Tryz.func194 rfl ?_
  refine Wp.sr [] ?_
  refine Wp.seq ?_
  refine Wp.sr [] ?_
  refine Wp.block ?_
  refine Wp.sr [] ?_
  refine Wp.cd (decide ((k : Int) = 13)) (fun h1 => ?_) (fun h1 => ?_)
  · have h1 := of_decide_eq_true h1
    by_cases h2 : (y : Int) = 2
    · skip
      refine Wp.sr [.g (show (decide ((y : Int) = 2)) = true from (by simp [h2]))] ?_
      refine Wp.ret ?_
      refine ⟨rfl, ?_⟩
      refine fin_r (.sc (.bool true)) ?_
      skip
      first
        | (simp [h1, h2]; done)
        | (unfold Pn.holdB; simp [h1, h2]; done)
    · skip
      refine Wp.sr [.g (show (decide ((y : Int) = 2)) = false from (by simp [h2]))] ?_
      refine Wp.ret ?_
      refine ⟨rfl, ?_⟩
      refine fin_r (.sc (.bool (decide ((y : Int) = 3)))) ?_
      skip
      first
        | (simp [h1, h2]; done)
        | (unfold Pn.holdB; simp [h1, h2]; done)
  · have h1 := of_decide_eq_false h1
    refine Wp.sr [] ?_
    refine Wp.cd (decide ((k : Int) = 14)) (fun h3 => ?_) (fun h3 => ?_)
    · have h3 := of_decide_eq_true h3
      by_cases h4 : (y : Int) = 2
      · skip
        refine Wp.sr [.g (show (decide ((y : Int) = 2)) = true from (by simp [h4])), .g gT] ?_
        refine Wp.ret ?_
        refine ⟨rfl, ?_⟩
        refine fin_r (.sc (.bool true)) ?_
        skip
        first
          | (simp [h1, h3, h4]; done)
          | (unfold Pn.holdB; simp [h1, h3, h4]; done)
      · skip
        by_cases h5 : (y : Int) = 3
        · skip
          refine Wp.sr [.g (show (decide ((y : Int) = 2)) = false from (by simp [h4])), .g (show (decide ((y : Int) = 3)) = true from (by simp [h5]))] ?_
          refine Wp.ret ?_
          refine ⟨rfl, ?_⟩
          refine fin_r (.sc (.bool true)) ?_
          skip
          first
            | (simp [h1, h3, h4, h5]; done)
            | (unfold Pn.holdB; simp [h1, h3, h4, h5]; done)
        · skip
          refine Wp.sr [.g (show (decide ((y : Int) = 2)) = false from (by simp [h4])), .g (show (decide ((y : Int) = 3)) = false from (by simp [h5]))] ?_
          refine Wp.ret ?_
          refine ⟨rfl, ?_⟩
          refine fin_r (.sc (.bool (decide ((y : Int) = 4)))) ?_
          skip
          first
            | (simp [h1, h3, h4, h5]; done)
            | (unfold Pn.holdB; simp [h1, h3, h4, h5]; done)
    · have h3 := of_decide_eq_false h3
      refine Wp.skip ?_
      refine Wp.sr [] ?_
      refine Wp.ret ?_
      refine fin_r (.sc (.bool true)) ?_
      skip
      first
        | (simp [h1, h3]; done)
        | (unfold Pn.holdB; simp [h1, h3]; done)

theorem selfRight6 (x : Pn.Xp) (hf : Pn.fitX x = true) : PCalls Tryz.prog 193 [(.ag (Pn.cX x))] (.sc (.bool (Pn.selfB Wd.nameB x))) := by
  have hn := Pn.fitX_num hf
  refine pcalls_fine fun hfa => ?_
  have hR1 := hfa 0 _ rfl
  have hF2 : Fine (.ls none (List.map Pn.encX x.kids)) := hR1.at 3 rfl
  have hF2l := hF2.lenm
  refine pcalls_rf mixed Tryz.func193 rfl ?_
  refine Wp.sr [] ?_
  refine Wp.seq ?_
  refine Wp.sr [] ?_
  refine Wp.block ?_
  refine Wp.sr [] ?_
  refine Wp.cd (decide ((x.kind : Int) = 1)) (fun h3 => ?_) (fun h3 => ?_)
  · have h3 := of_decide_eq_true h3
    refine Wp.sr [.c (digits_p x.num hn.1 hn.2), .c (number_p (ByteArray.mk (Lib.itoa x.num).toArray))] ?_
    by_cases h4 : ((Wd.number (ByteArray.mk (Lib.itoa x.num).toArray)).isSome) = true
    · skip
      refine Wp.sr [.g (show ((Wd.number (ByteArray.mk (Lib.itoa x.num).toArray)).isSome) = true from (by exact h4))] ?_
      refine Wp.ret ?_
      refine ⟨rfl, ?_⟩
      refine fin_r (.sc (.bool (decide (x.name = (⟨#[]⟩ : ByteArray))))) ?_
      rw [number_itoa, decide_eq_true_eq] at h4
      skip
      first
        | (simp [h3, h4]; done)
        | (unfold Pn.selfB; simp [h3, h4]; done)
        | (unfold Pn.selfB; simp [h3, h4]; intros; omega)
    · skip
      refine Wp.sr [.g (show ((Wd.number (ByteArray.mk (Lib.itoa x.num).toArray)).isSome) = false from (by exact (eq_false_of_ne_true h4)))] ?_
      refine Wp.ret ?_
      refine ⟨rfl, ?_⟩
      refine fin_r (.sc (.bool false)) ?_
      rw [number_itoa, decide_eq_true_eq] at h4
      skip
      first
        | (simp [h3, h4]; done)
        | (unfold Pn.selfB; simp [h3, h4]; done)
        | (unfold Pn.selfB; simp [h3, h4]; intros; omega)
  · have h3 := of_decide_eq_false h3
    refine Wp.sr [] ?_
    refine Wp.cd (decide ((x.kind : Int) = 2)) (fun h5 => ?_) (fun h5 => ?_)
    · have h5 := of_decide_eq_true h5
      by_cases h6 : (x.num : Int) = 0
      · skip
        refine Wp.sr [.g (show (decide ((x.num : Int) = 0)) = true from (by simp [h6])), .c (name_p x.name)] ?_
        refine Wp.ret ?_
        refine ⟨rfl, ?_⟩
        refine fin_r (.sc (.bool (Wd.nameB x.name))) ?_
        skip
        first
          | (simp [h3, h5, h6]; done)
          | (unfold Pn.selfB; simp [h3, h5, h6]; done)
          | (unfold Pn.selfB; simp [h3, h5, h6]; intros; omega)
      · skip
        refine Wp.sr [.g (show (decide ((x.num : Int) = 0)) = false from (by simp [h6]))] ?_
        refine Wp.ret ?_
        refine ⟨rfl, ?_⟩
        refine fin_r (.sc (.bool false)) ?_
        skip
        first
          | (simp [h3, h5, h6]; done)
          | (unfold Pn.selfB; simp [h3, h5, h6]; done)
          | (unfold Pn.selfB; simp [h3, h5, h6]; intros; omega)
    · have h5 := of_decide_eq_false h5
      refine Wp.skip ?_
      by_cases h7 : (x.num : Int) = 0
      · skip
        refine Wp.sr [.g (show (decide ((x.num : Int) = 0)) = true from (by simp [h7]))] ?_
        refine Wp.ret ?_
        refine fin_r (.sc (.bool (decide (x.name = (⟨#[]⟩ : ByteArray))))) ?_
        skip
        first
          | (simp [h3, h5, h7]; done)
          | (unfold Pn.selfB; simp [h3, h5, h7]; done)
          | (unfold Pn.selfB; simp [h3, h5, h7]; intros; omega)
      · skip
        refine Wp.sr [.g (show (decide ((x.num : Int) = 0)) = false from (by simp [h7]))] ?_
        refine Wp.ret ?_
        refine fin_r (.sc (.bool false)) ?_
        skip
        first
          | (simp [h3, h5, h7]; done)
          | (unfold Pn.selfB; simp [h3, h5, h7]; done)
          | (unfold Pn.selfB; simp [h3, h5, h7]; intros; omega)
end Go.Proofs.YtjghgpmkepfdhaaGreatDoor
namespace Go.Proofs.YtjghgpmkepfdhaaGreatDoor
open Go.RowKit
set_option linter.unusedVariables false
set_option linter.unusedSimpArgs false
set_option maxRecDepth 100000
set_option maxHeartbeats 4000000
theorem PtXPal.en169 : ∀ vs w, (callFunc 169 vs).run Tryz.prog w = .ok (.enter 169 vs) w := fun vs w => run_enter Tryz.func169 (by kernel_rfl) rfl vs w
theorem right6p_step (a : Pn.Xp) (d : Int) (hd : d ≤ 20) (hf : Pn.fitX a = true) (IH : ∀ y ∈ a.kids, PCalls Tryz.prog 186 [(.ag (Pn.cX y)), (.sc (.int .i64 (d - 1)))] (.sc (.bool (Pn.rightD Wd.nameB y (d - 1))))) : PCalls Tryz.prog 186 [(.ag (Pn.cX a)), (.sc (.int .i64 d))] (.sc (.bool (Pn.rightD Wd.nameB a d))) := by
  refine pcalls_fine fun hfa => ?_
  have hR1 := hfa 0 _ rfl
  have hF2 : Fine (.ls none (List.map Pn.encX a.kids)) := hR1.at 3 rfl
  have hF2l := hF2.lenm
  refine pcalls_rf mixed Tryz.func186 rfl ?_
  refine Wp.sr [] ?_
  refine Wp.sr [.c (kidsOf6 a.kind)] ?_
  refine Wp.seq ?_
  by_cases h3 : (Pn.isK a.kind) = true
  · skip
    by_cases h4 : (d : Int) < 1
    · skip
      refine Wp.sr [.g (show (!(Pn.isK a.kind)) = false from (by rw [h3]; rfl)), .g (show (decide ((d : Int) < 1)) = true from (by simp [h4])), .g gT] ?_
      refine Wp.ct (B := true) rfl ?_
      refine Wp.sr [] ?_
      refine Wp.ret ?_
      refine ⟨rfl, ?_⟩
      refine fin_r (.sc (.bool false)) ?_
      rw [Pn.rightD_eq]
      first
        | (simp [h3, h4]; done)
        | (simp only [Int.natCast_eq_zero] at *; simp_all; done)
        | (have hh : ¬ (1 : Int) ≤ d := (by omega); simp [hh]; done)
    · skip
      by_cases h5 : (((a.kids.length : Nat) : Int) : Int) = (Pn.kidsN a.kind)
      · skip
        refine Wp.sr [.g (show (!(Pn.isK a.kind)) = false from (by rw [h3]; rfl)), .g (show (decide ((d : Int) < 1)) = false from (by simp [h4])), .n (lenm Pn.encX a.kids), .g (show (!decide ((((a.kids.length : Nat) : Int) : Int) = (Pn.kidsN a.kind))) = false from (by first | (simp [h5]; done) | (simp only [h5, decide_false, decide_true, Bool.not_true, Bool.not_false, Bool.false_eq_true, not_false_eq_true, beq_self_eq_true]; done))), .c (selfRight6 a hf)] ?_
        refine Wp.cd (!(Pn.selfB Wd.nameB a)) (fun h6 => ?_) (fun h6 => ?_)
        · have h6 : ¬ ((Pn.selfB Wd.nameB a) = true) := by simpa using h6
          refine Wp.sr [] ?_
          refine Wp.ret ?_
          refine ⟨rfl, ?_⟩
          refine fin_r (.sc (.bool false)) ?_
          rw [Pn.rightD_eq]
          first
            | (simp [h3, h4, h5, h6]; done)
            | (simp only [Int.natCast_eq_zero] at *; simp_all; done)
            | (have hh : ¬ (1 : Int) ≤ d := (by omega); simp [hh]; done)
        · have h6 : ((Pn.selfB Wd.nameB a) = true) := by simpa using h6
          refine Wp.skip ?_
          refine Wp.seq ?_
          refine Wp.sr [.c (kids6p a)] ?_
          refine Wp.block ?_
          refine Wp.range (st' := ⟨(mk 50 [(0, (.ag (Pn.cX a))), (1, (.sc (.int .i64 d))), (2, (.pt 10002 0)), (3, (.pt 10003 0)), (4, (.pt 10004 0)), (5, (.sc (.int .i64 (Pn.kidsN a.kind)))), (6, (.sc (.bool (Pn.isK a.kind)))), (32, (.sc (.bool (!(Pn.selfB Wd.nameB a))))), (34, (.fn (.func 169) [] [(.pr (Pn.cX a))]))]), [(10002, [(.sc (.int .i64 a.kind)), (.sc (.int .i64 a.num)), (.sc (.string a.name)), (.ls none (List.map Pn.encX a.kids))]), (10003, [(.sc (.int .i64 d))]), (10004, [(.sc (.bool false))])], y0⟩) mixed PtXPal.en169 (fs := []) (caps := [(.pr (Pn.cX a))]) (by kernel_rfl) (by kernel_rfl) (Pn.ans1 (fun y => Pn.holdB a.kind y.kind && Pn.rightD Wd.nameB y (d - 1)) a.kids) (Pn.kidI a.kids) (fun _ => none) (fun q7 => [(10002, [(.sc (.int .i64 a.kind)), (.sc (.int .i64 a.num)), (.sc (.string a.name)), (.ls none (List.map Pn.encX a.kids))]), (10003, [(.sc (.int .i64 d))]), (10004, [(.sc (.bool false))])]) (mk 50 [(0, (.ag (Pn.cX a))), (1, (.sc (.int .i64 d))), (2, (.pt 10002 0)), (3, (.pt 10003 0)), (4, (.pt 10004 0)), (5, (.sc (.int .i64 (Pn.kidsN a.kind)))), (6, (.sc (.bool (Pn.isK a.kind)))), (32, (.sc (.bool (!(Pn.selfB Wd.nameB a))))), (34, (.fn (.func 169) [] [(.pr (Pn.cX a))]))]) (le_of [0, 1, 2, 3, 4, 5, 6, 32, 34] [10002, 10003, 10004] (by kernel_rfl)) (noq_all (by kernel_rfl)) (fun q7 t row h => vget_ge (by kernel_rfl) h) (fun row h => Pn.kidI_len h) (.tp []) (ran (Pn.ans1 (fun y => Pn.holdB a.kind y.kind && Pn.rightD Wd.nameB y (d - 1)) a.kids) 0 a.kids.length).1 (fun l => kidsY ⟨l, (Pn.ans1 (fun y => Pn.holdB a.kind y.kind && Pn.rightD Wd.nameB y (d - 1)) a.kids), (Pn.kidI a.kids)⟩ a rfl) ?_ (by kernel_rfl) ?_
          · intro q8 row9 hr10 hl11
            obtain ⟨x12, hx13, rfl⟩ := Pn.kidI_out hr10
            have hq := Pn.len_lt hx13
            refine Wp.weak (st' := ⟨mk 50 [(0, (.ag (Pn.cX a))), (1, (.sc (.int .i64 d))), (2, (.pt 10002 0)), (3, (.pt 10003 0)), (4, (.pt 10004 0)), (5, (.sc (.int .i64 (Pn.kidsN a.kind)))), (6, (.sc (.bool (Pn.isK a.kind)))), (32, (.sc (.bool (!(Pn.selfB Wd.nameB a))))), (34, (.fn (.func 169) [] [(.pr (Pn.cX a))])), (35, (.sc (.int .i64 ((q8 : Nat) : Int)))), (36, (.ag (Pn.cX x12)))], [(10002, (Pn.cX a)), (10003, [(.sc (.int .i64 d))]), (10004, [(.sc (.bool false))])], y0⟩) [0, 1, 2, 3, 4, 5, 6, 32, 34, 35, 36] [10002, 10003, 10004] (by kernel_rfl) ?_
            refine Wp.rg [] ?_
            refine ⟨rfl, ?_⟩
            refine Wp.block ?_
            by_cases h14 : (Pn.holdB a.kind x12.kind) = true
            · skip
              refine Wp.sr [.c (mayHold6 a.kind x12.kind), .g (show (!(Pn.holdB a.kind x12.kind)) = false from (by rw [h14]; rfl)), .z (int_sub (x := d) (y := 1) (z := (d - 1)) (by omega) (by omega) (by omega)), .c (IH x12 (List.mem_of_getElem? hx13))] ?_
              refine Wp.cd (!(Pn.rightD Wd.nameB x12 (d - 1))) (fun h15 => ?_) (fun h15 => ?_)
              · have h15 : ¬ ((Pn.rightD Wd.nameB x12 (d - 1)) = true) := by simpa using h15
                refine Wp.sr [] ?_
                refine Wp.ret ?_
                refine ⟨?_, ?_⟩
                · exact vsub [10002, 10003, 10004] (by kernel_rfl)
                · exact .inr ⟨rfl, by rw [Pn.ans1_at hx13]; simp [h3, h4, h5, h6, h14, h15]⟩
              · have h15 : ((Pn.rightD Wd.nameB x12 (d - 1)) = true) := by simpa using h15
                refine Wp.skip ?_
                refine ⟨?_, ?_⟩
                · exact vsub [10002, 10003, 10004] (by kernel_rfl)
                · exact .inl ⟨rfl, by rw [Pn.ans1_at hx13]; simp [h3, h4, h5, h6, h14, h15]⟩
            · skip
              refine Wp.sr [.c (mayHold6 a.kind x12.kind), .g (show (!(Pn.holdB a.kind x12.kind)) = true from (by rw [(eq_false_of_ne_true h14)]; rfl))] ?_
              refine Wp.ct (B := true) rfl ?_
              refine Wp.sr [] ?_
              refine Wp.ret ?_
              refine ⟨?_, ?_⟩
              · exact vsub [10002, 10003, 10004] (by kernel_rfl)
              · exact .inr ⟨rfl, by rw [Pn.ans1_at hx13]; simp [h3, h4, h5, h6, h14]⟩
          · by_cases hL16 : liveB (Pn.ans1 (fun y => Pn.holdB a.kind y.kind && Pn.rightD Wd.nameB y (d - 1)) a.kids) ((ran (Pn.ans1 (fun y => Pn.holdB a.kind y.kind && Pn.rightD Wd.nameB y (d - 1)) a.kids) 0 a.kids.length).1) = true
            · rw [if_pos hL16]
              refine Wp.sr [] ?_
              refine Wp.ret ?_
              refine fin_r (.sc (.bool true)) ?_
              have hh : (1 : Int) ≤ d := by omega
              rw [Pn.live_ran, Pn.ran_all, Pn.range_all] at hL16
              first | rw [Bool.not_eq_true] at hL16 | skip
              rw [Pn.rightD_eq]
              rw [hL16]
              simp [hh, h3, h4, h5, h6]
            · rw [if_neg hL16]
              refine ⟨rfl, ?_⟩
              refine fin_r (.sc (.bool false)) ?_
              have hh : (1 : Int) ≤ d := by omega
              rw [Pn.live_ran, Pn.ran_all, Pn.range_all] at hL16
              first | rw [Bool.not_eq_true] at hL16 | skip
              rw [Pn.rightD_eq]
              rw [hL16]
              simp [hh, h3, h4, h5, h6]
      · skip
        refine Wp.sr [.g (show (!(Pn.isK a.kind)) = false from (by rw [h3]; rfl)), .g (show (decide ((d : Int) < 1)) = false from (by simp [h4])), .n (lenm Pn.encX a.kids), .g (show (!decide ((((a.kids.length : Nat) : Int) : Int) = (Pn.kidsN a.kind))) = true from (by first | (simp [h5]; done) | (simp only [h5, decide_false, decide_true, Bool.not_true, Bool.not_false, Bool.false_eq_true, not_false_eq_true, beq_self_eq_true]; done)))] ?_
        refine Wp.ct (B := true) rfl ?_
        refine Wp.sr [] ?_
        refine Wp.ret ?_
        refine ⟨rfl, ?_⟩
        refine fin_r (.sc (.bool false)) ?_
        rw [Pn.rightD_eq]
        first
          | (simp [h3, h4, h5]; done)
          | (simp only [Int.natCast_eq_zero] at *; simp_all; done)
          | (have hh : ¬ (1 : Int) ≤ d := (by omega); simp [hh]; done)
  · skip
    refine Wp.sr [.g (show (!(Pn.isK a.kind)) = true from (by rw [(eq_false_of_ne_true h3)]; rfl)), .g gT, .g gT] ?_
    refine Wp.ct (B := true) rfl ?_
    refine Wp.sr [] ?_
    refine Wp.ret ?_
    refine ⟨rfl, ?_⟩
    refine fin_r (.sc (.bool false)) ?_
    rw [Pn.rightD_eq]
    first
      | (simp [h3]; done)
      | (simp only [Int.natCast_eq_zero] at *; simp_all; done)
      | (have hh : ¬ (1 : Int) ≤ d := (by omega); simp [hh]; done)

theorem right6p (a : Pn.Xp) (d : Int) (hd : d ≤ 20) (hf : Pn.fitX a = true) : PCalls Tryz.prog 186 [(.ag (Pn.cX a)), (.sc (.int .i64 d))] (.sc (.bool (Pn.rightD Wd.nameB a d))) := by
  have key : ∀ n (a : Pn.Xp) (d : Int), d ≤ 20 → Pn.fitX a = true → Pn.cntX a ≤ n → PCalls Tryz.prog 186 [(.ag (Pn.cX a)), (.sc (.int .i64 d))] (.sc (.bool (Pn.rightD Wd.nameB a d))) := by
    intro n
    induction n with
    | zero => intro a d _ _ h; rw [Pn.cntX_eq] at h; omega
    | succ n ih =>
      intro a d hd hf h
      refine right6p_step a d hd hf fun x hx => ih x (d - 1) (by omega) (Pn.fitX_kid hf hx) ?_
      have h1 := Pn.cntX_kid hx
      rw [Pn.cntX_eq] at h
      omega
  exact key _ a d hd hf (Nat.le_refl _)

theorem Right6p (a : Pn.Xp) (hf : Pn.fitX a = true) : PCalls Tryz.prog 174 [(.ag (Pn.cX a))] (.sc (.bool (Pn.rightX Wd.nameB a))) := by
  refine pcalls_fine fun hfa => ?_
  have hR1 := hfa 0 _ rfl
  have hF2 : Fine (.ls none (List.map Pn.encX a.kids)) := hR1.at 3 rfl
  have hF2l := hF2.lenm
  refine pcalls_rf mixed Tryz.func174 rfl ?_
  refine Wp.sr [] ?_
  refine Wp.sr [.c (right6p a 20 (by omega) hf)] ?_
  refine Wp.ret ?_
  refine fin_r (.sc (.bool (Pn.rightD Wd.nameB a 20))) ?_
  rw [Pn.rightD_right]
end Go.Proofs.YtjghgpmkepfdhaaGreatDoor
namespace Go.Proofs.YtjghgpmkepfdhaaGreatDoor
open Go.RowKit
set_option linter.unusedVariables false
set_option linter.unusedSimpArgs false
set_option maxRecDepth 100000
set_option maxHeartbeats 4000000
theorem mayCast8p (k : Int) : PCalls Tryz.prog 178 [(.sc (.int .i64 k))] (.sc (.bool (Pn.castB k))) := by
  refine pcalls_rf mixed Tryz.func178 rfl ?_
  refine Wp.sr [] ?_
  refine Wp.sr [] ?_
  refine Wp.ret ?_
  refine fin_r (.sc (.bool (((decide ((k : Int) = 2)) || (decide ((k : Int) = 3))) || (decide ((k : Int) = 4))))) ?_
  rfl

theorem object8p (t : Pn.Ty) (p : Int) : PCalls Tryz.prog 177 [(.ag (Pn.cTy t)), (.sc (.int .i64 p))] (.sc (.bool (Pn.objB rtT t p))) := by
  refine pcalls_rf mixed Tryz.func177 rfl ?_
  refine Wp.sr [] ?_
  refine Wp.sr [.c (kright_p t p)] ?_
  refine Wp.ret ?_
  refine fin_r (.sc (.bool ((decide ((t.kind : Int) = 2)) && (rtT t p)))) ?_
  rfl

theorem member8p (x : Pn.Sm) : PCalls Tryz.prog 175 [(.ag (Pn.cS x))] (.sc (.bool (Pn.memB Wd.nameB x))) := by
  refine pcalls_fine fun hfa => ?_
  have hR1 := hfa 0 _ rfl
  have hF2 : Fine (.ls none (List.map Pn.encX x.e.kids)) := hR1.at 18 rfl
  have hF2l := hF2.lenm
  have hF3 : Fine (.ls none (List.map Pn.encX x.args)) := hR1.at 19 rfl
  have hF3l := hF3.lenm
  have hF4 : Fine (.ls none (List.map Pn.encS x.body)) := hR1.at 20 rfl
  have hF4l := hF4.lenm
  have hF5 : Fine (.ls none (List.map Pn.encS x.els)) := hR1.at 21 rfl
  have hF5l := hF5.lenm
  refine pcalls_rf mixed Tryz.func175 rfl ?_
  refine Wp.sr [] ?_
  refine Wp.sr [.c (name_p x.y), .c (name_p x.name)] ?_
  refine Wp.ret ?_
  refine fin_r (.sc (.bool (((decide (x.y = (⟨#[116, 104, 105, 115]⟩ : ByteArray))) || (Wd.nameB x.y)) && (Wd.nameB x.name)))) ?_
  rfl

theorem args8p (l : List Pn.Xp) (hf : ∀ y ∈ l, Pn.fitX y = true) : PCalls Tryz.prog 176 [(.ls none (List.map Pn.encX l))] (.sc (.bool (Pn.argsB Wd.nameB l))) := by
  refine pcalls_fine fun hfa => ?_
  have hF1 := hfa 0 _ rfl
  have hF1l := hF1.lenm
  refine pcalls_rf mixed Tryz.func176 rfl ?_
  refine Wp.sr [] ?_
  refine Wp.seq ?_
  refine Wp.sr [.n (lenm Pn.encX l)] ?_
  refine Wp.block ?_
  refine Wp.lp (α := (Nat)) (fun | j => ⟨mk 18 [(0, (.ls none (List.map Pn.encX l))), (5, (.ls none (List.map Pn.encX l))), (6, (.sc (.int .i64 ((l.length : Nat) : Int)))), (7, (.sc (.int .i64 ((j : Nat) : Int))))], [], y0⟩) (fun | j => j ≤ l.length ∧ (l.take j).all (fun y => Pn.rightX Wd.nameB y) = true) (fun | j => l.length - j) 0 ?_ ?_
  · exact ⟨Nat.zero_le _, by simp⟩
  rintro j hv2
  obtain ⟨hlj, htj⟩ := hv2
  refine Wp.sr [] ?_
  refine Wp.seq ?_
  refine Wp.cd (decide ((((j : Nat) : Int) : Int) < ((l.length : Nat) : Int))) (fun h3 => ?_) (fun h3 => ?_)
  · have h3 := of_decide_eq_true h3
    refine Wp.skip ?_
    refine Wp.seq ?_
    refine Wp.block ?_
    obtain ⟨x6, hx5⟩ : ∃ z0, (l)[j]? = some z0 := ⟨_, List.getElem?_eq_getElem (by omega)⟩
    have hR8 : Fine (.ag (Pn.cX x6)) := hF1.row hx5 (Pn.encX_eq x6)
    have hF9 : Fine (.ls none (List.map Pn.encX x6.kids)) := hR8.at 3 rfl
    have hF9l := hF9.lenm
    refine Wp.sr [.i (Pn.map_to hx5 (Pn.encX_eq x6))] ?_
    refine Wp.sr [.c (Right6p x6 (hf x6 (List.mem_of_getElem? hx5)))] ?_
    refine Wp.cd (!(Pn.rightX Wd.nameB x6)) (fun h10 => ?_) (fun h10 => ?_)
    · have h10 : ¬ ((Pn.rightX Wd.nameB x6) = true) := by simpa using h10
      refine Wp.sr [] ?_
      refine Wp.ret ?_
      refine ⟨rfl, ?_⟩
      refine ⟨rfl, ?_⟩
      refine ⟨rfl, ?_⟩
      refine fin_r (.sc (.bool false)) ?_
      unfold Pn.argsB
      rw [Pn.all_false hx5 (by simp [h3, h10])]
      rfl
    · have h10 : ((Pn.rightX Wd.nameB x6) = true) := by simpa using h10
      refine Wp.skip ?_
      refine Wp.rg [.z (int_add (x := ((j : Nat) : Int)) (y := 1) (z := (((j + 1) : Nat) : Int)) (by omega) (by omega) (by omega))] ?_
      refine ⟨(j + 1), .rf, ?_, ?_⟩
      · exact ⟨Pn.len_lt hx5, Pn.all_next hx5 htj (by simp [h3, h10])⟩
      · simp only; omega
  · have h3 := of_decide_eq_false h3
    refine Wp.exit ?_
    refine ⟨rfl, ?_⟩
    refine ⟨rfl, ?_⟩
    refine Wp.sr [.n (lenm Pn.encX l)] ?_
    refine Wp.ret ?_
    refine fin_r (.sc (.bool (decide ((((l.length : Nat) : Int) : Int) ≤ 5)))) ?_
    unfold Pn.argsB
    rw [Pn.all_end htj (by assumption)]
    simp
end Go.Proofs.YtjghgpmkepfdhaaGreatDoor
namespace Go.Proofs.YtjghgpmkepfdhaaGreatDoor
open Go.RowKit
set_option linter.unusedVariables false
set_option linter.unusedSimpArgs false
set_option maxRecDepth 100000
set_option maxHeartbeats 4000000
theorem parts8p (x : Pn.Sm) (p : Int) (hf : Pn.fitS x = true) : PCalls Tryz.prog 163 [(.ag (Pn.cS x)), (.sc (.int .i64 p))] (.sc (.bool (Pn.partsB Wd.nameB rtT x p))) := by
  refine pcalls_fine fun hfa => ?_
  have hR1 := hfa 0 _ rfl
  have hF2 : Fine (.ls none (List.map Pn.encX x.e.kids)) := hR1.at 18 rfl
  have hF2l := hF2.lenm
  have hF3 : Fine (.ls none (List.map Pn.encX x.args)) := hR1.at 19 rfl
  have hF3l := hF3.lenm
  have hF4 : Fine (.ls none (List.map Pn.encS x.body)) := hR1.at 20 rfl
  have hF4l := hF4.lenm
  have hF5 : Fine (.ls none (List.map Pn.encS x.els)) := hR1.at 21 rfl
  have hF5l := hF5.lenm
  refine pcalls_rf mixed Tryz.func163 rfl ?_
  refine Wp.sr [] ?_
  refine Wp.seq ?_
  refine Wp.sr [] ?_
  refine Wp.block ?_
  refine Wp.sr [] ?_
  refine Wp.cd (decide ((x.kind : Int) = 1)) (fun h6 => ?_) (fun h6 => ?_)
  · have h6 := of_decide_eq_true h6
    refine Wp.sr [.c (name_p x.x), .c (Right6p x.e (Pn.fitS_e hf))] ?_
    refine Wp.ret ?_
    refine ⟨rfl, ?_⟩
    refine fin_r (.sc (.bool ((Wd.nameB x.x) && (Pn.rightX Wd.nameB x.e)))) ?_
    unfold Pn.partsB
    first | (simp [h6]; done) | (simp only [h6, if_true, if_false]; rfl)
  · have h6 := of_decide_eq_false h6
    refine Wp.sr [] ?_
    refine Wp.cd (decide ((x.kind : Int) = 2)) (fun h7 => ?_) (fun h7 => ?_)
    · have h7 := of_decide_eq_true h7
      refine Wp.sr [.c (name_p x.x), .c (member8p x)] ?_
      refine Wp.ret ?_
      refine ⟨rfl, ?_⟩
      refine fin_r (.sc (.bool ((Wd.nameB x.x) && (Pn.memB Wd.nameB x)))) ?_
      unfold Pn.partsB
      first | (simp [h6, h7]; done) | (simp only [h6, h7, if_true, if_false]; rfl)
    · have h7 := of_decide_eq_false h7
      refine Wp.sr [] ?_
      refine Wp.cd (decide ((x.kind : Int) = 3)) (fun h8 => ?_) (fun h8 => ?_)
      · have h8 := of_decide_eq_true h8
        refine Wp.sr [.c (member8p x), .c (Right6p x.e (Pn.fitS_e hf))] ?_
        refine Wp.ret ?_
        refine ⟨rfl, ?_⟩
        refine fin_r (.sc (.bool ((Pn.memB Wd.nameB x) && (Pn.rightX Wd.nameB x.e)))) ?_
        unfold Pn.partsB
        first | (simp [h6, h7, h8]; done) | (simp only [h6, h7, h8, if_true, if_false]; rfl)
      · have h8 := of_decide_eq_false h8
        refine Wp.sr [] ?_
        refine Wp.cd (decide ((x.kind : Int) = 4)) (fun h9 => ?_) (fun h9 => ?_)
        · have h9 := of_decide_eq_true h9
          refine Wp.sr [.c (name_p x.x), .c (member8p x), .c (args8p x.args (Pn.fitS_args hf))] ?_
          refine Wp.ret ?_
          refine ⟨rfl, ?_⟩
          refine fin_r (.sc (.bool ((((decide (x.x = (⟨#[]⟩ : ByteArray))) || (Wd.nameB x.x)) && (Pn.memB Wd.nameB x)) && (Pn.argsB Wd.nameB x.args)))) ?_
          unfold Pn.partsB
          first | (simp [h6, h7, h8, h9]; done) | (simp only [h6, h7, h8, h9, if_true, if_false]; rfl)
        · have h9 := of_decide_eq_false h9
          refine Wp.sr [] ?_
          refine Wp.cd (decide ((x.kind : Int) = 5)) (fun h10 => ?_) (fun h10 => ?_)
          · have h10 := of_decide_eq_true h10
            refine Wp.sr [.c (name_p x.x), .c (object8p x.type p)] ?_
            refine Wp.ret ?_
            refine ⟨rfl, ?_⟩
            refine fin_r (.sc (.bool ((Wd.nameB x.x) && (Pn.objB rtT x.type p)))) ?_
            unfold Pn.partsB
            first | (simp [h6, h7, h8, h9, h10]; done) | (simp only [h6, h7, h8, h9, h10, if_true, if_false]; rfl)
          · have h10 := of_decide_eq_false h10
            refine Wp.sr [] ?_
            refine Wp.cd (decide ((x.kind : Int) = 6)) (fun h11 => ?_) (fun h11 => ?_)
            · have h11 := of_decide_eq_true h11
              refine Wp.sr [.c (name_p x.x), .c (object8p x.type p), .c (mayCast8p x.e.kind), .c (Right6p x.e (Pn.fitS_e hf))] ?_
              refine Wp.ret ?_
              refine ⟨rfl, ?_⟩
              refine fin_r (.sc (.bool ((((Wd.nameB x.x) && (Pn.objB rtT x.type p)) && (Pn.castB x.e.kind)) && (Pn.rightX Wd.nameB x.e)))) ?_
              unfold Pn.partsB
              first | (simp [h6, h7, h8, h9, h10, h11]; done) | (simp only [h6, h7, h8, h9, h10, h11, if_true, if_false]; rfl)
            · have h11 := of_decide_eq_false h11
              refine Wp.sr [] ?_
              refine Wp.cd (decide ((x.kind : Int) = 7)) (fun h12 => ?_) (fun h12 => ?_)
              · have h12 := of_decide_eq_true h12
                refine Wp.sr [.c (name_p x.x), .c (name_p x.y)] ?_
                refine Wp.ret ?_
                refine ⟨rfl, ?_⟩
                refine fin_r (.sc (.bool ((Wd.nameB x.x) && (Wd.nameB x.y)))) ?_
                unfold Pn.partsB
                first | (simp [h6, h7, h8, h9, h10, h11, h12]; done) | (simp only [h6, h7, h8, h9, h10, h11, h12, if_true, if_false]; rfl)
              · have h12 := of_decide_eq_false h12
                refine Wp.sr [] ?_
                refine Wp.cd (decide ((x.kind : Int) = 8)) (fun h13 => ?_) (fun h13 => ?_)
                · have h13 := of_decide_eq_true h13
                  refine Wp.sr [.c (name_p x.y)] ?_
                  refine Wp.ret ?_
                  refine ⟨rfl, ?_⟩
                  refine fin_r (.sc (.bool (Wd.nameB x.y))) ?_
                  unfold Pn.partsB
                  first | (simp [h6, h7, h8, h9, h10, h11, h12, h13]; done) | (simp only [h6, h7, h8, h9, h10, h11, h12, h13, if_true, if_false]; rfl)
                · have h13 := of_decide_eq_false h13
                  refine Wp.seq ?_
                  refine Wp.sr [] ?_
                  refine Wp.cd (decide ((x.kind : Int) = 9)) (fun h14 => ?_) (fun h14 => ?_)
                  · have h14 := of_decide_eq_true h14
                    refine Wp.skip ?_
                    refine Wp.ct (B := (decide ((x.kind : Int) = 9))) (by simp [h14]) ?_
                    refine Wp.sr [.c (Right6p x.e (Pn.fitS_e hf))] ?_
                    refine Wp.ret ?_
                    refine ⟨rfl, ?_⟩
                    refine fin_r (.sc (.bool (Pn.rightX Wd.nameB x.e))) ?_
                    unfold Pn.partsB
                    first | (simp [h6, h7, h8, h9, h10, h11, h12, h13, h14]; done) | (simp only [h6, h7, h8, h9, h10, h11, h12, h13, h14, if_true, if_false]; rfl)
                  · have h14 := of_decide_eq_false h14
                    refine Wp.rg [] ?_
                    refine Wp.cd (decide ((x.kind : Int) = 10)) (fun h15 => ?_) (fun h15 => ?_)
                    · have h15 := of_decide_eq_true h15
                      refine Wp.sr [.c (Right6p x.e (Pn.fitS_e hf))] ?_
                      refine Wp.ret ?_
                      refine ⟨rfl, ?_⟩
                      refine fin_r (.sc (.bool (Pn.rightX Wd.nameB x.e))) ?_
                      unfold Pn.partsB
                      first | (simp [h6, h7, h8, h9, h10, h11, h12, h13, h14, h15]; done) | (simp only [h6, h7, h8, h9, h10, h11, h12, h13, h14, h15, if_true, if_false]; rfl)
                    · have h15 := of_decide_eq_false h15
                      refine Wp.sr [] ?_
                      refine Wp.cd (decide ((x.kind : Int) = 11)) (fun h16 => ?_) (fun h16 => ?_)
                      · have h16 := of_decide_eq_true h16
                        refine Wp.sr [.c (none8p x.e), .c (Right6p x.e (Pn.fitS_e hf))] ?_
                        refine Wp.ret ?_
                        refine ⟨rfl, ?_⟩
                        refine fin_r (.sc (.bool ((Pn.noneB x.e) || (Pn.rightX Wd.nameB x.e)))) ?_
                        unfold Pn.partsB
                        first | (simp [h6, h7, h8, h9, h10, h11, h12, h13, h14, h15, h16]; done) | (simp only [h6, h7, h8, h9, h10, h11, h12, h13, h14, h15, h16, if_true, if_false]; rfl)
                      · have h16 := of_decide_eq_false h16
                        refine Wp.skip ?_
                        refine Wp.sr [] ?_
                        refine Wp.ret ?_
                        refine fin_r (.sc (.bool false)) ?_
                        unfold Pn.partsB
                        first | (simp [h6, h7, h8, h9, h10, h11, h12, h13, h14, h15, h16]; done) | (simp only [h6, h7, h8, h9, h10, h11, h12, h13, h14, h15, h16, if_true, if_false]; rfl)
end Go.Proofs.YtjghgpmkepfdhaaGreatDoor
namespace Go.Proofs.YtjghgpmkepfdhaaGreatDoor
open Go.RowKit
set_option linter.unusedVariables false
set_option linter.unusedSimpArgs false
set_option maxRecDepth 100000
set_option maxHeartbeats 4000000
theorem allRight8p_step (l : List Pn.Sm) (p d : Int) (IH : ∀ x ∈ l, PCalls Tryz.prog 145 [(.ag (Pn.cS x)), (.sc (.int .i64 p)), (.sc (.int .i64 d))] (.sc (.bool (Pn.rightSD Wd.nameB rtT p x d)))) : PCalls Tryz.prog 166 [(.ls none (List.map Pn.encS l)), (.sc (.int .i64 p)), (.sc (.int .i64 d))] (.sc (.bool (l.all (fun y => Pn.rightSD Wd.nameB rtT p y d)))) := by
  refine pcalls_fine fun hfa => ?_
  have hF1 := hfa 0 _ rfl
  have hF1l := hF1.lenm
  refine pcalls_rf mixed Tryz.func166 rfl ?_
  refine Wp.sr [] ?_
  refine Wp.seq ?_
  refine Wp.sr [.n (lenm Pn.encS l)] ?_
  refine Wp.block ?_
  refine Wp.lp (α := (Nat)) (fun | j => ⟨mk 21 [(0, (.ls none (List.map Pn.encS l))), (1, (.sc (.int .i64 p))), (2, (.sc (.int .i64 d))), (9, (.ls none (List.map Pn.encS l))), (10, (.sc (.int .i64 ((l.length : Nat) : Int)))), (11, (.sc (.int .i64 ((j : Nat) : Int))))], [], y0⟩) (fun | j => j ≤ l.length ∧ (l.take j).all (fun y => Pn.rightSD Wd.nameB rtT p y d) = true) (fun | j => l.length - j) 0 ?_ ?_
  · exact ⟨Nat.zero_le _, by simp⟩
  rintro j hv2
  obtain ⟨hlj, htj⟩ := hv2
  refine Wp.sr [] ?_
  refine Wp.seq ?_
  refine Wp.cd (decide ((((j : Nat) : Int) : Int) < ((l.length : Nat) : Int))) (fun h3 => ?_) (fun h3 => ?_)
  · have h3 := of_decide_eq_true h3
    refine Wp.skip ?_
    refine Wp.seq ?_
    refine Wp.block ?_
    obtain ⟨x6, hx5⟩ : ∃ z0, (l)[j]? = some z0 := ⟨_, List.getElem?_eq_getElem (by omega)⟩
    have hR8 : Fine (.ag (Pn.cS x6)) := hF1.row hx5 (Pn.encS_eq x6)
    have hF9 : Fine (.ls none (List.map Pn.encX x6.e.kids)) := hR8.at 18 rfl
    have hF9l := hF9.lenm
    have hF10 : Fine (.ls none (List.map Pn.encX x6.args)) := hR8.at 19 rfl
    have hF10l := hF10.lenm
    have hF11 : Fine (.ls none (List.map Pn.encS x6.body)) := hR8.at 20 rfl
    have hF11l := hF11.lenm
    have hF12 : Fine (.ls none (List.map Pn.encS x6.els)) := hR8.at 21 rfl
    have hF12l := hF12.lenm
    refine Wp.sr [.i (Pn.map_to hx5 (Pn.encS_eq x6))] ?_
    refine Wp.sr [.c (IH x6 (List.mem_of_getElem? hx5))] ?_
    refine Wp.cd (!(Pn.rightSD Wd.nameB rtT p x6 d)) (fun h13 => ?_) (fun h13 => ?_)
    · have h13 : ¬ ((Pn.rightSD Wd.nameB rtT p x6 d) = true) := by simpa using h13
      refine Wp.sr [] ?_
      refine Wp.ret ?_
      refine ⟨rfl, ?_⟩
      refine ⟨rfl, ?_⟩
      refine ⟨rfl, ?_⟩
      refine fin_r (.sc (.bool false)) ?_
      rw [Pn.all_false hx5 (by simp [h3, h13])]
    · have h13 : ((Pn.rightSD Wd.nameB rtT p x6 d) = true) := by simpa using h13
      refine Wp.skip ?_
      refine Wp.rg [.z (int_add (x := ((j : Nat) : Int)) (y := 1) (z := (((j + 1) : Nat) : Int)) (by omega) (by omega) (by omega))] ?_
      refine ⟨(j + 1), .rf, ?_, ?_⟩
      · exact ⟨Pn.len_lt hx5, Pn.all_next hx5 htj (by simp [h3, h13])⟩
      · simp only; omega
  · have h3 := of_decide_eq_false h3
    refine Wp.exit ?_
    refine ⟨rfl, ?_⟩
    refine ⟨rfl, ?_⟩
    refine Wp.sr [] ?_
    refine Wp.ret ?_
    refine fin_r (.sc (.bool true)) ?_
    rw [Pn.all_end htj (by assumption)]

theorem right8p_step (x : Pn.Sm) (p d : Int) (hd : d ≤ 20) (hf : Pn.fitS x = true) (IH : ∀ l, (l = x.body ∨ l = x.els) → PCalls Tryz.prog 166 [(.ls none (List.map Pn.encS l)), (.sc (.int .i64 p)), (.sc (.int .i64 (d - 1)))] (.sc (.bool (l.all (fun y => Pn.rightSD Wd.nameB rtT p y (d - 1)))))) : PCalls Tryz.prog 145 [(.ag (Pn.cS x)), (.sc (.int .i64 p)), (.sc (.int .i64 d))] (.sc (.bool (Pn.rightSD Wd.nameB rtT p x d))) := by
  refine pcalls_fine fun hfa => ?_
  have hR1 := hfa 0 _ rfl
  have hF2 : Fine (.ls none (List.map Pn.encX x.e.kids)) := hR1.at 18 rfl
  have hF2l := hF2.lenm
  have hF3 : Fine (.ls none (List.map Pn.encX x.args)) := hR1.at 19 rfl
  have hF3l := hF3.lenm
  have hF4 : Fine (.ls none (List.map Pn.encS x.body)) := hR1.at 20 rfl
  have hF4l := hF4.lenm
  have hF5 : Fine (.ls none (List.map Pn.encS x.els)) := hR1.at 21 rfl
  have hF5l := hF5.lenm
  refine pcalls_rf mixed Tryz.func145 rfl ?_
  refine Wp.sr [] ?_
  by_cases h6 : (d : Int) > 0
  · skip
    by_cases h7 : (Pn.partsB Wd.nameB rtT x p) = true
    · skip
      by_cases h8 : (Pn.nothB (Pn.blankS x)) = true
      · skip
        by_cases h9 : (x.body.all (fun y => Pn.rightSD Wd.nameB rtT p y (d - 1))) = true
        · skip
          refine Wp.sr [.g (show (decide ((d : Int) > 0)) = true from (by simp [h6])), .c (parts8p x p hf), .g (show (Pn.partsB Wd.nameB rtT x p) = true from (by exact h7)), .c (by have h := rest8p x; rw [Pn.encS_eq (Pn.blankS x)] at h; exact h), .c (nothing8p (Pn.blankS x)), .g (show (Pn.nothB (Pn.blankS x)) = true from (by exact h8)), .z (int_sub (x := d) (y := 1) (z := (d - 1)) (by omega) (by omega) (by omega)), .c (IH x.body (.inl rfl)), .g (show (x.body.all (fun y => Pn.rightSD Wd.nameB rtT p y (d - 1))) = true from (by exact h9)), .z (int_sub (x := d) (y := 1) (z := (d - 1)) (by omega) (by omega) (by omega)), .c (IH x.els (.inr rfl))] ?_
          refine Wp.ret ?_
          refine fin_r (.sc (.bool (x.els.all (fun y => Pn.rightSD Wd.nameB rtT p y (d - 1))))) ?_
          rw [Pn.rightSD_eq]
          first
            | (simp [h6, h7, h8, h9]; done)
            | (have hh : ¬ d > 0 := (by omega); simp [hh]; done)
            | (simp only [h6, h7, h8, h9, Bool.and_true, Bool.and_false, Bool.true_and, Bool.false_and, decide_true]; done)
        · skip
          refine Wp.sr [.g (show (decide ((d : Int) > 0)) = true from (by simp [h6])), .c (parts8p x p hf), .g (show (Pn.partsB Wd.nameB rtT x p) = true from (by exact h7)), .c (by have h := rest8p x; rw [Pn.encS_eq (Pn.blankS x)] at h; exact h), .c (nothing8p (Pn.blankS x)), .g (show (Pn.nothB (Pn.blankS x)) = true from (by exact h8)), .z (int_sub (x := d) (y := 1) (z := (d - 1)) (by omega) (by omega) (by omega)), .c (IH x.body (.inl rfl)), .g (show (x.body.all (fun y => Pn.rightSD Wd.nameB rtT p y (d - 1))) = false from (by exact (eq_false_of_ne_true h9)))] ?_
          refine Wp.ret ?_
          refine fin_r (.sc (.bool false)) ?_
          rw [Pn.rightSD_eq]
          first
            | (simp [h6, h7, h8, h9]; done)
            | (have hh : ¬ d > 0 := (by omega); simp [hh]; done)
            | (simp only [h6, h7, h8, h9, Bool.and_true, Bool.and_false, Bool.true_and, Bool.false_and, decide_true]; done)
      · skip
        refine Wp.sr [.g (show (decide ((d : Int) > 0)) = true from (by simp [h6])), .c (parts8p x p hf), .g (show (Pn.partsB Wd.nameB rtT x p) = true from (by exact h7)), .c (by have h := rest8p x; rw [Pn.encS_eq (Pn.blankS x)] at h; exact h), .c (nothing8p (Pn.blankS x)), .g (show (Pn.nothB (Pn.blankS x)) = false from (by exact (eq_false_of_ne_true h8))), .g gF] ?_
        refine Wp.ret ?_
        refine fin_r (.sc (.bool false)) ?_
        rw [Pn.rightSD_eq]
        first
          | (simp [h6, h7, h8]; done)
          | (have hh : ¬ d > 0 := (by omega); simp [hh]; done)
          | (simp only [h6, h7, h8, Bool.and_true, Bool.and_false, Bool.true_and, Bool.false_and, decide_true]; done)
    · skip
      refine Wp.sr [.g (show (decide ((d : Int) > 0)) = true from (by simp [h6])), .c (parts8p x p hf), .g (show (Pn.partsB Wd.nameB rtT x p) = false from (by exact (eq_false_of_ne_true h7))), .g gF, .g gF] ?_
      refine Wp.ret ?_
      refine fin_r (.sc (.bool false)) ?_
      rw [Pn.rightSD_eq]
      first
        | (simp [h6, h7]; done)
        | (have hh : ¬ d > 0 := (by omega); simp [hh]; done)
        | (simp only [h6, h7, Bool.and_true, Bool.and_false, Bool.true_and, Bool.false_and, decide_true]; done)
  · skip
    refine Wp.sr [.g (show (decide ((d : Int) > 0)) = false from (by simp [h6])), .g gF, .g gF, .g gF] ?_
    refine Wp.ret ?_
    refine fin_r (.sc (.bool false)) ?_
    rw [Pn.rightSD_eq]
    first
      | (simp [h6]; done)
      | (have hh : ¬ d > 0 := (by omega); simp [hh]; done)
      | (simp only [h6, Bool.and_true, Bool.and_false, Bool.true_and, Bool.false_and, decide_true]; done)

theorem right8p (x : Pn.Sm) (p d : Int) (hd : d ≤ 20) (hf : Pn.fitS x = true) : PCalls Tryz.prog 145 [(.ag (Pn.cS x)), (.sc (.int .i64 p)), (.sc (.int .i64 d))] (.sc (.bool (Pn.rightSD Wd.nameB rtT p x d))) := by
  have key : ∀ n (x : Pn.Sm) (d : Int), d ≤ 20 → Pn.fitS x = true → Pn.cntS x ≤ n → PCalls Tryz.prog 145 [(.ag (Pn.cS x)), (.sc (.int .i64 p)), (.sc (.int .i64 d))] (.sc (.bool (Pn.rightSD Wd.nameB rtT p x d))) := by
    intro n
    induction n with
    | zero => intro x d _ _ h; rw [Pn.cntS_eq] at h; omega
    | succ n ih =>
      intro x d hd hf h
      rw [Pn.cntS_eq] at h
      refine right8p_step x p d hd hf fun l hl => allRight8p_step l p (d - 1) fun y hy => ih y (d - 1) (by omega) ?_ ?_
      · rcases hl with rfl | rfl
        · exact Pn.fitSs_in (Pn.fitS_body hf) hy
        · exact Pn.fitSs_in (Pn.fitS_els hf) hy
      · have h1 := Pn.cntS_in hy
        rcases hl with rfl | rfl <;> omega
  exact key _ x d hd hf (Nat.le_refl _)

theorem Right8p (x : Pn.Sm) (p : Int) (hf : Pn.fitS x = true) : PCalls Tryz.prog 125 [(.ag (Pn.cS x)), (.sc (.int .i64 p))] (.sc (.bool (Pn.rightS Wd.nameB rtT p x))) := by
  refine pcalls_fine fun hfa => ?_
  have hR1 := hfa 0 _ rfl
  have hF2 : Fine (.ls none (List.map Pn.encX x.e.kids)) := hR1.at 18 rfl
  have hF2l := hF2.lenm
  have hF3 : Fine (.ls none (List.map Pn.encX x.args)) := hR1.at 19 rfl
  have hF3l := hF3.lenm
  have hF4 : Fine (.ls none (List.map Pn.encS x.body)) := hR1.at 20 rfl
  have hF4l := hF4.lenm
  have hF5 : Fine (.ls none (List.map Pn.encS x.els)) := hR1.at 21 rfl
  have hF5l := hF5.lenm
  refine pcalls_rf mixed Tryz.func125 rfl ?_
  refine Wp.sr [] ?_
  refine Wp.sr [.c (right8p x p 20 (by omega) hf)] ?_
  refine Wp.ret ?_
  refine fin_r (.sc (.bool (Pn.rightSD Wd.nameB rtT p x 20))) ?_
  rw [Pn.rightSD_right]
end Go.Proofs.YtjghgpmkepfdhaaGreatDoor
namespace Go.Proofs.YtjghgpmkepfdhaaGreatDoor
open Go.RowKit
set_option linter.unusedVariables false
set_option linter.unusedSimpArgs false
set_option maxRecDepth 100000
set_option maxHeartbeats 4000000
theorem PtXPa2.en88 : ∀ vs w, (callFunc 88 vs).run Tryz.prog w = .ok (.enter 88 vs) w := fun vs w => run_enter Tryz.func88 (by kernel_rfl) rfl vs w
theorem indexSt (G : Nat) (fs cs : List AV) (hen : ∀ vs w, (callFunc G vs).run Tryz.prog w = .ok (.enter G vs) w) (l : List ByteArray) (C : ByteArray → Bool) (H : ∀ x ∈ l, PCalls Tryz.prog G (fs ++ [(.sc (.string x))] ++ cs) (.sc (.bool (C x)))) : PCalls Tryz.prog 116 [(.ls none (List.map Pn.encStr l)), (.fn (.func G) fs cs)] (.sc (.int .i64 (Pn.idx C l))) := by
  refine pcalls_fine fun hfa => ?_
  have hF1 := hfa 0 _ rfl
  have hF1l := hF1.lenm
  refine pcalls_rf mixed Tryz.func116 rfl ?_
  refine Wp.sr [] ?_
  refine Wp.seq ?_
  refine Wp.sr [.n (lenm Pn.encStr l)] ?_
  refine Wp.block ?_
  refine Wp.lp (α := (Nat)) (fun | j => ⟨mk 19 [(0, (.ls none (List.map Pn.encStr l))), (1, (.fn (.func G) fs cs)), (7, (.sc (.int .i64 ((l.length : Nat) : Int)))), (8, (.sc (.int .i64 ((j : Nat) : Int))))], [], y0⟩) (fun | j => j ≤ l.length ∧ (l.take j).any C = false) (fun | j => l.length - j) 0 ?_ ?_
  · exact ⟨Nat.zero_le _, by simp⟩
  rintro j hv2
  obtain ⟨hlj, htj⟩ := hv2
  refine Wp.sr [] ?_
  refine Wp.seq ?_
  refine Wp.cd (decide ((((j : Nat) : Int) : Int) < ((l.length : Nat) : Int))) (fun h3 => ?_) (fun h3 => ?_)
  · have h3 := of_decide_eq_true h3
    refine Wp.skip ?_
    refine Wp.seq ?_
    refine Wp.block ?_
    refine Wp.sr [] ?_
    obtain ⟨x6, hx5⟩ : ∃ z0, (l)[j]? = some z0 := ⟨_, List.getElem?_eq_getElem (by omega)⟩
    refine Wp.sr [.i (map_get Pn.encStr hx5), .cv hen (H x6 (List.mem_of_getElem? hx5))] ?_
    refine Wp.cd (C x6) (fun h8 => ?_) (fun h8 => ?_)
    · skip
      refine Wp.sr [] ?_
      refine Wp.ret ?_
      refine ⟨rfl, ?_⟩
      refine ⟨rfl, ?_⟩
      refine ⟨rfl, ?_⟩
      refine fin_r (.sc (.int .i64 ((j : Nat) : Int))) ?_
      rw [Pn.idx_hit htj hx5 (by simp [h3, h8])]
    · have h8 := Bool.eq_false_iff.1 h8
      refine Wp.skip ?_
      refine Wp.rg [.z (int_add (x := ((j : Nat) : Int)) (y := 1) (z := (((j + 1) : Nat) : Int)) (by omega) (by omega) (by omega))] ?_
      refine ⟨(j + 1), .rf, ?_, ?_⟩
      · exact ⟨Pn.len_lt hx5, Pn.any_next hx5 htj (by simp [h3, h8])⟩
      · simp only; omega
  · have h3 := of_decide_eq_false h3
    refine Wp.exit ?_
    refine ⟨rfl, ?_⟩
    refine ⟨rfl, ?_⟩
    refine Wp.sr [] ?_
    refine Wp.ret ?_
    refine fin_r (.sc (.int .i64 (-1))) ?_
    rw [Pn.idx_miss (Pn.any_end htj (by assumption))]

theorem containsSt (G : Nat) (fs cs : List AV) (hen : ∀ vs w, (callFunc G vs).run Tryz.prog w = .ok (.enter G vs) w) (l : List ByteArray) (C : ByteArray → Bool) (H : ∀ x ∈ l, PCalls Tryz.prog G (fs ++ [(.sc (.string x))] ++ cs) (.sc (.bool (C x)))) : PCalls Tryz.prog 87 [(.ls none (List.map Pn.encStr l)), (.fn (.func G) fs cs)] (.sc (.bool (l.any C))) := by
  refine pcalls_fine fun hfa => ?_
  have hF1 := hfa 0 _ rfl
  have hF1l := hF1.lenm
  refine pcalls_rf mixed Tryz.func87 rfl ?_
  refine Wp.sr [] ?_
  refine Wp.sr [.c (indexSt G fs cs hen l C H)] ?_
  refine Wp.ret ?_
  refine fin_r (.sc (.bool (decide (((Pn.idx C l) : Int) ≥ 0)))) ?_
  rw [Pn.idx_ge]

theorem allfSt (G : Nat) (fs cs : List AV) (hen : ∀ vs w, (callFunc G vs).run Tryz.prog w = .ok (.enter G vs) w) (x : ByteArray) (C : ByteArray → Bool) (H : PCalls Tryz.prog G (fs ++ [(.sc (.string x))] ++ cs) (.sc (.bool (C x)))) : PCalls Tryz.prog 88 [(.sc (.string x)), (.pr [(.fn (.func G) fs cs)])] (.sc (.bool (!(C x)))) := by
  refine pcalls_rf mixed Tryz.func88 rfl ?_
  refine Wp.sr [] ?_
  refine Wp.sr [.cv hen H] ?_
  refine Wp.ret ?_
  refine fin_r (.sc (.bool (!(C x)))) ?_
  rfl

theorem allSt (G : Nat) (fs cs : List AV) (hen : ∀ vs w, (callFunc G vs).run Tryz.prog w = .ok (.enter G vs) w) (l : List ByteArray) (C : ByteArray → Bool) (H : ∀ x ∈ l, PCalls Tryz.prog G (fs ++ [(.sc (.string x))] ++ cs) (.sc (.bool (C x)))) : PCalls Tryz.prog 49 [(.ls none (List.map Pn.encStr l)), (.fn (.func G) fs cs)] (.sc (.bool (l.all C))) := by
  refine pcalls_fine fun hfa => ?_
  have hF1 := hfa 0 _ rfl
  have hF1l := hF1.lenm
  refine pcalls_rf mixed Tryz.func49 rfl ?_
  refine Wp.sr [] ?_
  refine Wp.sr [.c (containsSt 88 [] [(.pr [(.fn (.func G) fs cs)])] PtXPa2.en88 l (fun x => !(C x)) (fun x hx => allfSt G fs cs hen x C (H x hx)))] ?_
  refine Wp.ret ?_
  refine fin_r (.sc (.bool (!(l.any (fun x => !(C x)))))) ?_
  rw [Pn.any_not]
end Go.Proofs.YtjghgpmkepfdhaaGreatDoor
namespace Go.Proofs.YtjghgpmkepfdhaaGreatDoor
open Go.RowKit
set_option linter.unusedVariables false
set_option linter.unusedSimpArgs false
set_option maxRecDepth 100000
set_option maxHeartbeats 4000000
theorem PtXPa3.en118 : ∀ vs w, (callFunc 118 vs).run Tryz.prog w = .ok (.enter 118 vs) w := fun vs w => run_enter Tryz.func118 (by kernel_rfl) rfl vs w
theorem indexOw (G : Nat) (fs cs : List AV) (hen : ∀ vs w, (callFunc G vs).run Tryz.prog w = .ok (.enter G vs) w) (l : List Pn.Ow) (C : Pn.Ow → Bool) (H : ∀ x ∈ l, PCalls Tryz.prog G (fs ++ [(.ag (Pn.cOw x))] ++ cs) (.sc (.bool (C x)))) : PCalls Tryz.prog 142 [(.ls none (List.map Pn.encOw l)), (.fn (.func G) fs cs)] (.sc (.int .i64 (Pn.idx C l))) := by
  refine pcalls_fine fun hfa => ?_
  have hF1 := hfa 0 _ rfl
  have hF1l := hF1.lenm
  refine pcalls_rf mixed Tryz.func142 rfl ?_
  refine Wp.sr [] ?_
  refine Wp.seq ?_
  refine Wp.sr [.n (lenm Pn.encOw l)] ?_
  refine Wp.block ?_
  refine Wp.lp (α := (Nat)) (fun | j => ⟨mk 19 [(0, (.ls none (List.map Pn.encOw l))), (1, (.fn (.func G) fs cs)), (7, (.sc (.int .i64 ((l.length : Nat) : Int)))), (8, (.sc (.int .i64 ((j : Nat) : Int))))], [], y0⟩) (fun | j => j ≤ l.length ∧ (l.take j).any C = false) (fun | j => l.length - j) 0 ?_ ?_
  · exact ⟨Nat.zero_le _, by simp⟩
  rintro j hv2
  obtain ⟨hlj, htj⟩ := hv2
  refine Wp.sr [] ?_
  refine Wp.seq ?_
  refine Wp.cd (decide ((((j : Nat) : Int) : Int) < ((l.length : Nat) : Int))) (fun h3 => ?_) (fun h3 => ?_)
  · have h3 := of_decide_eq_true h3
    refine Wp.skip ?_
    refine Wp.seq ?_
    refine Wp.block ?_
    refine Wp.sr [] ?_
    obtain ⟨x6, hx5⟩ : ∃ z0, (l)[j]? = some z0 := ⟨_, List.getElem?_eq_getElem (by omega)⟩
    refine Wp.sr [.i (map_get Pn.encOw hx5), .cv hen (H x6 (List.mem_of_getElem? hx5))] ?_
    refine Wp.cd (C x6) (fun h8 => ?_) (fun h8 => ?_)
    · skip
      refine Wp.sr [] ?_
      refine Wp.ret ?_
      refine ⟨rfl, ?_⟩
      refine ⟨rfl, ?_⟩
      refine ⟨rfl, ?_⟩
      refine fin_r (.sc (.int .i64 ((j : Nat) : Int))) ?_
      rw [Pn.idx_hit htj hx5 (by simp [h3, h8])]
    · have h8 := Bool.eq_false_iff.1 h8
      refine Wp.skip ?_
      refine Wp.rg [.z (int_add (x := ((j : Nat) : Int)) (y := 1) (z := (((j + 1) : Nat) : Int)) (by omega) (by omega) (by omega))] ?_
      refine ⟨(j + 1), .rf, ?_, ?_⟩
      · exact ⟨Pn.len_lt hx5, Pn.any_next hx5 htj (by simp [h3, h8])⟩
      · simp only; omega
  · have h3 := of_decide_eq_false h3
    refine Wp.exit ?_
    refine ⟨rfl, ?_⟩
    refine ⟨rfl, ?_⟩
    refine Wp.sr [] ?_
    refine Wp.ret ?_
    refine fin_r (.sc (.int .i64 (-1))) ?_
    rw [Pn.idx_miss (Pn.any_end htj (by assumption))]

theorem containsOw (G : Nat) (fs cs : List AV) (hen : ∀ vs w, (callFunc G vs).run Tryz.prog w = .ok (.enter G vs) w) (l : List Pn.Ow) (C : Pn.Ow → Bool) (H : ∀ x ∈ l, PCalls Tryz.prog G (fs ++ [(.ag (Pn.cOw x))] ++ cs) (.sc (.bool (C x)))) : PCalls Tryz.prog 117 [(.ls none (List.map Pn.encOw l)), (.fn (.func G) fs cs)] (.sc (.bool (l.any C))) := by
  refine pcalls_fine fun hfa => ?_
  have hF1 := hfa 0 _ rfl
  have hF1l := hF1.lenm
  refine pcalls_rf mixed Tryz.func117 rfl ?_
  refine Wp.sr [] ?_
  refine Wp.sr [.c (indexOw G fs cs hen l C H)] ?_
  refine Wp.ret ?_
  refine fin_r (.sc (.bool (decide (((Pn.idx C l) : Int) ≥ 0)))) ?_
  rw [Pn.idx_ge]

theorem allfOw (G : Nat) (fs cs : List AV) (hen : ∀ vs w, (callFunc G vs).run Tryz.prog w = .ok (.enter G vs) w) (x : Pn.Ow) (C : Pn.Ow → Bool) (H : PCalls Tryz.prog G (fs ++ [(.ag (Pn.cOw x))] ++ cs) (.sc (.bool (C x)))) : PCalls Tryz.prog 118 [(.ag (Pn.cOw x)), (.pr [(.fn (.func G) fs cs)])] (.sc (.bool (!(C x)))) := by
  refine pcalls_rf mixed Tryz.func118 rfl ?_
  refine Wp.sr [] ?_
  refine Wp.sr [.cv hen H] ?_
  refine Wp.ret ?_
  refine fin_r (.sc (.bool (!(C x)))) ?_
  rfl

theorem allOw (G : Nat) (fs cs : List AV) (hen : ∀ vs w, (callFunc G vs).run Tryz.prog w = .ok (.enter G vs) w) (l : List Pn.Ow) (C : Pn.Ow → Bool) (H : ∀ x ∈ l, PCalls Tryz.prog G (fs ++ [(.ag (Pn.cOw x))] ++ cs) (.sc (.bool (C x)))) : PCalls Tryz.prog 89 [(.ls none (List.map Pn.encOw l)), (.fn (.func G) fs cs)] (.sc (.bool (l.all C))) := by
  refine pcalls_fine fun hfa => ?_
  have hF1 := hfa 0 _ rfl
  have hF1l := hF1.lenm
  refine pcalls_rf mixed Tryz.func89 rfl ?_
  refine Wp.sr [] ?_
  refine Wp.sr [.c (containsOw 118 [] [(.pr [(.fn (.func G) fs cs)])] PtXPa3.en118 l (fun x => !(C x)) (fun x hx => allfOw G fs cs hen x C (H x hx)))] ?_
  refine Wp.ret ?_
  refine fin_r (.sc (.bool (!(l.any (fun x => !(C x)))))) ?_
  rw [Pn.any_not]
end Go.Proofs.YtjghgpmkepfdhaaGreatDoor
namespace Go.Proofs.YtjghgpmkepfdhaaGreatDoor
open Go.RowKit
set_option linter.unusedVariables false
set_option linter.unusedSimpArgs false
set_option maxRecDepth 100000
set_option maxHeartbeats 4000000
theorem PtXPa4.en92 : ∀ vs w, (callFunc 92 vs).run Tryz.prog w = .ok (.enter 92 vs) w := fun vs w => run_enter Tryz.func92 (by kernel_rfl) rfl vs w
theorem indexVr (G : Nat) (fs cs : List AV) (hen : ∀ vs w, (callFunc G vs).run Tryz.prog w = .ok (.enter G vs) w) (l : List Pn.Vr) (C : Pn.Vr → Bool) (H : ∀ x ∈ l, PCalls Tryz.prog G (fs ++ [(.ag (Pn.cVr x))] ++ cs) (.sc (.bool (C x)))) : PCalls Tryz.prog 120 [(.ls none (List.map Pn.encVr l)), (.fn (.func G) fs cs)] (.sc (.int .i64 (Pn.idx C l))) := by
  refine pcalls_fine fun hfa => ?_
  have hF1 := hfa 0 _ rfl
  have hF1l := hF1.lenm
  refine pcalls_rf mixed Tryz.func120 rfl ?_
  refine Wp.sr [] ?_
  refine Wp.seq ?_
  refine Wp.sr [.n (lenm Pn.encVr l)] ?_
  refine Wp.block ?_
  refine Wp.lp (α := (Nat)) (fun | j => ⟨mk 19 [(0, (.ls none (List.map Pn.encVr l))), (1, (.fn (.func G) fs cs)), (7, (.sc (.int .i64 ((l.length : Nat) : Int)))), (8, (.sc (.int .i64 ((j : Nat) : Int))))], [], y0⟩) (fun | j => j ≤ l.length ∧ (l.take j).any C = false) (fun | j => l.length - j) 0 ?_ ?_
  · exact ⟨Nat.zero_le _, by simp⟩
  rintro j hv2
  obtain ⟨hlj, htj⟩ := hv2
  refine Wp.sr [] ?_
  refine Wp.seq ?_
  refine Wp.cd (decide ((((j : Nat) : Int) : Int) < ((l.length : Nat) : Int))) (fun h3 => ?_) (fun h3 => ?_)
  · have h3 := of_decide_eq_true h3
    refine Wp.skip ?_
    refine Wp.seq ?_
    refine Wp.block ?_
    refine Wp.sr [] ?_
    obtain ⟨x6, hx5⟩ : ∃ z0, (l)[j]? = some z0 := ⟨_, List.getElem?_eq_getElem (by omega)⟩
    refine Wp.sr [.i (map_get Pn.encVr hx5), .cv hen (H x6 (List.mem_of_getElem? hx5))] ?_
    refine Wp.cd (C x6) (fun h8 => ?_) (fun h8 => ?_)
    · skip
      refine Wp.sr [] ?_
      refine Wp.ret ?_
      refine ⟨rfl, ?_⟩
      refine ⟨rfl, ?_⟩
      refine ⟨rfl, ?_⟩
      refine fin_r (.sc (.int .i64 ((j : Nat) : Int))) ?_
      rw [Pn.idx_hit htj hx5 (by simp [h3, h8])]
    · have h8 := Bool.eq_false_iff.1 h8
      refine Wp.skip ?_
      refine Wp.rg [.z (int_add (x := ((j : Nat) : Int)) (y := 1) (z := (((j + 1) : Nat) : Int)) (by omega) (by omega) (by omega))] ?_
      refine ⟨(j + 1), .rf, ?_, ?_⟩
      · exact ⟨Pn.len_lt hx5, Pn.any_next hx5 htj (by simp [h3, h8])⟩
      · simp only; omega
  · have h3 := of_decide_eq_false h3
    refine Wp.exit ?_
    refine ⟨rfl, ?_⟩
    refine ⟨rfl, ?_⟩
    refine Wp.sr [] ?_
    refine Wp.ret ?_
    refine fin_r (.sc (.int .i64 (-1))) ?_
    rw [Pn.idx_miss (Pn.any_end htj (by assumption))]

theorem containsVr (G : Nat) (fs cs : List AV) (hen : ∀ vs w, (callFunc G vs).run Tryz.prog w = .ok (.enter G vs) w) (l : List Pn.Vr) (C : Pn.Vr → Bool) (H : ∀ x ∈ l, PCalls Tryz.prog G (fs ++ [(.ag (Pn.cVr x))] ++ cs) (.sc (.bool (C x)))) : PCalls Tryz.prog 91 [(.ls none (List.map Pn.encVr l)), (.fn (.func G) fs cs)] (.sc (.bool (l.any C))) := by
  refine pcalls_fine fun hfa => ?_
  have hF1 := hfa 0 _ rfl
  have hF1l := hF1.lenm
  refine pcalls_rf mixed Tryz.func91 rfl ?_
  refine Wp.sr [] ?_
  refine Wp.sr [.c (indexVr G fs cs hen l C H)] ?_
  refine Wp.ret ?_
  refine fin_r (.sc (.bool (decide (((Pn.idx C l) : Int) ≥ 0)))) ?_
  rw [Pn.idx_ge]

theorem allfVr (G : Nat) (fs cs : List AV) (hen : ∀ vs w, (callFunc G vs).run Tryz.prog w = .ok (.enter G vs) w) (x : Pn.Vr) (C : Pn.Vr → Bool) (H : PCalls Tryz.prog G (fs ++ [(.ag (Pn.cVr x))] ++ cs) (.sc (.bool (C x)))) : PCalls Tryz.prog 92 [(.ag (Pn.cVr x)), (.pr [(.fn (.func G) fs cs)])] (.sc (.bool (!(C x)))) := by
  refine pcalls_rf mixed Tryz.func92 rfl ?_
  refine Wp.sr [] ?_
  refine Wp.sr [.cv hen H] ?_
  refine Wp.ret ?_
  refine fin_r (.sc (.bool (!(C x)))) ?_
  rfl

theorem allVr (G : Nat) (fs cs : List AV) (hen : ∀ vs w, (callFunc G vs).run Tryz.prog w = .ok (.enter G vs) w) (l : List Pn.Vr) (C : Pn.Vr → Bool) (H : ∀ x ∈ l, PCalls Tryz.prog G (fs ++ [(.ag (Pn.cVr x))] ++ cs) (.sc (.bool (C x)))) : PCalls Tryz.prog 51 [(.ls none (List.map Pn.encVr l)), (.fn (.func G) fs cs)] (.sc (.bool (l.all C))) := by
  refine pcalls_fine fun hfa => ?_
  have hF1 := hfa 0 _ rfl
  have hF1l := hF1.lenm
  refine pcalls_rf mixed Tryz.func51 rfl ?_
  refine Wp.sr [] ?_
  refine Wp.sr [.c (containsVr 92 [] [(.pr [(.fn (.func G) fs cs)])] PtXPa4.en92 l (fun x => !(C x)) (fun x hx => allfVr G fs cs hen x C (H x hx)))] ?_
  refine Wp.ret ?_
  refine fin_r (.sc (.bool (!(l.any (fun x => !(C x)))))) ?_
  rw [Pn.any_not]
end Go.Proofs.YtjghgpmkepfdhaaGreatDoor
namespace Go.Proofs.YtjghgpmkepfdhaaGreatDoor
open Go.RowKit
set_option linter.unusedVariables false
set_option linter.unusedSimpArgs false
set_option maxRecDepth 100000
set_option maxHeartbeats 4000000
theorem PtXPa6.en124 : ∀ vs w, (callFunc 124 vs).run Tryz.prog w = .ok (.enter 124 vs) w := fun vs w => run_enter Tryz.func124 (by kernel_rfl) rfl vs w
theorem indexSm (G : Nat) (fs cs : List AV) (hen : ∀ vs w, (callFunc G vs).run Tryz.prog w = .ok (.enter G vs) w) (l : List Pn.Sm) (C : Pn.Sm → Bool) (H : ∀ x ∈ l, PCalls Tryz.prog G (fs ++ [(.ag (Pn.cS x))] ++ cs) (.sc (.bool (C x)))) : PCalls Tryz.prog 144 [(.ls none (List.map Pn.encS l)), (.fn (.func G) fs cs)] (.sc (.int .i64 (Pn.idx C l))) := by
  refine pcalls_fine fun hfa => ?_
  have hF1 := hfa 0 _ rfl
  have hF1l := hF1.lenm
  refine pcalls_rf mixed Tryz.func144 rfl ?_
  refine Wp.sr [] ?_
  refine Wp.seq ?_
  refine Wp.sr [.n (lenm Pn.encS l)] ?_
  refine Wp.block ?_
  refine Wp.lp (α := (Nat)) (fun | j => ⟨mk 19 [(0, (.ls none (List.map Pn.encS l))), (1, (.fn (.func G) fs cs)), (7, (.sc (.int .i64 ((l.length : Nat) : Int)))), (8, (.sc (.int .i64 ((j : Nat) : Int))))], [], y0⟩) (fun | j => j ≤ l.length ∧ (l.take j).any C = false) (fun | j => l.length - j) 0 ?_ ?_
  · exact ⟨Nat.zero_le _, by simp⟩
  rintro j hv2
  obtain ⟨hlj, htj⟩ := hv2
  refine Wp.sr [] ?_
  refine Wp.seq ?_
  refine Wp.cd (decide ((((j : Nat) : Int) : Int) < ((l.length : Nat) : Int))) (fun h3 => ?_) (fun h3 => ?_)
  · have h3 := of_decide_eq_true h3
    refine Wp.skip ?_
    refine Wp.seq ?_
    refine Wp.block ?_
    refine Wp.sr [] ?_
    obtain ⟨x6, hx5⟩ : ∃ z0, (l)[j]? = some z0 := ⟨_, List.getElem?_eq_getElem (by omega)⟩
    have hR8 : Fine (.ag (Pn.cS x6)) := hF1.row hx5 (Pn.encS_eq x6)
    have hF9 : Fine (.ls none (List.map Pn.encX x6.e.kids)) := hR8.at 18 rfl
    have hF9l := hF9.lenm
    have hF10 : Fine (.ls none (List.map Pn.encX x6.args)) := hR8.at 19 rfl
    have hF10l := hF10.lenm
    have hF11 : Fine (.ls none (List.map Pn.encS x6.body)) := hR8.at 20 rfl
    have hF11l := hF11.lenm
    have hF12 : Fine (.ls none (List.map Pn.encS x6.els)) := hR8.at 21 rfl
    have hF12l := hF12.lenm
    refine Wp.sr [.i (Pn.map_to hx5 (Pn.encS_eq x6)), .cv hen (H x6 (List.mem_of_getElem? hx5))] ?_
    refine Wp.cd (C x6) (fun h13 => ?_) (fun h13 => ?_)
    · skip
      refine Wp.sr [] ?_
      refine Wp.ret ?_
      refine ⟨rfl, ?_⟩
      refine ⟨rfl, ?_⟩
      refine ⟨rfl, ?_⟩
      refine fin_r (.sc (.int .i64 ((j : Nat) : Int))) ?_
      rw [Pn.idx_hit htj hx5 (by simp [h3, h13])]
    · have h13 := Bool.eq_false_iff.1 h13
      refine Wp.skip ?_
      refine Wp.rg [.z (int_add (x := ((j : Nat) : Int)) (y := 1) (z := (((j + 1) : Nat) : Int)) (by omega) (by omega) (by omega))] ?_
      refine ⟨(j + 1), .rf, ?_, ?_⟩
      · exact ⟨Pn.len_lt hx5, Pn.any_next hx5 htj (by simp [h3, h13])⟩
      · simp only; omega
  · have h3 := of_decide_eq_false h3
    refine Wp.exit ?_
    refine ⟨rfl, ?_⟩
    refine ⟨rfl, ?_⟩
    refine Wp.sr [] ?_
    refine Wp.ret ?_
    refine fin_r (.sc (.int .i64 (-1))) ?_
    rw [Pn.idx_miss (Pn.any_end htj (by assumption))]

theorem containsSm (G : Nat) (fs cs : List AV) (hen : ∀ vs w, (callFunc G vs).run Tryz.prog w = .ok (.enter G vs) w) (l : List Pn.Sm) (C : Pn.Sm → Bool) (H : ∀ x ∈ l, PCalls Tryz.prog G (fs ++ [(.ag (Pn.cS x))] ++ cs) (.sc (.bool (C x)))) : PCalls Tryz.prog 123 [(.ls none (List.map Pn.encS l)), (.fn (.func G) fs cs)] (.sc (.bool (l.any C))) := by
  refine pcalls_fine fun hfa => ?_
  have hF1 := hfa 0 _ rfl
  have hF1l := hF1.lenm
  refine pcalls_rf mixed Tryz.func123 rfl ?_
  refine Wp.sr [] ?_
  refine Wp.sr [.c (indexSm G fs cs hen l C H)] ?_
  refine Wp.ret ?_
  refine fin_r (.sc (.bool (decide (((Pn.idx C l) : Int) ≥ 0)))) ?_
  rw [Pn.idx_ge]

theorem allfSm (G : Nat) (fs cs : List AV) (hen : ∀ vs w, (callFunc G vs).run Tryz.prog w = .ok (.enter G vs) w) (x : Pn.Sm) (C : Pn.Sm → Bool) (H : PCalls Tryz.prog G (fs ++ [(.ag (Pn.cS x))] ++ cs) (.sc (.bool (C x)))) : PCalls Tryz.prog 124 [(.ag (Pn.cS x)), (.pr [(.fn (.func G) fs cs)])] (.sc (.bool (!(C x)))) := by
  refine pcalls_fine fun hfa => ?_
  have hR1 := hfa 0 _ rfl
  have hF2 : Fine (.ls none (List.map Pn.encX x.e.kids)) := hR1.at 18 rfl
  have hF2l := hF2.lenm
  have hF3 : Fine (.ls none (List.map Pn.encX x.args)) := hR1.at 19 rfl
  have hF3l := hF3.lenm
  have hF4 : Fine (.ls none (List.map Pn.encS x.body)) := hR1.at 20 rfl
  have hF4l := hF4.lenm
  have hF5 : Fine (.ls none (List.map Pn.encS x.els)) := hR1.at 21 rfl
  have hF5l := hF5.lenm
  refine pcalls_rf mixed Tryz.func124 rfl ?_
  refine Wp.sr [] ?_
  refine Wp.sr [.cv hen H] ?_
  refine Wp.ret ?_
  refine fin_r (.sc (.bool (!(C x)))) ?_
  rfl

theorem allSm (G : Nat) (fs cs : List AV) (hen : ∀ vs w, (callFunc G vs).run Tryz.prog w = .ok (.enter G vs) w) (l : List Pn.Sm) (C : Pn.Sm → Bool) (H : ∀ x ∈ l, PCalls Tryz.prog G (fs ++ [(.ag (Pn.cS x))] ++ cs) (.sc (.bool (C x)))) : PCalls Tryz.prog 96 [(.ls none (List.map Pn.encS l)), (.fn (.func G) fs cs)] (.sc (.bool (l.all C))) := by
  refine pcalls_fine fun hfa => ?_
  have hF1 := hfa 0 _ rfl
  have hF1l := hF1.lenm
  refine pcalls_rf mixed Tryz.func96 rfl ?_
  refine Wp.sr [] ?_
  refine Wp.sr [.c (containsSm 124 [] [(.pr [(.fn (.func G) fs cs)])] PtXPa6.en124 l (fun x => !(C x)) (fun x hx => allfSm G fs cs hen x C (H x hx)))] ?_
  refine Wp.ret ?_
  refine fin_r (.sc (.bool (!(l.any (fun x => !(C x)))))) ?_
  rw [Pn.any_not]
end Go.Proofs.YtjghgpmkepfdhaaGreatDoor
namespace Go.Proofs.YtjghgpmkepfdhaaGreatDoor
open Go.RowKit
set_option linter.unusedVariables false
set_option linter.unusedSimpArgs false
set_option maxRecDepth 100000
set_option maxHeartbeats 4000000
theorem PtXPar.en52 : ∀ vs w, (callFunc 52 vs).run Tryz.prog w = .ok (.enter 52 vs) w := fun vs w => run_enter Tryz.func52 (by kernel_rfl) rfl vs w
theorem PtXPar.en90 : ∀ vs w, (callFunc 90 vs).run Tryz.prog w = .ok (.enter 90 vs) w := fun vs w => run_enter Tryz.func90 (by kernel_rfl) rfl vs w
theorem PtXPar.en97 : ∀ vs w, (callFunc 97 vs).run Tryz.prog w = .ok (.enter 97 vs) w := fun vs w => run_enter Tryz.func97 (by kernel_rfl) rfl vs w
theorem ownerRight10 (o : Pn.Ow) (n : Int) : PCalls Tryz.prog 90 [(.sc (.int .i64 n)), (.ag (Pn.cOw o))] (.sc (.bool (Pn.owG roO n o))) := by
  refine pcalls_rf mixed Tryz.func90 rfl ?_
  refine Wp.sr [] ?_
  refine Wp.sr [.c (oright_p o n)] ?_
  refine Wp.ret ?_
  refine fin_r (.sc (.bool ((((decide ((o.kind : Int) = 2)) || (decide ((o.kind : Int) = 3))) || (decide ((o.kind : Int) = 4))) && (roO o n)))) ?_
  unfold Pn.owG
  first
    | rfl
    | (simp only [Bool.false_xor]; done)
    | (simp only [Bool.false_xor, Bool.not_true, Bool.not_false]; done)
    | (simp [Bool.false_xor]; done)

theorem varRight10 (v : Pn.Vr) (n : Int) : PCalls Tryz.prog 52 [(.sc (.int .i64 n)), (.ag (Pn.cVr v))] (.sc (.bool (Pn.varG Wd.nameB rtT n v))) := by
  refine pcalls_rf mixed Tryz.func52 rfl ?_
  refine Wp.sr [] ?_
  refine Wp.sr [.c (name_p v.name), .c (kright_p v.type n)] ?_
  refine Wp.ret ?_
  refine fin_r (.sc (.bool (((Wd.nameB v.name) && (!decide ((v.type.kind : Int) = 0))) && (rtT v.type n)))) ?_
  unfold Pn.varG
  first
    | rfl
    | (simp only [Bool.false_xor]; done)
    | (simp only [Bool.false_xor, Bool.not_true, Bool.not_false]; done)
    | (simp [Bool.false_xor]; done)

theorem stmtRight10 (x : Pn.Sm) (n : Int) (hf : Pn.fitS x = true) : PCalls Tryz.prog 97 [(.sc (.int .i64 n)), (.ag (Pn.cS x))] (.sc (.bool (Pn.rightS Wd.nameB rtT n x))) := by
  refine pcalls_fine fun hfa => ?_
  have hR1 := hfa 1 _ rfl
  have hF2 : Fine (.ls none (List.map Pn.encX x.e.kids)) := hR1.at 18 rfl
  have hF2l := hF2.lenm
  have hF3 : Fine (.ls none (List.map Pn.encX x.args)) := hR1.at 19 rfl
  have hF3l := hF3.lenm
  have hF4 : Fine (.ls none (List.map Pn.encS x.body)) := hR1.at 20 rfl
  have hF4l := hF4.lenm
  have hF5 : Fine (.ls none (List.map Pn.encS x.els)) := hR1.at 21 rfl
  have hF5l := hF5.lenm
  refine pcalls_rf mixed Tryz.func97 rfl ?_
  refine Wp.sr [] ?_
  refine Wp.sr [.c (Right8p x n hf)] ?_
  refine Wp.ret ?_
  refine fin_r (.sc (.bool (Pn.rightS Wd.nameB rtT n x))) ?_
  rfl

theorem aboveRight10 (b : ByteArray) (l : List Pn.Ow) (n : Int) : PCalls Tryz.prog 50 [(.sc (.int .i64 n)), (.sc (.string b)), (.ls none (List.map Pn.encOw l))] (.sc (.bool (Pn.aboveG Wd.nameB roO n b l))) := by
  refine pcalls_fine fun hfa => ?_
  have hF1 := hfa 2 _ rfl
  have hF1l := hF1.lenm
  refine pcalls_rf mixed Tryz.func50 rfl ?_
  refine Wp.sr [] ?_
  refine Wp.seq ?_
  refine Wp.sr [] ?_
  refine Wp.cd (decide (b = (⟨#[]⟩ : ByteArray))) (fun h2 => ?_) (fun h2 => ?_)
  · have h2 := of_decide_eq_true h2
    refine Wp.sr [.n (lenm Pn.encOw l)] ?_
    refine Wp.ret ?_
    refine ⟨rfl, ?_⟩
    refine fin_r (.sc (.bool (decide ((((l.length : Nat) : Int) : Int) = 0)))) ?_
    unfold Pn.aboveG
    first
      | (simp [h2]; done)
      | (simp only [h2, if_true, if_false]; rfl)
  · have h2 := of_decide_eq_false h2
    refine Wp.skip ?_
    refine Wp.sr [.c (name_p b), .n (lenm Pn.encOw l), .c (allOw 90 [(.sc (.int .i64 n))] [] PtXPar.en90 l (fun o => Pn.owG roO n o) (fun x _ => ownerRight10 x n))] ?_
    refine Wp.ret ?_
    refine fin_r (.sc (.bool (((Wd.nameB b) && (decide ((((l.length : Nat) : Int) : Int) ≤ 3))) && (l.all (fun o => Pn.owG roO n o))))) ?_
    unfold Pn.aboveG
    first
      | (simp [h2]; done)
      | (simp only [h2, if_true, if_false]; rfl)

theorem methodRight10 (m : Pn.Me) (n : Int) (hf : Pn.fitSs m.body = true) : PCalls Tryz.prog 54 [(.sc (.int .i64 n)), (.ag (Pn.cMe m))] (.sc (.bool (Pn.methG Wd.nameB rtT n m))) := by
  refine pcalls_fine fun hfa => ?_
  have hR1 := hfa 1 _ rfl
  have hF2 : Fine (.ls none (List.map Pn.encVr m.params)) := hR1.at 13 rfl
  have hF2l := hF2.lenm
  have hF3 : Fine (.ls none (List.map Pn.encVr m.locals)) := hR1.at 14 rfl
  have hF3l := hF3.lenm
  have hF4 : Fine (.ls none (List.map Pn.encS m.body)) := hR1.at 15 rfl
  have hF4l := hF4.lenm
  refine pcalls_rf mixed Tryz.func54 rfl ?_
  refine Wp.sr [] ?_
  refine Wp.sr [.c (name_p m.name), .c (kright_p m.ret n), .c (allVr 52 [(.sc (.int .i64 n))] [] PtXPar.en52 m.params (fun v => Pn.varG Wd.nameB rtT n v) (fun x _ => varRight10 x n)), .c (allVr 52 [(.sc (.int .i64 n))] [] PtXPar.en52 m.locals (fun v => Pn.varG Wd.nameB rtT n v) (fun x _ => varRight10 x n)), .c (allSm 97 [(.sc (.int .i64 n))] [] PtXPar.en97 m.body (fun x => Pn.rightS Wd.nameB rtT n x) (fun x hx => stmtRight10 x n (Pn.fitSs_in hf hx)))] ?_
  refine Wp.ret ?_
  refine fin_r (.sc (.bool (((((Wd.nameB m.name) && (rtT m.ret n)) && (m.params.all (fun v => Pn.varG Wd.nameB rtT n v))) && (m.locals.all (fun v => Pn.varG Wd.nameB rtT n v))) && (m.body.all (fun x => Pn.rightS Wd.nameB rtT n x))))) ?_
  unfold Pn.methG
  first
    | rfl
    | (simp only [Bool.false_xor]; done)
    | (simp only [Bool.false_xor, Bool.not_true, Bool.not_false]; done)
    | (simp [Bool.false_xor]; done)
end Go.Proofs.YtjghgpmkepfdhaaGreatDoor
namespace Go.Proofs.YtjghgpmkepfdhaaGreatDoor
open Go.RowKit
set_option linter.unusedVariables false
set_option linter.unusedSimpArgs false
set_option maxRecDepth 100000
set_option maxHeartbeats 4000000
theorem PtXPa5.en95 : ∀ vs w, (callFunc 95 vs).run Tryz.prog w = .ok (.enter 95 vs) w := fun vs w => run_enter Tryz.func95 (by kernel_rfl) rfl vs w
theorem indexMe (G : Nat) (fs cs : List AV) (hen : ∀ vs w, (callFunc G vs).run Tryz.prog w = .ok (.enter G vs) w) (l : List Pn.Me) (C : Pn.Me → Bool) (H : ∀ x ∈ l, PCalls Tryz.prog G (fs ++ [(.ag (Pn.cMe x))] ++ cs) (.sc (.bool (C x)))) : PCalls Tryz.prog 122 [(.ls none (List.map Pn.encMe l)), (.fn (.func G) fs cs)] (.sc (.int .i64 (Pn.idx C l))) := by
  refine pcalls_fine fun hfa => ?_
  have hF1 := hfa 0 _ rfl
  have hF1l := hF1.lenm
  refine pcalls_rf mixed Tryz.func122 rfl ?_
  refine Wp.sr [] ?_
  refine Wp.seq ?_
  refine Wp.sr [.n (lenm Pn.encMe l)] ?_
  refine Wp.block ?_
  refine Wp.lp (α := (Nat)) (fun | j => ⟨mk 19 [(0, (.ls none (List.map Pn.encMe l))), (1, (.fn (.func G) fs cs)), (7, (.sc (.int .i64 ((l.length : Nat) : Int)))), (8, (.sc (.int .i64 ((j : Nat) : Int))))], [], y0⟩) (fun | j => j ≤ l.length ∧ (l.take j).any C = false) (fun | j => l.length - j) 0 ?_ ?_
  · exact ⟨Nat.zero_le _, by simp⟩
  rintro j hv2
  obtain ⟨hlj, htj⟩ := hv2
  refine Wp.sr [] ?_
  refine Wp.seq ?_
  refine Wp.cd (decide ((((j : Nat) : Int) : Int) < ((l.length : Nat) : Int))) (fun h3 => ?_) (fun h3 => ?_)
  · have h3 := of_decide_eq_true h3
    refine Wp.skip ?_
    refine Wp.seq ?_
    refine Wp.block ?_
    refine Wp.sr [] ?_
    obtain ⟨x6, hx5⟩ : ∃ z0, (l)[j]? = some z0 := ⟨_, List.getElem?_eq_getElem (by omega)⟩
    have hR8 : Fine (.ag (Pn.cMe x6)) := hF1.row hx5 rfl
    have hF9 : Fine (.ls none (List.map Pn.encVr x6.params)) := hR8.at 13 rfl
    have hF9l := hF9.lenm
    have hF10 : Fine (.ls none (List.map Pn.encVr x6.locals)) := hR8.at 14 rfl
    have hF10l := hF10.lenm
    have hF11 : Fine (.ls none (List.map Pn.encS x6.body)) := hR8.at 15 rfl
    have hF11l := hF11.lenm
    refine Wp.sr [.i (map_get Pn.encMe hx5), .cv hen (H x6 (List.mem_of_getElem? hx5))] ?_
    refine Wp.cd (C x6) (fun h12 => ?_) (fun h12 => ?_)
    · skip
      refine Wp.sr [] ?_
      refine Wp.ret ?_
      refine ⟨rfl, ?_⟩
      refine ⟨rfl, ?_⟩
      refine ⟨rfl, ?_⟩
      refine fin_r (.sc (.int .i64 ((j : Nat) : Int))) ?_
      rw [Pn.idx_hit htj hx5 (by simp [h3, h12])]
    · have h12 := Bool.eq_false_iff.1 h12
      refine Wp.skip ?_
      refine Wp.rg [.z (int_add (x := ((j : Nat) : Int)) (y := 1) (z := (((j + 1) : Nat) : Int)) (by omega) (by omega) (by omega))] ?_
      refine ⟨(j + 1), .rf, ?_, ?_⟩
      · exact ⟨Pn.len_lt hx5, Pn.any_next hx5 htj (by simp [h3, h12])⟩
      · simp only; omega
  · have h3 := of_decide_eq_false h3
    refine Wp.exit ?_
    refine ⟨rfl, ?_⟩
    refine ⟨rfl, ?_⟩
    refine Wp.sr [] ?_
    refine Wp.ret ?_
    refine fin_r (.sc (.int .i64 (-1))) ?_
    rw [Pn.idx_miss (Pn.any_end htj (by assumption))]

theorem containsMe (G : Nat) (fs cs : List AV) (hen : ∀ vs w, (callFunc G vs).run Tryz.prog w = .ok (.enter G vs) w) (l : List Pn.Me) (C : Pn.Me → Bool) (H : ∀ x ∈ l, PCalls Tryz.prog G (fs ++ [(.ag (Pn.cMe x))] ++ cs) (.sc (.bool (C x)))) : PCalls Tryz.prog 94 [(.ls none (List.map Pn.encMe l)), (.fn (.func G) fs cs)] (.sc (.bool (l.any C))) := by
  refine pcalls_fine fun hfa => ?_
  have hF1 := hfa 0 _ rfl
  have hF1l := hF1.lenm
  refine pcalls_rf mixed Tryz.func94 rfl ?_
  refine Wp.sr [] ?_
  refine Wp.sr [.c (indexMe G fs cs hen l C H)] ?_
  refine Wp.ret ?_
  refine fin_r (.sc (.bool (decide (((Pn.idx C l) : Int) ≥ 0)))) ?_
  rw [Pn.idx_ge]

theorem allfMe (G : Nat) (fs cs : List AV) (hen : ∀ vs w, (callFunc G vs).run Tryz.prog w = .ok (.enter G vs) w) (x : Pn.Me) (C : Pn.Me → Bool) (H : PCalls Tryz.prog G (fs ++ [(.ag (Pn.cMe x))] ++ cs) (.sc (.bool (C x)))) : PCalls Tryz.prog 95 [(.ag (Pn.cMe x)), (.pr [(.fn (.func G) fs cs)])] (.sc (.bool (!(C x)))) := by
  refine pcalls_fine fun hfa => ?_
  have hR1 := hfa 0 _ rfl
  have hF2 : Fine (.ls none (List.map Pn.encVr x.params)) := hR1.at 13 rfl
  have hF2l := hF2.lenm
  have hF3 : Fine (.ls none (List.map Pn.encVr x.locals)) := hR1.at 14 rfl
  have hF3l := hF3.lenm
  have hF4 : Fine (.ls none (List.map Pn.encS x.body)) := hR1.at 15 rfl
  have hF4l := hF4.lenm
  refine pcalls_rf mixed Tryz.func95 rfl ?_
  refine Wp.sr [] ?_
  refine Wp.sr [.cv hen H] ?_
  refine Wp.ret ?_
  refine fin_r (.sc (.bool (!(C x)))) ?_
  rfl

theorem allMe (G : Nat) (fs cs : List AV) (hen : ∀ vs w, (callFunc G vs).run Tryz.prog w = .ok (.enter G vs) w) (l : List Pn.Me) (C : Pn.Me → Bool) (H : ∀ x ∈ l, PCalls Tryz.prog G (fs ++ [(.ag (Pn.cMe x))] ++ cs) (.sc (.bool (C x)))) : PCalls Tryz.prog 53 [(.ls none (List.map Pn.encMe l)), (.fn (.func G) fs cs)] (.sc (.bool (l.all C))) := by
  refine pcalls_fine fun hfa => ?_
  have hF1 := hfa 0 _ rfl
  have hF1l := hF1.lenm
  refine pcalls_rf mixed Tryz.func53 rfl ?_
  refine Wp.sr [] ?_
  refine Wp.sr [.c (containsMe 95 [] [(.pr [(.fn (.func G) fs cs)])] PtXPa5.en95 l (fun x => !(C x)) (fun x hx => allfMe G fs cs hen x C (H x hx)))] ?_
  refine Wp.ret ?_
  refine fin_r (.sc (.bool (!(l.any (fun x => !(C x)))))) ?_
  rw [Pn.any_not]
end Go.Proofs.YtjghgpmkepfdhaaGreatDoor
