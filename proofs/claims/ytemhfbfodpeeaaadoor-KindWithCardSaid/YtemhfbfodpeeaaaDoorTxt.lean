/- The text of a type, as the program tells it. Conditions: the table of words lies in memory; at most 1000 parameters, of at most 2000000 bytes each. -/
import Derived.Test.YtemhfbfodpeeaaaDoorBeh
import Derived.Deep.DeepCutAuto
import Derived.Deep.RegionHeld3
namespace Go.Proofs.YtemhfbfodpeeaaaDoor
open Go.RowKit
set_option linter.unusedVariables false

theorem name_le {s : ByteArray} (h : Wd.nameB s = true) : s.size ≤ 20 := by
  unfold Wd.nameB at h
  simp only [Bool.and_eq_true, decide_eq_true_eq] at h
  exact h.1.1.1.2
theorem right_parts {t : Ty} {p : Int} (h : t.right p = true) (h2 : t.kind = 2) : Wd.nameB t.cls = true ∧ 0 ≤ t.n ∧ t.n ≤ 3 ∧ t.okOw p = true := by
  rw [Ty.right_obj h2] at h
  simp only [Bool.and_eq_true, decide_eq_true_eq] at h
  exact ⟨h.1.1.1, h.1.1.2, h.1.2, h.2⟩
theorem right_kinds {t : Ty} {p : Int} (h : t.right p = true) : t.kind = 0 ∨ t.kind = 1 ∨ t.kind = 2 := by
  rcases (show t.kind = 0 ∨ t.kind = 1 ∨ t.kind = 2 ∨ (¬ t.kind = 0 ∧ ¬ t.kind = 1 ∧ ¬ t.kind = 2) by omega) with e | e | e | ⟨e0, e1, e2⟩
  · exact .inl e
  · exact .inr (.inl e)
  · exact .inr (.inr e)
  · rw [Ty.right_other e0 e1 e2] at h; cases h
theorem behind_short {t : Ty} {ps : List ByteArray} (hps : ∀ i, (hi : i < ps.length) → ps[i].size ≤ 2000000) : (t.behind ps).length ≤ 6000006 := by
  by_cases h : t.cnt = 0
  · rw [behind_none h]; simp
  · rw [behind_some (by omega)]
    have := join_short (l := t.otexts ps) (B := 2000000) (by have := otexts_len t ps; have := t.cnt_le; omega) (otexts_short (by omega) hps)
    simp; omega
/-- The cells of a type in a block. -/
def Eleven (w : World) (g : Nat) (t : Ty) : Prop := w.cell? ⟨g, 0, none⟩ = some (.int .i64 t.kind) ∧ w.cell? ⟨g, 1, none⟩ = some (.string t.cls) ∧ w.cell? ⟨g, 2, none⟩ = some (.int .i64 t.n) ∧ w.cell? ⟨g, 3, none⟩ = some (.int .i64 t.o0.kind) ∧ w.cell? ⟨g, 4, none⟩ = some (.int .i64 t.o0.n) ∧ w.cell? ⟨g, 5, none⟩ = some (.int .i64 t.o1.kind) ∧ w.cell? ⟨g, 6, none⟩ = some (.int .i64 t.o1.n) ∧ w.cell? ⟨g, 7, none⟩ = some (.int .i64 t.o2.kind) ∧ w.cell? ⟨g, 8, none⟩ = some (.int .i64 t.o2.n) ∧ w.cell? ⟨g, 9, none⟩ = some (.int .i64 t.o3.kind) ∧ w.cell? ⟨g, 10, none⟩ = some (.int .i64 t.o3.n)
theorem TyIn.eleven {w : World} {g : Nat} {t : Ty} (h : TyIn w g t) : Eleven w g t := ⟨h.cell 0, h.cell 1, h.cell 2, h.cell 3, h.cell 4, h.cell 5, h.cell 6, h.cell 7, h.cell 8, h.cell 9, h.cell 10⟩
theorem txt_join {t : Ty} {ps : List ByteArray} {a b : ByteArray} (hR : t.right ps.length = true) (h2 : t.kind = 2) (ha : a.data.toList = t.cls.data.toList ++ t.behind ps) (hb : b.data.toList = t.ahead ps ++ a.data.toList) : b = ⟨(t.txt ps).toArray⟩ := by
  apply ba_ext
  rw [hb, ha, Ty.txt_obj hR h2]

set_option maxHeartbeats 4000000 in
theorem text_any (t : Ty) (A : Option Addr) (c : Nat) (ps : List ByteArray) (w : World) (hW : WordsIn w) (hr : RS w w.heap.size A ps) (hl : ps.length ≤ 1000) (hc : ps.length ≤ c)
    (hps : ∀ i, (hi : i < ps.length) → ps[i].size ≤ 2000000) :
    Calls Tryd.prog 9 #[.agg t.cells, .slice A ps.length c] w fun e w' => e = .returned (.string ⟨(t.txt ps).toArray⟩) ∧ Below w.heap.size w w' := by
  have HT : Hid (TyIn (w.alloc (.cells t.cells 26)) w.heap.size t) := Lib.hid (TyIn.new w t)
  have HR := Lib.hid hr
  have HP := Lib.hid hps
  have HWd : Hid (WordsIn (w.alloc (.cells t.cells 26))) := Lib.hid (hW.below (below1 w _))
  clear hr hps hW
  obtain ⟨W0, hW0⟩ : ∃ W0, W0 = w.alloc (.cells t.cells 26) := ⟨_, rfl⟩
  have HB0 : Hid (Below w.heap.size w W0) := Lib.hid (by rw [hW0]; exact below1 w _)
  have HR0 : Hid (RS W0 W0.heap.size A ps) := Lib.hid ((HR.out.below HB0.out).more HB0.out.size)
  rw [← hW0] at HT HWd
  obtain ⟨g, hg⟩ : ∃ g, g = w.heap.size := ⟨_, rfl⟩
  rw [← hg] at HT
  have hW0' := hW0
  unfold Ty.cells at hW0
  obtain ⟨f0, f1, f2, f3, f4, f5, f6, f7, f8, f9, f10⟩ := HT.out.eleven
  by_cases hR : t.right ps.length = true
  case neg =>
    have hF : t.right ps.length = false := by simpa using hR
    have HF := Lib.hid hF
    have HV := Lib.hid (Ty.txt_no hF)
    clear hR hF
    unfold Ty.cells
    go_enter Tryd.func9, Tryd.ntmps9
    go_wp2_with fail
    rw [← hW0, ← hg]
    refine (right_any t _ _ HWd.out).mono ?_
    rintro e w1 ⟨rfl, hb1⟩
    rw [HF.out]
    go_wp2
    go_ret
    exact ⟨by rw [HV.out]; rfl, HB0.out.trans (hb1.mono HB0.out.size)⟩
  case pos =>
    have HF := Lib.hid hR
    have hk := right_kinds hR
    have hRk := Lib.hid hR
    clear hR
    rcases hk with hk | hk | hk
    · have HV := Lib.hid (Ty.txt_void hRk.out hk)
      have HK := Lib.hid hk
      clear hk
      unfold Ty.cells
      go_enter Tryd.func9, Tryd.ntmps9
      go_wp2_with fail
      rw [← hW0, ← hg]
      clear hg
      refine (right_any t _ _ HWd.out).mono ?_
      rintro e w1 ⟨rfl, hb1⟩
      rw [HF.out]
      have HT1 := Lib.hid (HT.out.below hb1)
      have HB1 := Lib.hid (HB0.out.trans (hb1.mono HB0.out.size))
      have HR1 : Hid (RS w1 w1.heap.size A ps) := Lib.hid ((HR0.out.below hb1).more hb1.size)
      clear hb1 f0 f1 f2 f3 f4 f5 f6 f7 f8 f9 f10 hW0 hW0'
      obtain ⟨f0, f1, f2, f3, f4, f5, f6, f7, f8, f9, f10⟩ := HT1.out.eleven
      rw [HK.out] at f0
      go_wp2
      go_ret
      exact ⟨by rw [HV.out]; rfl, HB1.out⟩
    · have HV := Lib.hid (Ty.txt_int hRk.out hk)
      have HK := Lib.hid hk
      clear hk
      unfold Ty.cells
      go_enter Tryd.func9, Tryd.ntmps9
      go_wp2_with fail
      rw [← hW0, ← hg]
      clear hg
      refine (right_any t _ _ HWd.out).mono ?_
      rintro e w1 ⟨rfl, hb1⟩
      rw [HF.out]
      have HT1 := Lib.hid (HT.out.below hb1)
      have HB1 := Lib.hid (HB0.out.trans (hb1.mono HB0.out.size))
      have HR1 : Hid (RS w1 w1.heap.size A ps) := Lib.hid ((HR0.out.below hb1).more hb1.size)
      clear hb1 f0 f1 f2 f3 f4 f5 f6 f7 f8 f9 f10 hW0 hW0'
      obtain ⟨f0, f1, f2, f3, f4, f5, f6, f7, f8, f9, f10⟩ := HT1.out.eleven
      rw [HK.out] at f0
      go_wp2
      go_ret
      exact ⟨by rw [HV.out]; rfl, HB1.out⟩
    · obtain ⟨hnm, hn0, hn3, hok⟩ := right_parts hRk.out hk
      have hcs := name_le hnm
      have HK := Lib.hid hk
      have HN := Lib.hid hn0
      have HN3 := Lib.hid hn3
      obtain ⟨b, hb⟩ : ∃ b : ByteArray, b = ⟨(t.behind ps).toArray⟩ := ⟨_, rfl⟩
      have hbs : b.size ≤ 6000006 := by rw [hb]; exact behind_short HP.out
      have HBD : Hid (b.data.toList = t.behind ps) := Lib.hid (by rw [hb])
      have HBB := Lib.hid hb
      clear hk hnm hn0 hn3 hok hb
      unfold Ty.cells
      go_enter Tryd.func9, Tryd.ntmps9
      go_wp2_with fail
      rw [← hW0, ← hg]
      clear hg
      refine (right_any t _ _ HWd.out).mono ?_
      rintro e w1 ⟨rfl, hb1⟩
      rw [HF.out]
      have HT1 := Lib.hid (HT.out.below hb1)
      have HB1 := Lib.hid (HB0.out.trans (hb1.mono HB0.out.size))
      have HR1 : Hid (RS w1 w1.heap.size A ps) := Lib.hid ((HR0.out.below hb1).more hb1.size)
      clear hb1 f0 f1 f2 f3 f4 f5 f6 f7 f8 f9 f10 hW0 hW0'
      obtain ⟨f0, f1, f2, f3, f4, f5, f6, f7, f8, f9, f10⟩ := HT1.out.eleven
      rw [HK.out] at f0
      obtain ⟨W1, hW1⟩ : ∃ W1, W1 = w1 := ⟨_, rfl⟩
      subst hW1
      obtain ⟨HS, hHS⟩ : ∃ HS : World → Prop, HS = Below W1.heap.size W1 := ⟨_, rfl⟩
      have HX : Hid (∀ W, HS W → Below W1.heap.size W1 W) := Lib.hid (fun W h => by rw [hHS] at h; exact h)
      have HI : Hid (∀ W, Below W1.heap.size W1 W → HS W) := Lib.hid (fun W h => by rw [hHS]; exact h)
      have HO : Hid (∀ W, HS W → W.cell? ⟨g, 0, none⟩ = some (.int .i64 2) ∧ W.cell? ⟨g, 1, none⟩ = some (.string t.cls) ∧ W.cell? ⟨g, 2, none⟩ = some (.int .i64 t.n) ∧ W.cell? ⟨g, 3, none⟩ = some (.int .i64 t.o0.kind) ∧ W.cell? ⟨g, 4, none⟩ = some (.int .i64 t.o0.n) ∧ W.cell? ⟨g, 5, none⟩ = some (.int .i64 t.o1.kind) ∧ W.cell? ⟨g, 6, none⟩ = some (.int .i64 t.o1.n) ∧ W.cell? ⟨g, 7, none⟩ = some (.int .i64 t.o2.kind) ∧ W.cell? ⟨g, 8, none⟩ = some (.int .i64 t.o2.n) ∧ W.cell? ⟨g, 9, none⟩ = some (.int .i64 t.o3.kind) ∧ W.cell? ⟨g, 10, none⟩ = some (.int .i64 t.o3.n)) := Lib.hid (fun W h => by
        have := (HT1.out.below (HX.out _ h)).eleven
        unfold Eleven at this
        rw [HK.out] at this
        exact this)
      have C23 : Hid (∀ W, HS W → Calls Tryd.prog 23 #[.agg #[.int .i64 2, .string t.cls, .int .i64 t.n, .int .i64 t.o0.kind, .int .i64 t.o0.n, .int .i64 t.o1.kind, .int .i64 t.o1.n, .int .i64 t.o2.kind, .int .i64 t.o2.n, .int .i64 t.o3.kind, .int .i64 t.o3.n], .slice A ps.length c] W fun e w' => e = .returned (.string b) ∧ HS w') := Lib.hid (fun W h => by
        have hb := HX.out _ h
        have := behind_any t A c ps W HK.out HN.out HN3.out ((HR1.out.below hb).more hb.size) hl hc HP.out
        unfold Ty.cells at this
        rw [HK.out, ← HBB.out] at this
        exact this.mono fun e w' ⟨he, hb'⟩ => ⟨he, HI.out _ (hb.trans (hb'.mono hb.size))⟩)
      have hS1 : HS W1 := HI.out _ (Below.refl _ _)
      clear hHS
      have z1 : ¬ 9223372036854775807 < t.cls.size + b.size := by omega
      go_upto_region 8 with fail
      go_cut [5] (fun s wx => s = .string (t.cls ++ b) ∧ HS wx)
      case first =>
        go_region_held3 (fun w' => w'.cell? ⟨g, 0, none⟩ = some (.int .i64 2) ∧ w'.cell? ⟨g, 1, none⟩ = some (.string t.cls) ∧ w'.cell? ⟨g, 2, none⟩ = some (.int .i64 t.n) ∧ w'.cell? ⟨g, 3, none⟩ = some (.int .i64 t.o0.kind) ∧ w'.cell? ⟨g, 4, none⟩ = some (.int .i64 t.o0.n) ∧ w'.cell? ⟨g, 5, none⟩ = some (.int .i64 t.o1.kind) ∧ w'.cell? ⟨g, 6, none⟩ = some (.int .i64 t.o1.n) ∧ w'.cell? ⟨g, 7, none⟩ = some (.int .i64 t.o2.kind) ∧ w'.cell? ⟨g, 8, none⟩ = some (.int .i64 t.o2.n) ∧ w'.cell? ⟨g, 9, none⟩ = some (.int .i64 t.o3.kind) ∧ w'.cell? ⟨g, 10, none⟩ = some (.int .i64 t.o3.n) ∧ HS w')
          (first | exact (show _ ∧ _ from ⟨(HO.out _ hS).1, (HO.out _ hS).2.1, (HO.out _ hS).2.2.1, (HO.out _ hS).2.2.2.1, (HO.out _ hS).2.2.2.2.1, (HO.out _ hS).2.2.2.2.2.1, (HO.out _ hS).2.2.2.2.2.2.1, (HO.out _ hS).2.2.2.2.2.2.2.1, (HO.out _ hS).2.2.2.2.2.2.2.2.1, (HO.out _ hS).2.2.2.2.2.2.2.2.2.1, (HO.out _ hS).2.2.2.2.2.2.2.2.2.2, hS⟩) | (have hS := HI.out _ ((Below.refl _ _).drew); exact ⟨(HO.out _ hS).1, (HO.out _ hS).2.1, (HO.out _ hS).2.2.1, (HO.out _ hS).2.2.2.1, (HO.out _ hS).2.2.2.2.1, (HO.out _ hS).2.2.2.2.2.1, (HO.out _ hS).2.2.2.2.2.2.1, (HO.out _ hS).2.2.2.2.2.2.2.1, (HO.out _ hS).2.2.2.2.2.2.2.2.1, (HO.out _ hS).2.2.2.2.2.2.2.2.2.1, (HO.out _ hS).2.2.2.2.2.2.2.2.2.2, hS⟩))
          (first
            | (go_at_call 23; (with_reducible refine (C23.out _ ?_).mono ?_); (go_split_ands; assumption); rintro e wa ⟨rfl, hS⟩))
        all_goals (go_wp2_with fail; go_meet; exact ⟨rfl, by go_split_ands; assumption⟩)
      case rest =>
        obtain ⟨rfl, hbc⟩ := hcut
        obtain ⟨W2, hW2⟩ : ∃ W2, W2 = wc := ⟨_, rfl⟩
        subst hW2
        obtain ⟨f0, f1, f2, f3, f4, f5, f6, f7, f8, f9, f10⟩ := HO.out _ hbc
        have HB2 := Lib.hid (HX.out _ hbc)
        have HD : Hid ((t.cls ++ b).data.toList = t.cls.data.toList ++ t.behind ps) := Lib.hid (by rw [app_data, HBD.out])
        have hds : (t.cls ++ b).size ≤ 6000026 := by rw [ByteArray.size_append]; omega
        obtain ⟨d, hd⟩ : ∃ d, d = t.cls ++ b := ⟨_, rfl⟩
        rw [← hd] at HD hds ⊢
        clear hd hbc z1
        by_cases h7 : t.o0.kind = 7
        · have HE : Hid (d = ⟨(t.txt ps).toArray⟩) := Lib.hid (txt_join hRk.out HK.out HD.out (by unfold Ty.ahead; rw [if_pos h7]; rfl))
          rw [h7] at f3
          clear h7
          go_wp2
          go_ret
          exact ⟨ret_s HE.out, HB1.out.trans (HB2.out.mono HB1.out.size)⟩
        · have e7 : (t.o0.kind != 7) = true := by simpa using h7
          have HA : Hid (t.ahead ps = (t.o0.text ps).data.toList ++ [32]) := Lib.hid (by unfold Ty.ahead; rw [if_neg h7])
          have hys : (t.o0.text ps).size ≤ 2000000 := Ow.text_le (by omega) HP.out
          clear h7
          have hgW := (HT1.out.below HB2.out).lt
          go_wp2_with fail
          refine (otext_any t.o0 A c ps _ ((HR1.out.below HB2.out).more HB2.out.size) hl hc).mono ?_
          rintro e w3 ⟨rfl, hb3⟩
          obtain ⟨y, hy⟩ : ∃ y, y = t.o0.text ps := ⟨_, rfl⟩
          rw [← hy] at HA hys ⊢
          have HB3 := Lib.hid ((HB1.out.trans (HB2.out.mono HB1.out.size)).trans (hb3.mono (by have := HB1.out.size; have := HB2.out.size; omega)))
          have z2 : ¬ 9223372036854775807 < y.size + 1 := by omega
          have z3 : ¬ 9223372036854775807 < y.size + 1 + d.size := by omega
          clear hy hb3
          go_wp2
          go_ret
          exact ⟨ret_s (txt_join hRk.out HK.out HD.out (by rw [app_data, app_data, HA.out])), HB3.out⟩
end Go.Proofs.YtemhfbfodpeeaaaDoor
