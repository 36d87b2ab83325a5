/- The third law of layer 5 returns true for every input. Conditions: the table of words lies in memory. -/
import Derived.Test.YtemhfbfodpeeaaaDoorLaw2
import Derived.Test.YtemhfbfodpeeaaaDoorApart
namespace Go.Proofs.YtemhfbfodpeeaaaDoor
open Go.RowKit
set_option linter.unusedVariables false

/-- What the outer loop has seen. -/
def Seen2 (ps : List ByteArray) (i : Nat) : Prop := (∀ j, (h : j < ps.length) → j < i → Wd.nameB ps[j] = true) ∧ ∀ j m, (hj : j < ps.length) → j < i → (hm : m < j) → ps[m]'(by omega) ≠ ps[j]
theorem seen2_zero (ps : List ByteArray) : Seen2 ps 0 := ⟨fun j _ h => by omega, fun j m _ h _ => by omega⟩
theorem seen2_next {ps : List ByteArray} {i : Nat} (h : Seen2 ps i) (hi : i < ps.length) (hn : Wd.nameB ps[i] = true) (hd : ∀ m, (hm : m < i) → ps[m]'(by omega) ≠ ps[i]) : Seen2 ps (i + 1) :=
  ⟨fun j hj hji => by
    by_cases e : j = i
    · subst e; exact hn
    · exact h.1 j hj (by omega),
   fun j m hj hji hm => by
    by_cases e : j = i
    · subst e; exact hd m hm
    · exact h.2 j m hj (by omega) hm⟩
theorem seen2_all {ps : List ByteArray} {i : Nat} (h : Seen2 ps i) (hi : i = ps.length) : Unlike ps := by
  subst hi
  exact ⟨fun j hj => h.1 j hj hj, fun j m hj hm => h.2 j m hj hj hm⟩
theorem str_ne {a b : ByteArray} (h : ¬ a = b) : (a.toList == b.toList) = false := by
  rw [ByteArray.toList_eq, ByteArray.toList_eq, beq_eq_false_iff_ne]
  intro e
  exact h (text_data_inj e)

theorem same_ty {t u : Ty} (hk : t.kind = u.kind) (hc : t.cls = u.cls) (hn : t.n = u.n) (hs : t.sameO u = true) : t = u := by
  unfold Ty.sameO at hs
  simp only [Bool.and_eq_true, beq_iff_eq] at hs
  obtain ⟨⟨⟨⟨h1, h2⟩, h3, h4⟩, h5, h6⟩, h7, h8⟩ := hs
  obtain ⟨k, c, n, ⟨a0, b0⟩, ⟨a1, b1⟩, ⟨a2, b2⟩, ⟨a3, b3⟩⟩ := t
  obtain ⟨k', c', n', ⟨a0', b0'⟩, ⟨a1', b1'⟩, ⟨a2', b2'⟩, ⟨a3', b3'⟩⟩ := u
  simp only at hk hc hn h1 h2 h3 h4 h5 h6 h7 h8
  subst hk hc hn h1 h2 h3 h4 h5 h6 h7 h8
  rfl

set_option maxHeartbeats 8000000 in
theorem law_apart (t u : Ty) (A : Option Addr) (c : Nat) (ps : List ByteArray) (w : World) (hW : WordsIn w) (hr : RS w w.heap.size A ps) (hc : ps.length ≤ c) :
    Calls Tryd.prog 5 #[.agg t.cells, .agg u.cells, .slice A ps.length c] w fun e w' => e = .returned (.bool true) ∧ Below w.heap.size w w' := by
  obtain ⟨W0, hW0⟩ : ∃ W0, W0 = (w.alloc (.cells t.cells 26)).alloc (.cells u.cells 26) := ⟨_, rfl⟩
  have hs1 : (w.alloc (.cells t.cells 26)).heap.size = w.heap.size + 1 := by simp
  have HB0 : Hid (Below w.heap.size w W0) := Lib.hid (by rw [hW0]; exact below2 w _ _)
  have HT0 : Hid (TyIn W0 w.heap.size t) := Lib.hid (by rw [hW0]; exact (TyIn.new w t).below (below1 _ _))
  have HU0 : Hid (TyIn W0 (w.heap.size + 1) u) := Lib.hid (by rw [hW0, ← hs1]; exact TyIn.new _ u)
  have HW0 : Hid (WordsIn W0) := Lib.hid (hW.below HB0.out)
  have HR0 : Hid (RS W0 W0.heap.size A ps) := Lib.hid ((hr.below HB0.out).more HB0.out.size)
  obtain ⟨r, hrr⟩ : ∃ r, r = w.heap.size + 1 := ⟨_, rfl⟩
  obtain ⟨g, hg⟩ : ∃ g, g = w.heap.size := ⟨_, rfl⟩
  rw [← hg] at HT0
  rw [← hrr] at HU0
  clear hW hr hs1
  unfold Ty.cells at hW0 ⊢
  obtain ⟨HS, hHS⟩ : ∃ HS : World → Prop, HS = Below W0.heap.size W0 := ⟨_, rfl⟩
  have HX : Hid (∀ W, HS W → Below W0.heap.size W0 W) := Lib.hid (fun W h => by rw [hHS] at h; exact h)
  have HI : Hid (∀ W, Below W0.heap.size W0 W → HS W) := Lib.hid (fun W h => by rw [hHS]; exact h)
  have HO : Hid (∀ W, HS W → Eleven W g t ∧ Eleven W r u ∧ g < W.heap.size ∧ r < W.heap.size) := Lib.hid (fun W h => ⟨(HT0.out.below (HX.out _ h)).eleven, (HU0.out.below (HX.out _ h)).eleven, (HT0.out.below (HX.out _ h)).lt, (HU0.out.below (HX.out _ h)).lt⟩)
  have HM : Hid (∀ W W', HS W → Below W.heap.size W W' → HS W') := Lib.hid (fun W W' h hb => HI.out _ ((HX.out _ h).trans (hb.mono (HX.out _ h).size)))
  have HRW : Hid (∀ W, HS W → RS W W.heap.size A ps) := Lib.hid (fun W h => (HR0.out.below (HX.out _ h)).more (HX.out _ h).size)
  have HWW : Hid (∀ W, HS W → WordsIn W) := Lib.hid (fun W h => HW0.out.below (HX.out _ h))
  have FIN : Hid (∀ W, HS W → Below w.heap.size w W) := Lib.hid (fun W h => HB0.out.trans ((HX.out _ h).mono HB0.out.size))
  have C6 : Hid (∀ W, HS W → Calls Tryd.prog 6 #[] W fun e w' => e = .returned (.bool true) ∧ HS w') := Lib.hid (fun W h => (awake_any W (HWW.out _ h)).mono fun e w' ⟨he, hb'⟩ => ⟨he, HM.out _ _ h hb'⟩)
  have hS0 : HS W0 := HI.out _ (Below.refl _ _)
  clear hHS
  by_cases hbig : 6 < ps.length
  · obtain ⟨L, hL⟩ : ∃ L, L = ps.length := ⟨_, rfl⟩
    rw [← hL] at hbig ⊢
    clear hL hc
    go_enter Tryd.func5, Tryd.ntmps5
    go_wp2_with fail
    rw [← hW0]
    refine (C6.out _ hS0).mono ?_
    rintro e wz ⟨rfl, hSz⟩
    go_wp2
    go_ret
    exact ⟨rfl, FIN.out _ hSz⟩
  · have hl6 : ps.length ≤ 6 := by omega
    clear hbig
    obtain ⟨h1, hh1⟩ : ∃ h : Nat, h = t.holes := ⟨_, rfl⟩
    obtain ⟨h2, hh2⟩ : ∃ h : Nat, h = u.holes := ⟨_, rfl⟩
    obtain ⟨b1, hb1⟩ : ∃ b, b = t.right ps.length := ⟨_, rfl⟩
    obtain ⟨b2, hb2⟩ : ∃ b, b = u.right ps.length := ⟨_, rfl⟩
    have C13t : Hid (∀ W, HS W → Calls Tryd.prog 13 #[.agg #[.int .i64 t.kind, .string t.cls, .int .i64 t.n, .int .i64 t.o0.kind, .int .i64 t.o0.n, .int .i64 t.o1.kind, .int .i64 t.o1.n, .int .i64 t.o2.kind, .int .i64 t.o2.n, .int .i64 t.o3.kind, .int .i64 t.o3.n]] W fun e w' => e = .returned (.int .i64 h1) ∧ HS w') := Lib.hid (fun W hS => by
      rw [hh1]; exact (holes_any t W).mono fun e w' ⟨he, hb'⟩ => ⟨he, HM.out _ _ hS hb'⟩)
    have C13u : Hid (∀ W, HS W → Calls Tryd.prog 13 #[.agg #[.int .i64 u.kind, .string u.cls, .int .i64 u.n, .int .i64 u.o0.kind, .int .i64 u.o0.n, .int .i64 u.o1.kind, .int .i64 u.o1.n, .int .i64 u.o2.kind, .int .i64 u.o2.n, .int .i64 u.o3.kind, .int .i64 u.o3.n]] W fun e w' => e = .returned (.int .i64 h2) ∧ HS w') := Lib.hid (fun W hS => by
      rw [hh2]; exact (holes_any u W).mono fun e w' ⟨he, hb'⟩ => ⟨he, HM.out _ _ hS hb'⟩)
    have C7t : Hid (∀ W, HS W → Calls Tryd.prog 7 #[.agg #[.int .i64 t.kind, .string t.cls, .int .i64 t.n, .int .i64 t.o0.kind, .int .i64 t.o0.n, .int .i64 t.o1.kind, .int .i64 t.o1.n, .int .i64 t.o2.kind, .int .i64 t.o2.n, .int .i64 t.o3.kind, .int .i64 t.o3.n], .int .i64 ps.length] W fun e w' => e = .returned (.bool b1) ∧ HS w') := Lib.hid (fun W hS => by
      rw [hb1]; exact (right_any t _ W (HWW.out _ hS)).mono fun e w' ⟨he, hb'⟩ => ⟨he, HM.out _ _ hS hb'⟩)
    have C7u : Hid (∀ W, HS W → Calls Tryd.prog 7 #[.agg #[.int .i64 u.kind, .string u.cls, .int .i64 u.n, .int .i64 u.o0.kind, .int .i64 u.o0.n, .int .i64 u.o1.kind, .int .i64 u.o1.n, .int .i64 u.o2.kind, .int .i64 u.o2.n, .int .i64 u.o3.kind, .int .i64 u.o3.n], .int .i64 ps.length] W fun e w' => e = .returned (.bool b2) ∧ HS w') := Lib.hid (fun W hS => by
      rw [hb2]; exact (right_any u _ W (HWW.out _ hS)).mono fun e w' ⟨he, hb'⟩ => ⟨he, HM.out _ _ hS hb'⟩)
    have C19 : Hid (∀ s W, HS W → Calls Tryd.prog 19 #[.string s] W fun e w' => e = .returned (.bool (Wd.nameB s)) ∧ HS w') := Lib.hid (fun s W hS => (refName_any s W).mono fun e w' ⟨he, hb'⟩ => ⟨he, HM.out _ _ hS hb'⟩)
    have HH1 := Lib.hid hh1
    have HH2 := Lib.hid hh2
    have HR1 := Lib.hid hb1
    have HR2 := Lib.hid hb2
    clear hh1 hh2 hb1 hb2
    obtain ⟨⟨f0, f1, f2, f3, f4, f5, f6, f7, f8, f9, f10⟩, ⟨d0, d1, d2, d3, d4, d5, d6, d7, d8, d9, d10⟩, hgW, hrW⟩ := HO.out _ hS0
    go_enter Tryd.func5, Tryd.ntmps5
    go_wp2_with fail
    rw [← hW0, ← hrr, ← hg]
    clear hW0 hrr hg
    refine (C13t.out _ hS0).mono ?_
    rintro e w1 ⟨rfl, hS1⟩
    clear f0 f1 f2 f3 f4 f5 f6 f7 f8 f9 f10 d0 d1 d2 d3 d4 d5 d6 d7 d8 d9 d10 hgW hrW
    obtain ⟨⟨f0, f1, f2, f3, f4, f5, f6, f7, f8, f9, f10⟩, ⟨d0, d1, d2, d3, d4, d5, d6, d7, d8, d9, d10⟩, hgW, hrW⟩ := HO.out _ hS1
    by_cases hp1 : 0 < h1
    · have hp1' : (0 : Int) < (h1 : Int) := by omega
      go_wp2_with fail
      refine (C6.out _ hS1).mono ?_
      rintro e wz ⟨rfl, hSz⟩
      go_wp2
      go_ret
      exact ⟨rfl, FIN.out _ hSz⟩
    obtain rfl : h1 = 0 := by omega
    clear hp1
    go_wp2_with fail
    refine (C13u.out _ hS1).mono ?_
    rintro e w2 ⟨rfl, hS2⟩
    clear f0 f1 f2 f3 f4 f5 f6 f7 f8 f9 f10 d0 d1 d2 d3 d4 d5 d6 d7 d8 d9 d10 hgW hrW
    obtain ⟨⟨f0, f1, f2, f3, f4, f5, f6, f7, f8, f9, f10⟩, ⟨d0, d1, d2, d3, d4, d5, d6, d7, d8, d9, d10⟩, hgW, hrW⟩ := HO.out _ hS2
    by_cases hp2 : 0 < h2
    · have hp2' : (0 : Int) < (h2 : Int) := by omega
      go_wp2_with fail
      refine (C6.out _ hS2).mono ?_
      rintro e wz ⟨rfl, hSz⟩
      go_wp2
      go_ret
      exact ⟨rfl, FIN.out _ hSz⟩
    obtain rfl : h2 = 0 := by omega
    clear hp2
    go_wp2_with fail
    refine (C7t.out _ hS2).mono ?_
    rintro e w3 ⟨rfl, hS3⟩
    clear f0 f1 f2 f3 f4 f5 f6 f7 f8 f9 f10 d0 d1 d2 d3 d4 d5 d6 d7 d8 d9 d10 hgW hrW
    obtain ⟨⟨f0, f1, f2, f3, f4, f5, f6, f7, f8, f9, f10⟩, ⟨d0, d1, d2, d3, d4, d5, d6, d7, d8, d9, d10⟩, hgW, hrW⟩ := HO.out _ hS3
    cases b1 with
    | false =>
      go_wp2_with fail
      refine (C6.out _ hS3).mono ?_
      rintro e wz ⟨rfl, hSz⟩
      go_wp2
      go_ret
      exact ⟨rfl, FIN.out _ hSz⟩
    | true =>
    go_wp2_with fail
    refine (C7u.out _ hS3).mono ?_
    rintro e w4 ⟨rfl, hS4⟩
    clear f0 f1 f2 f3 f4 f5 f6 f7 f8 f9 f10 d0 d1 d2 d3 d4 d5 d6 d7 d8 d9 d10 hgW hrW
    obtain ⟨⟨f0, f1, f2, f3, f4, f5, f6, f7, f8, f9, f10⟩, ⟨d0, d1, d2, d3, d4, d5, d6, d7, d8, d9, d10⟩, hgW, hrW⟩ := HO.out _ hS4
    cases b2 with
    | false =>
      go_wp2_with fail
      refine (C6.out _ hS4).mono ?_
      rintro e wz ⟨rfl, hSz⟩
      go_wp2
      go_ret
      exact ⟨rfl, FIN.out _ hSz⟩
    | true =>
    clear f0 f1 f2 f3 f4 f5 f6 f7 f8 f9 f10 d0 d1 d2 d3 d4 d5 d6 d7 d8 d9 d10 hgW hrW hS0 hS1 hS2 hS3
    go_wp2
    go_loopw [7] (fun i wr => ∃ k : Nat, k ≤ ps.length ∧ i = .int .i64 k ∧ Hid (HS wr ∧ Seen2 ps k)) (fun i _ => ps.length - (intOf i).toNat)
    case atStart => exact ⟨0, by omega, rfl, Lib.hid ⟨hS4, seen2_zero ps⟩⟩
    case round =>
      obtain ⟨k, hk, rfl, hs⟩ := hrel
      have hSr := hs.out.1
      by_cases hlt : k < ps.length
      · obtain ⟨b, o, rfl, hB, q0⟩ := (HRW.out _ hSr).at_ hlt
        obtain ⟨x, hx⟩ : ∃ x, x = ps[k] := ⟨_, rfl⟩
        rw [← hx] at q0
        have HXK := Lib.hid hx
        clear hx
        go_wp2_with fail
        refine (C19.out x _ hSr).mono ?_
        rintro e w5 ⟨rfl, hS5⟩
        by_cases hnm : Wd.nameB x = true
        · have HN : Hid (Wd.nameB ps[k] = true) := Lib.hid (by rw [← HXK.out]; exact hnm)
          rw [hnm]
          clear hnm
          go_wp2
          go_loopw [8] (fun j wr => ∃ m : Nat, m ≤ k ∧ j = .int .i64 m ∧ Hid (HS wr ∧ ∀ n, (hn : n < k) → n < m → ps[n]'(by omega) ≠ ps[k])) (fun j _ => k - (intOf j).toNat)
          case atStart => exact ⟨0, by omega, rfl, Lib.hid ⟨hS5, fun n hn h => by omega⟩⟩
          case round =>
            obtain ⟨m, hm, rfl, hs2⟩ := hrel
            have hSr2 := hs2.out.1
            by_cases hlt2 : m < k
            · obtain ⟨b', o', hbo, hB', q1⟩ := (HRW.out _ hSr2).at_ hlt
              obtain ⟨b'', o'', hbo2, _, q2⟩ := (HRW.out _ hSr2).at_ (show m < ps.length by omega)
              obtain ⟨e1, e2⟩ : b' = b ∧ o' = o := by simp at hbo; exact ⟨hbo.1.symm, hbo.2.symm⟩
              obtain ⟨e3, e4⟩ : b'' = b ∧ o'' = o := by simp at hbo2; exact ⟨hbo2.1.symm, hbo2.2.symm⟩
              subst e1 e2 e3 e4
              rw [← HXK.out] at q1
              obtain ⟨y, hy⟩ : ∃ y, y = ps[m]'(by omega) := ⟨_, rfl⟩
              rw [← hy] at q2
              have HYK := Lib.hid hy
              clear hy hbo hbo2
              have hm1 : m < ps.length := by omega
              by_cases hyx : y = x
              · subst hyx
                go_wp2
                go_quiet (fail)
                go_wp2_with fail
                refine (C6.out _ (HM.out _ _ hSr2 (below_drewN (Below.refl _ _) nq))).mono ?_
                rintro e wz ⟨rfl, hSz⟩
                go_wp2
                go_ret
                exact ⟨rfl, FIN.out _ hSz⟩
              · have hne := str_ne hyx
                have HNE : Hid (ps[m]'(by omega) ≠ ps[k]) := Lib.hid (by rw [← HYK.out, ← HXK.out]; exact hyx)
                clear hyx
                go_wp2
                go_quiet (fail)
                go_wp2
                go_roundw
                case rel => exact ⟨m + 1, by omega, by go_num, Lib.hid ⟨HM.out _ _ hSr2 (below_drewN (Below.refl _ _) nq), fun n hn hnm => by
                  by_cases e : n = m
                  · subst e; exact HNE.out
                  · exact hs2.out.2 n hn (by omega)⟩⟩
                case measure => simp [intOf]; omega
            · obtain rfl : m = k := by omega
              have HNX : Hid (Seen2 ps (m + 1)) := Lib.hid (seen2_next hs.out.2 hlt HN.out (fun n hn => hs2.out.2 n hn hn))
              go_wp2
              go_roundw
              case rel => exact ⟨m + 1, by omega, by go_num, Lib.hid ⟨hSr2, HNX.out⟩⟩
              case measure => simp [intOf]; omega
        · have hnm' : Wd.nameB x = false := by simpa using hnm
          rw [hnm']
          clear hnm hnm'
          go_wp2_with fail
          refine (C6.out _ hS5).mono ?_
          rintro e wz ⟨rfl, hSz⟩
          go_wp2
          go_ret
          exact ⟨rfl, FIN.out _ hSz⟩
      · have HUL := Lib.hid (seen2_all hs.out.2 (by omega))
        have HPS : Hid (∀ i, (hi : i < ps.length) → ps[i].size ≤ 2000000) := Lib.hid (fun i hi => Nat.le_trans (name_le (HUL.out.1 i hi)) (by omega))
        obtain ⟨s1, hs1⟩ : ∃ s : ByteArray, s = ⟨(t.txt ps).toArray⟩ := ⟨_, rfl⟩
        obtain ⟨s2, hs2⟩ : ∃ s : ByteArray, s = ⟨(u.txt ps).toArray⟩ := ⟨_, rfl⟩
        have C9t : Hid (∀ W, HS W → Calls Tryd.prog 9 #[.agg #[.int .i64 t.kind, .string t.cls, .int .i64 t.n, .int .i64 t.o0.kind, .int .i64 t.o0.n, .int .i64 t.o1.kind, .int .i64 t.o1.n, .int .i64 t.o2.kind, .int .i64 t.o2.n, .int .i64 t.o3.kind, .int .i64 t.o3.n], .slice A ps.length c] W fun e w' => e = .returned (.string s1) ∧ HS w') := Lib.hid (fun W h => by
          rw [hs1]; exact (text_any t A c ps W (HWW.out _ h) (HRW.out _ h) (by omega) hc HPS.out).mono fun e w' ⟨he, hb'⟩ => ⟨he, HM.out _ _ h hb'⟩)
        have C9u : Hid (∀ W, HS W → Calls Tryd.prog 9 #[.agg #[.int .i64 u.kind, .string u.cls, .int .i64 u.n, .int .i64 u.o0.kind, .int .i64 u.o0.n, .int .i64 u.o1.kind, .int .i64 u.o1.n, .int .i64 u.o2.kind, .int .i64 u.o2.n, .int .i64 u.o3.kind, .int .i64 u.o3.n], .slice A ps.length c] W fun e w' => e = .returned (.string s2) ∧ HS w') := Lib.hid (fun W h => by
          rw [hs2]; exact (text_any u A c ps W (HWW.out _ h) (HRW.out _ h) (by omega) hc HPS.out).mono fun e w' ⟨he, hb'⟩ => ⟨he, HM.out _ _ h hb'⟩)
        have HA : Hid (s1 = s2 → t = u) := Lib.hid (fun e => apart HR1.out.symm HR2.out.symm HH1.out.symm HH2.out.symm HUL.out (by
          have := congrArg (fun b : ByteArray => b.data.toList) e
          rw [hs1, hs2] at this
          exact this))
        have hemp : s1.toList.isEmpty = false := by
          rw [List.isEmpty_eq_false_iff, ByteArray.toList_eq, hs1]
          exact txt_some HR1.out.symm HH1.out.symm
        obtain rfl : k = ps.length := by omega
        have HTU : Hid (t = u → s2 = s1) := Lib.hid (fun e => by rw [hs1, hs2, e])
        clear hs1 hs2 hlt hk
        by_cases htu : t = u
        · have h21 := HTU.out htu
          subst htu h21
          have hE := eqO t t (sameO_self t)
          go_upto_region 13 with fail
          go_region_held3 (fun w' => w'.cell? ⟨g, 0, none⟩ = some (.int .i64 t.kind) ∧ w'.cell? ⟨g, 1, none⟩ = some (.string t.cls) ∧ w'.cell? ⟨g, 2, none⟩ = some (.int .i64 t.n) ∧ w'.cell? ⟨g, 3, none⟩ = some (.int .i64 t.o0.kind) ∧ w'.cell? ⟨g, 4, none⟩ = some (.int .i64 t.o0.n) ∧ w'.cell? ⟨g, 5, none⟩ = some (.int .i64 t.o1.kind) ∧ w'.cell? ⟨g, 6, none⟩ = some (.int .i64 t.o1.n) ∧ w'.cell? ⟨g, 7, none⟩ = some (.int .i64 t.o2.kind) ∧ w'.cell? ⟨g, 8, none⟩ = some (.int .i64 t.o2.n) ∧ w'.cell? ⟨g, 9, none⟩ = some (.int .i64 t.o3.kind) ∧ w'.cell? ⟨g, 10, none⟩ = some (.int .i64 t.o3.n) ∧ w'.cell? ⟨r, 0, none⟩ = some (.int .i64 t.kind) ∧ w'.cell? ⟨r, 1, none⟩ = some (.string t.cls) ∧ w'.cell? ⟨r, 2, none⟩ = some (.int .i64 t.n) ∧ w'.cell? ⟨r, 3, none⟩ = some (.int .i64 t.o0.kind) ∧ w'.cell? ⟨r, 4, none⟩ = some (.int .i64 t.o0.n) ∧ w'.cell? ⟨r, 5, none⟩ = some (.int .i64 t.o1.kind) ∧ w'.cell? ⟨r, 6, none⟩ = some (.int .i64 t.o1.n) ∧ w'.cell? ⟨r, 7, none⟩ = some (.int .i64 t.o2.kind) ∧ w'.cell? ⟨r, 8, none⟩ = some (.int .i64 t.o2.n) ∧ w'.cell? ⟨r, 9, none⟩ = some (.int .i64 t.o3.kind) ∧ w'.cell? ⟨r, 10, none⟩ = some (.int .i64 t.o3.n) ∧ HS w')
            (first | exact (show _ ∧ _ from ⟨(HO.out _ hS).1.1, (HO.out _ hS).1.2.1, (HO.out _ hS).1.2.2.1, (HO.out _ hS).1.2.2.2.1, (HO.out _ hS).1.2.2.2.2.1, (HO.out _ hS).1.2.2.2.2.2.1, (HO.out _ hS).1.2.2.2.2.2.2.1, (HO.out _ hS).1.2.2.2.2.2.2.2.1, (HO.out _ hS).1.2.2.2.2.2.2.2.2.1, (HO.out _ hS).1.2.2.2.2.2.2.2.2.2.1, (HO.out _ hS).1.2.2.2.2.2.2.2.2.2.2, (HO.out _ hS).2.1.1, (HO.out _ hS).2.1.2.1, (HO.out _ hS).2.1.2.2.1, (HO.out _ hS).2.1.2.2.2.1, (HO.out _ hS).2.1.2.2.2.2.1, (HO.out _ hS).2.1.2.2.2.2.2.1, (HO.out _ hS).2.1.2.2.2.2.2.2.1, (HO.out _ hS).2.1.2.2.2.2.2.2.2.1, (HO.out _ hS).2.1.2.2.2.2.2.2.2.2.1, (HO.out _ hS).2.1.2.2.2.2.2.2.2.2.2.1, (HO.out _ hS).2.1.2.2.2.2.2.2.2.2.2.2, hS⟩) | (have hS := HM.out _ _ hSr ((Below.refl _ _).drew); exact ⟨(HO.out _ hS).1.1, (HO.out _ hS).1.2.1, (HO.out _ hS).1.2.2.1, (HO.out _ hS).1.2.2.2.1, (HO.out _ hS).1.2.2.2.2.1, (HO.out _ hS).1.2.2.2.2.2.1, (HO.out _ hS).1.2.2.2.2.2.2.1, (HO.out _ hS).1.2.2.2.2.2.2.2.1, (HO.out _ hS).1.2.2.2.2.2.2.2.2.1, (HO.out _ hS).1.2.2.2.2.2.2.2.2.2.1, (HO.out _ hS).1.2.2.2.2.2.2.2.2.2.2, (HO.out _ hS).2.1.1, (HO.out _ hS).2.1.2.1, (HO.out _ hS).2.1.2.2.1, (HO.out _ hS).2.1.2.2.2.1, (HO.out _ hS).2.1.2.2.2.2.1, (HO.out _ hS).2.1.2.2.2.2.2.1, (HO.out _ hS).2.1.2.2.2.2.2.2.1, (HO.out _ hS).2.1.2.2.2.2.2.2.2.1, (HO.out _ hS).2.1.2.2.2.2.2.2.2.2.1, (HO.out _ hS).2.1.2.2.2.2.2.2.2.2.2.1, (HO.out _ hS).2.1.2.2.2.2.2.2.2.2.2.2, hS⟩))
            (first
              | (go_at_call 9; (with_reducible refine (C9t.out _ ?_).mono ?_); (go_split_ands; assumption); rintro e wa ⟨rfl, hS⟩)
              | (go_at_call 9; (with_reducible refine (C9u.out _ ?_).mono ?_); (go_split_ands; assumption); rintro e wa ⟨rfl, hS⟩)
              | (go_at_call 6; (with_reducible refine (C6.out _ ?_).mono ?_); (go_split_ands; assumption); rintro e wa ⟨rfl, hS⟩))
          all_goals
            go_wp2
            go_ret
            refine ⟨rfl, FIN.out _ ?_⟩
            go_split_ands
            assumption
        · have hst := str_ne (fun e => htu (HA.out e))
          by_cases hk : t.kind = u.kind
          · have hk' : (t.kind == u.kind) = true := by simpa using hk
            by_cases hcl : t.cls = u.cls
            · have hcl' : (t.cls.toList == u.cls.toList) = true := by rw [hcl]; simp
              by_cases hn : t.n = u.n
              · have hn' : (t.n == u.n) = true := by simpa using hn
                have hso : t.sameO u = false := by
                  cases hq : t.sameO u with
                  | false => rfl
                  | true => exact absurd (same_ty hk hcl hn hq) htu
                have hE := eqO t u hso
                clear hk hcl hn htu hso
                go_upto_region 13 with fail
                go_region_held3 (fun w' => w'.cell? ⟨g, 0, none⟩ = some (.int .i64 t.kind) ∧ w'.cell? ⟨g, 1, none⟩ = some (.string t.cls) ∧ w'.cell? ⟨g, 2, none⟩ = some (.int .i64 t.n) ∧ w'.cell? ⟨g, 3, none⟩ = some (.int .i64 t.o0.kind) ∧ w'.cell? ⟨g, 4, none⟩ = some (.int .i64 t.o0.n) ∧ w'.cell? ⟨g, 5, none⟩ = some (.int .i64 t.o1.kind) ∧ w'.cell? ⟨g, 6, none⟩ = some (.int .i64 t.o1.n) ∧ w'.cell? ⟨g, 7, none⟩ = some (.int .i64 t.o2.kind) ∧ w'.cell? ⟨g, 8, none⟩ = some (.int .i64 t.o2.n) ∧ w'.cell? ⟨g, 9, none⟩ = some (.int .i64 t.o3.kind) ∧ w'.cell? ⟨g, 10, none⟩ = some (.int .i64 t.o3.n) ∧ w'.cell? ⟨r, 0, none⟩ = some (.int .i64 u.kind) ∧ w'.cell? ⟨r, 1, none⟩ = some (.string u.cls) ∧ w'.cell? ⟨r, 2, none⟩ = some (.int .i64 u.n) ∧ w'.cell? ⟨r, 3, none⟩ = some (.int .i64 u.o0.kind) ∧ w'.cell? ⟨r, 4, none⟩ = some (.int .i64 u.o0.n) ∧ w'.cell? ⟨r, 5, none⟩ = some (.int .i64 u.o1.kind) ∧ w'.cell? ⟨r, 6, none⟩ = some (.int .i64 u.o1.n) ∧ w'.cell? ⟨r, 7, none⟩ = some (.int .i64 u.o2.kind) ∧ w'.cell? ⟨r, 8, none⟩ = some (.int .i64 u.o2.n) ∧ w'.cell? ⟨r, 9, none⟩ = some (.int .i64 u.o3.kind) ∧ w'.cell? ⟨r, 10, none⟩ = some (.int .i64 u.o3.n) ∧ HS w')
                  (first | exact (show _ ∧ _ from ⟨(HO.out _ hS).1.1, (HO.out _ hS).1.2.1, (HO.out _ hS).1.2.2.1, (HO.out _ hS).1.2.2.2.1, (HO.out _ hS).1.2.2.2.2.1, (HO.out _ hS).1.2.2.2.2.2.1, (HO.out _ hS).1.2.2.2.2.2.2.1, (HO.out _ hS).1.2.2.2.2.2.2.2.1, (HO.out _ hS).1.2.2.2.2.2.2.2.2.1, (HO.out _ hS).1.2.2.2.2.2.2.2.2.2.1, (HO.out _ hS).1.2.2.2.2.2.2.2.2.2.2, (HO.out _ hS).2.1.1, (HO.out _ hS).2.1.2.1, (HO.out _ hS).2.1.2.2.1, (HO.out _ hS).2.1.2.2.2.1, (HO.out _ hS).2.1.2.2.2.2.1, (HO.out _ hS).2.1.2.2.2.2.2.1, (HO.out _ hS).2.1.2.2.2.2.2.2.1, (HO.out _ hS).2.1.2.2.2.2.2.2.2.1, (HO.out _ hS).2.1.2.2.2.2.2.2.2.2.1, (HO.out _ hS).2.1.2.2.2.2.2.2.2.2.2.1, (HO.out _ hS).2.1.2.2.2.2.2.2.2.2.2.2, hS⟩) | (have hS := HM.out _ _ hSr ((Below.refl _ _).drew); exact ⟨(HO.out _ hS).1.1, (HO.out _ hS).1.2.1, (HO.out _ hS).1.2.2.1, (HO.out _ hS).1.2.2.2.1, (HO.out _ hS).1.2.2.2.2.1, (HO.out _ hS).1.2.2.2.2.2.1, (HO.out _ hS).1.2.2.2.2.2.2.1, (HO.out _ hS).1.2.2.2.2.2.2.2.1, (HO.out _ hS).1.2.2.2.2.2.2.2.2.1, (HO.out _ hS).1.2.2.2.2.2.2.2.2.2.1, (HO.out _ hS).1.2.2.2.2.2.2.2.2.2.2, (HO.out _ hS).2.1.1, (HO.out _ hS).2.1.2.1, (HO.out _ hS).2.1.2.2.1, (HO.out _ hS).2.1.2.2.2.1, (HO.out _ hS).2.1.2.2.2.2.1, (HO.out _ hS).2.1.2.2.2.2.2.1, (HO.out _ hS).2.1.2.2.2.2.2.2.1, (HO.out _ hS).2.1.2.2.2.2.2.2.2.1, (HO.out _ hS).2.1.2.2.2.2.2.2.2.2.1, (HO.out _ hS).2.1.2.2.2.2.2.2.2.2.2.1, (HO.out _ hS).2.1.2.2.2.2.2.2.2.2.2.2, hS⟩))
                  (first
                    | (go_at_call 9; (with_reducible refine (C9t.out _ ?_).mono ?_); (go_split_ands; assumption); rintro e wa ⟨rfl, hS⟩)
                    | (go_at_call 9; (with_reducible refine (C9u.out _ ?_).mono ?_); (go_split_ands; assumption); rintro e wa ⟨rfl, hS⟩)
                    | (go_at_call 6; (with_reducible refine (C6.out _ ?_).mono ?_); (go_split_ands; assumption); rintro e wa ⟨rfl, hS⟩))
                all_goals
                  go_wp2
                  go_ret
                  refine ⟨rfl, FIN.out _ ?_⟩
                  go_split_ands
                  assumption
              · have hn' := beq_no hn
                clear hk hcl hn htu
                go_upto_region 13 with fail
                go_region_held3 (fun w' => w'.cell? ⟨g, 0, none⟩ = some (.int .i64 t.kind) ∧ w'.cell? ⟨g, 1, none⟩ = some (.string t.cls) ∧ w'.cell? ⟨g, 2, none⟩ = some (.int .i64 t.n) ∧ w'.cell? ⟨g, 3, none⟩ = some (.int .i64 t.o0.kind) ∧ w'.cell? ⟨g, 4, none⟩ = some (.int .i64 t.o0.n) ∧ w'.cell? ⟨g, 5, none⟩ = some (.int .i64 t.o1.kind) ∧ w'.cell? ⟨g, 6, none⟩ = some (.int .i64 t.o1.n) ∧ w'.cell? ⟨g, 7, none⟩ = some (.int .i64 t.o2.kind) ∧ w'.cell? ⟨g, 8, none⟩ = some (.int .i64 t.o2.n) ∧ w'.cell? ⟨g, 9, none⟩ = some (.int .i64 t.o3.kind) ∧ w'.cell? ⟨g, 10, none⟩ = some (.int .i64 t.o3.n) ∧ w'.cell? ⟨r, 0, none⟩ = some (.int .i64 u.kind) ∧ w'.cell? ⟨r, 1, none⟩ = some (.string u.cls) ∧ w'.cell? ⟨r, 2, none⟩ = some (.int .i64 u.n) ∧ w'.cell? ⟨r, 3, none⟩ = some (.int .i64 u.o0.kind) ∧ w'.cell? ⟨r, 4, none⟩ = some (.int .i64 u.o0.n) ∧ w'.cell? ⟨r, 5, none⟩ = some (.int .i64 u.o1.kind) ∧ w'.cell? ⟨r, 6, none⟩ = some (.int .i64 u.o1.n) ∧ w'.cell? ⟨r, 7, none⟩ = some (.int .i64 u.o2.kind) ∧ w'.cell? ⟨r, 8, none⟩ = some (.int .i64 u.o2.n) ∧ w'.cell? ⟨r, 9, none⟩ = some (.int .i64 u.o3.kind) ∧ w'.cell? ⟨r, 10, none⟩ = some (.int .i64 u.o3.n) ∧ HS w')
                  (first | exact (show _ ∧ _ from ⟨(HO.out _ hS).1.1, (HO.out _ hS).1.2.1, (HO.out _ hS).1.2.2.1, (HO.out _ hS).1.2.2.2.1, (HO.out _ hS).1.2.2.2.2.1, (HO.out _ hS).1.2.2.2.2.2.1, (HO.out _ hS).1.2.2.2.2.2.2.1, (HO.out _ hS).1.2.2.2.2.2.2.2.1, (HO.out _ hS).1.2.2.2.2.2.2.2.2.1, (HO.out _ hS).1.2.2.2.2.2.2.2.2.2.1, (HO.out _ hS).1.2.2.2.2.2.2.2.2.2.2, (HO.out _ hS).2.1.1, (HO.out _ hS).2.1.2.1, (HO.out _ hS).2.1.2.2.1, (HO.out _ hS).2.1.2.2.2.1, (HO.out _ hS).2.1.2.2.2.2.1, (HO.out _ hS).2.1.2.2.2.2.2.1, (HO.out _ hS).2.1.2.2.2.2.2.2.1, (HO.out _ hS).2.1.2.2.2.2.2.2.2.1, (HO.out _ hS).2.1.2.2.2.2.2.2.2.2.1, (HO.out _ hS).2.1.2.2.2.2.2.2.2.2.2.1, (HO.out _ hS).2.1.2.2.2.2.2.2.2.2.2.2, hS⟩) | (have hS := HM.out _ _ hSr ((Below.refl _ _).drew); exact ⟨(HO.out _ hS).1.1, (HO.out _ hS).1.2.1, (HO.out _ hS).1.2.2.1, (HO.out _ hS).1.2.2.2.1, (HO.out _ hS).1.2.2.2.2.1, (HO.out _ hS).1.2.2.2.2.2.1, (HO.out _ hS).1.2.2.2.2.2.2.1, (HO.out _ hS).1.2.2.2.2.2.2.2.1, (HO.out _ hS).1.2.2.2.2.2.2.2.2.1, (HO.out _ hS).1.2.2.2.2.2.2.2.2.2.1, (HO.out _ hS).1.2.2.2.2.2.2.2.2.2.2, (HO.out _ hS).2.1.1, (HO.out _ hS).2.1.2.1, (HO.out _ hS).2.1.2.2.1, (HO.out _ hS).2.1.2.2.2.1, (HO.out _ hS).2.1.2.2.2.2.1, (HO.out _ hS).2.1.2.2.2.2.2.1, (HO.out _ hS).2.1.2.2.2.2.2.2.1, (HO.out _ hS).2.1.2.2.2.2.2.2.2.1, (HO.out _ hS).2.1.2.2.2.2.2.2.2.2.1, (HO.out _ hS).2.1.2.2.2.2.2.2.2.2.2.1, (HO.out _ hS).2.1.2.2.2.2.2.2.2.2.2.2, hS⟩))
                  (first
                    | (go_at_call 9; (with_reducible refine (C9t.out _ ?_).mono ?_); (go_split_ands; assumption); rintro e wa ⟨rfl, hS⟩)
                    | (go_at_call 9; (with_reducible refine (C9u.out _ ?_).mono ?_); (go_split_ands; assumption); rintro e wa ⟨rfl, hS⟩)
                    | (go_at_call 6; (with_reducible refine (C6.out _ ?_).mono ?_); (go_split_ands; assumption); rintro e wa ⟨rfl, hS⟩))
                all_goals
                  go_wp2
                  go_ret
                  refine ⟨rfl, FIN.out _ ?_⟩
                  go_split_ands
                  assumption
            · have hcl' := str_ne hcl
              clear hk hcl htu
              go_upto_region 13 with fail
              go_region_held3 (fun w' => w'.cell? ⟨g, 0, none⟩ = some (.int .i64 t.kind) ∧ w'.cell? ⟨g, 1, none⟩ = some (.string t.cls) ∧ w'.cell? ⟨g, 2, none⟩ = some (.int .i64 t.n) ∧ w'.cell? ⟨g, 3, none⟩ = some (.int .i64 t.o0.kind) ∧ w'.cell? ⟨g, 4, none⟩ = some (.int .i64 t.o0.n) ∧ w'.cell? ⟨g, 5, none⟩ = some (.int .i64 t.o1.kind) ∧ w'.cell? ⟨g, 6, none⟩ = some (.int .i64 t.o1.n) ∧ w'.cell? ⟨g, 7, none⟩ = some (.int .i64 t.o2.kind) ∧ w'.cell? ⟨g, 8, none⟩ = some (.int .i64 t.o2.n) ∧ w'.cell? ⟨g, 9, none⟩ = some (.int .i64 t.o3.kind) ∧ w'.cell? ⟨g, 10, none⟩ = some (.int .i64 t.o3.n) ∧ w'.cell? ⟨r, 0, none⟩ = some (.int .i64 u.kind) ∧ w'.cell? ⟨r, 1, none⟩ = some (.string u.cls) ∧ w'.cell? ⟨r, 2, none⟩ = some (.int .i64 u.n) ∧ w'.cell? ⟨r, 3, none⟩ = some (.int .i64 u.o0.kind) ∧ w'.cell? ⟨r, 4, none⟩ = some (.int .i64 u.o0.n) ∧ w'.cell? ⟨r, 5, none⟩ = some (.int .i64 u.o1.kind) ∧ w'.cell? ⟨r, 6, none⟩ = some (.int .i64 u.o1.n) ∧ w'.cell? ⟨r, 7, none⟩ = some (.int .i64 u.o2.kind) ∧ w'.cell? ⟨r, 8, none⟩ = some (.int .i64 u.o2.n) ∧ w'.cell? ⟨r, 9, none⟩ = some (.int .i64 u.o3.kind) ∧ w'.cell? ⟨r, 10, none⟩ = some (.int .i64 u.o3.n) ∧ HS w')
                (first | exact (show _ ∧ _ from ⟨(HO.out _ hS).1.1, (HO.out _ hS).1.2.1, (HO.out _ hS).1.2.2.1, (HO.out _ hS).1.2.2.2.1, (HO.out _ hS).1.2.2.2.2.1, (HO.out _ hS).1.2.2.2.2.2.1, (HO.out _ hS).1.2.2.2.2.2.2.1, (HO.out _ hS).1.2.2.2.2.2.2.2.1, (HO.out _ hS).1.2.2.2.2.2.2.2.2.1, (HO.out _ hS).1.2.2.2.2.2.2.2.2.2.1, (HO.out _ hS).1.2.2.2.2.2.2.2.2.2.2, (HO.out _ hS).2.1.1, (HO.out _ hS).2.1.2.1, (HO.out _ hS).2.1.2.2.1, (HO.out _ hS).2.1.2.2.2.1, (HO.out _ hS).2.1.2.2.2.2.1, (HO.out _ hS).2.1.2.2.2.2.2.1, (HO.out _ hS).2.1.2.2.2.2.2.2.1, (HO.out _ hS).2.1.2.2.2.2.2.2.2.1, (HO.out _ hS).2.1.2.2.2.2.2.2.2.2.1, (HO.out _ hS).2.1.2.2.2.2.2.2.2.2.2.1, (HO.out _ hS).2.1.2.2.2.2.2.2.2.2.2.2, hS⟩) | (have hS := HM.out _ _ hSr ((Below.refl _ _).drew); exact ⟨(HO.out _ hS).1.1, (HO.out _ hS).1.2.1, (HO.out _ hS).1.2.2.1, (HO.out _ hS).1.2.2.2.1, (HO.out _ hS).1.2.2.2.2.1, (HO.out _ hS).1.2.2.2.2.2.1, (HO.out _ hS).1.2.2.2.2.2.2.1, (HO.out _ hS).1.2.2.2.2.2.2.2.1, (HO.out _ hS).1.2.2.2.2.2.2.2.2.1, (HO.out _ hS).1.2.2.2.2.2.2.2.2.2.1, (HO.out _ hS).1.2.2.2.2.2.2.2.2.2.2, (HO.out _ hS).2.1.1, (HO.out _ hS).2.1.2.1, (HO.out _ hS).2.1.2.2.1, (HO.out _ hS).2.1.2.2.2.1, (HO.out _ hS).2.1.2.2.2.2.1, (HO.out _ hS).2.1.2.2.2.2.2.1, (HO.out _ hS).2.1.2.2.2.2.2.2.1, (HO.out _ hS).2.1.2.2.2.2.2.2.2.1, (HO.out _ hS).2.1.2.2.2.2.2.2.2.2.1, (HO.out _ hS).2.1.2.2.2.2.2.2.2.2.2.1, (HO.out _ hS).2.1.2.2.2.2.2.2.2.2.2.2, hS⟩))
                (first
                  | (go_at_call 9; (with_reducible refine (C9t.out _ ?_).mono ?_); (go_split_ands; assumption); rintro e wa ⟨rfl, hS⟩)
                  | (go_at_call 9; (with_reducible refine (C9u.out _ ?_).mono ?_); (go_split_ands; assumption); rintro e wa ⟨rfl, hS⟩)
                  | (go_at_call 6; (with_reducible refine (C6.out _ ?_).mono ?_); (go_split_ands; assumption); rintro e wa ⟨rfl, hS⟩))
              all_goals
                go_wp2
                go_ret
                refine ⟨rfl, FIN.out _ ?_⟩
                go_split_ands
                assumption
          · have hk' := beq_no hk
            clear hk htu
            go_upto_region 13 with fail
            go_region_held3 (fun w' => w'.cell? ⟨g, 0, none⟩ = some (.int .i64 t.kind) ∧ w'.cell? ⟨g, 1, none⟩ = some (.string t.cls) ∧ w'.cell? ⟨g, 2, none⟩ = some (.int .i64 t.n) ∧ w'.cell? ⟨g, 3, none⟩ = some (.int .i64 t.o0.kind) ∧ w'.cell? ⟨g, 4, none⟩ = some (.int .i64 t.o0.n) ∧ w'.cell? ⟨g, 5, none⟩ = some (.int .i64 t.o1.kind) ∧ w'.cell? ⟨g, 6, none⟩ = some (.int .i64 t.o1.n) ∧ w'.cell? ⟨g, 7, none⟩ = some (.int .i64 t.o2.kind) ∧ w'.cell? ⟨g, 8, none⟩ = some (.int .i64 t.o2.n) ∧ w'.cell? ⟨g, 9, none⟩ = some (.int .i64 t.o3.kind) ∧ w'.cell? ⟨g, 10, none⟩ = some (.int .i64 t.o3.n) ∧ w'.cell? ⟨r, 0, none⟩ = some (.int .i64 u.kind) ∧ w'.cell? ⟨r, 1, none⟩ = some (.string u.cls) ∧ w'.cell? ⟨r, 2, none⟩ = some (.int .i64 u.n) ∧ w'.cell? ⟨r, 3, none⟩ = some (.int .i64 u.o0.kind) ∧ w'.cell? ⟨r, 4, none⟩ = some (.int .i64 u.o0.n) ∧ w'.cell? ⟨r, 5, none⟩ = some (.int .i64 u.o1.kind) ∧ w'.cell? ⟨r, 6, none⟩ = some (.int .i64 u.o1.n) ∧ w'.cell? ⟨r, 7, none⟩ = some (.int .i64 u.o2.kind) ∧ w'.cell? ⟨r, 8, none⟩ = some (.int .i64 u.o2.n) ∧ w'.cell? ⟨r, 9, none⟩ = some (.int .i64 u.o3.kind) ∧ w'.cell? ⟨r, 10, none⟩ = some (.int .i64 u.o3.n) ∧ HS w')
              (first | exact (show _ ∧ _ from ⟨(HO.out _ hS).1.1, (HO.out _ hS).1.2.1, (HO.out _ hS).1.2.2.1, (HO.out _ hS).1.2.2.2.1, (HO.out _ hS).1.2.2.2.2.1, (HO.out _ hS).1.2.2.2.2.2.1, (HO.out _ hS).1.2.2.2.2.2.2.1, (HO.out _ hS).1.2.2.2.2.2.2.2.1, (HO.out _ hS).1.2.2.2.2.2.2.2.2.1, (HO.out _ hS).1.2.2.2.2.2.2.2.2.2.1, (HO.out _ hS).1.2.2.2.2.2.2.2.2.2.2, (HO.out _ hS).2.1.1, (HO.out _ hS).2.1.2.1, (HO.out _ hS).2.1.2.2.1, (HO.out _ hS).2.1.2.2.2.1, (HO.out _ hS).2.1.2.2.2.2.1, (HO.out _ hS).2.1.2.2.2.2.2.1, (HO.out _ hS).2.1.2.2.2.2.2.2.1, (HO.out _ hS).2.1.2.2.2.2.2.2.2.1, (HO.out _ hS).2.1.2.2.2.2.2.2.2.2.1, (HO.out _ hS).2.1.2.2.2.2.2.2.2.2.2.1, (HO.out _ hS).2.1.2.2.2.2.2.2.2.2.2.2, hS⟩) | (have hS := HM.out _ _ hSr ((Below.refl _ _).drew); exact ⟨(HO.out _ hS).1.1, (HO.out _ hS).1.2.1, (HO.out _ hS).1.2.2.1, (HO.out _ hS).1.2.2.2.1, (HO.out _ hS).1.2.2.2.2.1, (HO.out _ hS).1.2.2.2.2.2.1, (HO.out _ hS).1.2.2.2.2.2.2.1, (HO.out _ hS).1.2.2.2.2.2.2.2.1, (HO.out _ hS).1.2.2.2.2.2.2.2.2.1, (HO.out _ hS).1.2.2.2.2.2.2.2.2.2.1, (HO.out _ hS).1.2.2.2.2.2.2.2.2.2.2, (HO.out _ hS).2.1.1, (HO.out _ hS).2.1.2.1, (HO.out _ hS).2.1.2.2.1, (HO.out _ hS).2.1.2.2.2.1, (HO.out _ hS).2.1.2.2.2.2.1, (HO.out _ hS).2.1.2.2.2.2.2.1, (HO.out _ hS).2.1.2.2.2.2.2.2.1, (HO.out _ hS).2.1.2.2.2.2.2.2.2.1, (HO.out _ hS).2.1.2.2.2.2.2.2.2.2.1, (HO.out _ hS).2.1.2.2.2.2.2.2.2.2.2.1, (HO.out _ hS).2.1.2.2.2.2.2.2.2.2.2.2, hS⟩))
              (first
                | (go_at_call 9; (with_reducible refine (C9t.out _ ?_).mono ?_); (go_split_ands; assumption); rintro e wa ⟨rfl, hS⟩)
                | (go_at_call 9; (with_reducible refine (C9u.out _ ?_).mono ?_); (go_split_ands; assumption); rintro e wa ⟨rfl, hS⟩)
                | (go_at_call 6; (with_reducible refine (C6.out _ ?_).mono ?_); (go_split_ands; assumption); rintro e wa ⟨rfl, hS⟩))
            all_goals
              go_wp2
              go_ret
              refine ⟨rfl, FIN.out _ ?_⟩
              go_split_ands
              assumption
end Go.Proofs.YtemhfbfodpeeaaaDoor
