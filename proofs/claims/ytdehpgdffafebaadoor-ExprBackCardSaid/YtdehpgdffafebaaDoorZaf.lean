/- Whether two expressions are the same, by the document's answer. Conditions: none.
strconv.Itoa, as the shelf's contract says it, at this program's numbers: the decimal numeral of any int; older memory stays. Conditions: the table of powers of ten lies in memory.
What the program and the document's answer say of the digits of a number. Conditions: for the program, the table of powers of ten lies in memory. -/
import Derived.Test.YtdehpgdffafebaaDoorZad
import Derived.Shelf.LaysM
import Derived.Shelf.Strconv.Itoa3
import Derived.Test.YtdehpgdffafebaaDoorZab
import Derived.Laws.BytesArg
namespace Go.Proofs.YtdehpgdffafebaaDoor
open Go.RowKit
set_option linter.unusedVariables false

/-- Two boxes of expressions behind what was there, which stays. -/
structure Two (w : World) (k n : Int) (s : ByteArray) (A : Option Addr) (L c : Nat) (k' n' : Int) (s' : ByteArray) (A' : Option Addr) (L' c' : Nat) (W : World) : Prop where
  b0 : W.heap[w.heap.size]? = some (.cells #[.int .i64 k, .int .i64 n, .string s, .slice A L c] 24 (0, 0))
  b1 : W.heap[w.heap.size + 1]? = some (.cells #[.int .i64 k', .int .i64 n', .string s', .slice A' L' c'] 24 (0, 0))
  below : Below w.heap.size w W
theorem Two.step {w : World} {k n : Int} {s : ByteArray} {A : Option Addr} {L c : Nat} {k' n' : Int} {s' : ByteArray} {A' : Option Addr} {L' c' : Nat} {W W' : World} (h : Two w k n s A L c k' n' s' A' L' c' W) (hb : Below W.heap.size W W') : Two w k n s A L c k' n' s' A' L' c' W' :=
  ⟨(hb.block _ (heap_lt h.b0)).trans h.b0, (hb.block _ (heap_lt h.b1)).trans h.b1, h.below.trans (hb.mono h.below.size)⟩
theorem Two.new {w : World} {k n : Int} {s : ByteArray} {A : Option Addr} {L c : Nat} {k' n' : Int} {s' : ByteArray} {A' : Option Addr} {L' c' : Nat} :
    Two w k n s A L c k' n' s' A' L' c' ((w.alloc (.cells #[.int .i64 k, .int .i64 n, .string s, .slice A L c] 24)).alloc (.cells #[.int .i64 k', .int .i64 n', .string s', .slice A' L' c'] 24)) :=
  ⟨(Below.heap_alloc _ _ _ (by simp)).trans (heap_new w _), by
    have := heap_new (w.alloc (.cells #[.int .i64 k, .int .i64 n, .string s, .slice A L c] 24)) (.cells #[.int .i64 k', .int .i64 n', .string s', .slice A' L' c'] 24)
    rwa [World.size_alloc] at this, ((Below.refl _ w).alloc (Nat.le_refl _) _).alloc (by simp) _⟩
theorem row4 {W : World} {g : Nat} {a b c d : Value} {t : TypeId} (h : W.heap[g]? = some (.cells #[a, b, c, d] t (0, 0))) :
    W.cell? ⟨g, 0, none⟩ = some a ∧ W.cell? ⟨g, 1, none⟩ = some b ∧ W.cell? ⟨g, 2, none⟩ = some c ∧ W.cell? ⟨g, 3, none⟩ = some d :=
  ⟨cell_of_row W _ 0 _ _ (0, 0) h, cell_of_row W _ 1 _ _ (0, 0) h, cell_of_row W _ 2 _ _ (0, 0) h, cell_of_row W _ 3 _ _ (0, 0) h⟩

theorem same_k {k n : Int} {s : ByteArray} {l : List E} {k' n' : Int} {s' : ByteArray} {l' : List E} (h : ¬ k = k') : E.same (.mk k n s l) (.mk k' n' s' l') = false := by rw [E.same]; simp [h]
theorem same_n {k n : Int} {s : ByteArray} {l : List E} {k' n' : Int} {s' : ByteArray} {l' : List E} (h : ¬ n = n') : E.same (.mk k n s l) (.mk k' n' s' l') = false := by rw [E.same]; simp [h]
theorem same_s {k n : Int} {s : ByteArray} {l : List E} {k' n' : Int} {s' : ByteArray} {l' : List E} (h : ¬ s = s') : E.same (.mk k n s l) (.mk k' n' s' l') = false := by rw [E.same]; simp [h]
theorem same_l {k n : Int} {s : ByteArray} {l : List E} {k' n' : Int} {s' : ByteArray} {l' : List E} (h : ¬ l.length = l'.length) : E.same (.mk k n s l) (.mk k' n' s' l') = false := by rw [E.same]; simp [h]
theorem same_all {k n : Int} {s : ByteArray} {l l' : List E} (h : l.length = l'.length) : E.same (.mk k n s l) (.mk k n s l') = E.sames l l' := by rw [E.same]; simp [h]
theorem str_self (s : ByteArray) : (s.toList != s.toList) = false := by simp
theorem str_neq {s t : ByteArray} (h : ¬ s = t) : (s.toList == t.toList) = false := by
  cases e : (s.toList == t.toList) with
  | false => rfl
  | true => exact absurd (str_yes e) h
theorem str_ne {s t : ByteArray} (h : ¬ s = t) : (s.toList != t.toList) = true := by
  have : (s.toList == t.toList) = false := by
    cases e : (s.toList == t.toList) with
    | false => rfl
    | true => exact absurd (str_yes e) h
  unfold bne; rw [this]; rfl

set_option maxRecDepth 100000 in
set_option maxHeartbeats 2000000 in
theorem refSame_any : ∀ (m : Nat) (e d : E) (v v' : Value) (w : World), E.count e ≤ m → InV w.heap.size w e v → InV w.heap.size w d v' → Calls Tryd.prog 14 #[v, v'] w fun x w' => x = .returned (.bool (E.same e d)) ∧ Below w.heap.size w w' := by
  intro m
  induction m with
  | zero => intro e d v v' w h; have := E.count_pos e; omega
  | succ m ih =>
    intro e d v v' w hm hv hv'
    obtain ⟨k, n, s, l, A, c, rfl, rfl, hn, hlc, hcm, hk⟩ := hv.open
    obtain ⟨k', n', s', l', A', c', rfl, rfl, hn', hlc', hcm', hk'⟩ := hv'.open
    have hl1 : l.length ≤ 9223372036854775807 := by unfold maxLen at hcm; omega
    have hl1' : l'.length ≤ 9223372036854775807 := by unfold maxLen at hcm'; omega
    have HK : Hid (KidsIn w.heap.size w A l) := Lib.hid hk
    have HK' : Hid (KidsIn w.heap.size w A' l') := Lib.hid hk'
    have HI := Lib.hid ih
    have HM := Lib.hid hm
    obtain ⟨L, hL⟩ : ∃ L, L = l.length := ⟨_, rfl⟩
    obtain ⟨L', hL'⟩ : ∃ L', L' = l'.length := ⟨_, rfl⟩
    rw [← hL] at hlc hl1 ⊢
    rw [← hL'] at hlc' hl1' ⊢
    have HL := Lib.hid hL
    have HL' := Lib.hid hL'
    clear hL hL' hk hk' hv hv' hn hn' hm ih hcm hcm'
    have HX : Hid (Two w k n s A L c k' n' s' A' L' c' _) := Lib.hid Two.new
    obtain ⟨z0, z1, z2, z3⟩ := row4 HX.out.b0
    obtain ⟨y0, y1, y2, y3⟩ := row4 HX.out.b1
    have hbX := HX.out.below
    by_cases h1 : k = k'
    · subst h1
      by_cases h2 : n = n'
      · subst h2
        by_cases h3 : s = s'
        · subst h3
          have hss := str_self s
          by_cases h4 : L = L'
          · subst h4
            have HE : Hid (E.same (.mk k n s l) (.mk k n s l') = E.sames l l') := Lib.hid (same_all (HL.out.symm.trans HL'.out))
            go_enter Tryd.func14, Tryd.ntmps14
            go_wp2_with fail
            clear z0 z1 z2 z3 y0 y1 y2 y3 hbX
            go_loopw [5] (fun i wr => ∃ k0 : Nat, k0 ≤ L ∧ i = .int .i64 k0 ∧ Hid (Two w k n s A L c k n s A' L c' wr) ∧ Hid (E.sames (l.drop k0) (l'.drop k0) = E.sames l l')) (fun i _ => L - (intOf i).toNat)
            case atStart => exact ⟨0, by omega, rfl, HX, Lib.hid (by rw [List.drop_zero, List.drop_zero])⟩
            case round =>
              obtain ⟨k0, hk0, rfl, hbox, hz⟩ := hrel
              have hbw := hbox.out.below
              obtain ⟨z0, z1, z2, z3⟩ := row4 hbox.out.b0
              by_cases hlt : k0 < L
              · have hl0 : k0 < l.length := by rw [← HL.out]; exact hlt
                have hl0' : k0 < l'.length := by rw [← HL'.out]; exact hlt
                obtain ⟨b, o, kk, kn, ks, kq, kA, kc, rfl, hbB, he, q0, q1, q2, q3, hvv⟩ := HK.out.at_ hl0
                obtain ⟨b', o', kk', kn', ks', kq', kA', kc', rfl, hbB', he', r0, r1, r2, r3, hvv'⟩ := HK'.out.at_ hl0'
                have HC : Hid (E.count (.mk kk kn ks kq) ≤ m) := Lib.hid (by
                  have h1 := E.count_lt (k := k) (n := n) (s := s) hl0
                  have h2 := HM.out
                  rw [he] at h1; omega)
                have HZ : Hid (E.sames (l.drop k0) (l'.drop k0) = (E.same (.mk kk kn ks kq) (.mk kk' kn' ks' kq') && E.sames (l.drop (k0 + 1)) (l'.drop (k0 + 1)))) := Lib.hid (by rw [E.sames_at hl0 hl0', he, he'])
                obtain ⟨Cl, hCl⟩ : ∃ Cl, Cl = Two w k n s (some ⟨b, o, none⟩) L c k n s (some ⟨b', o', none⟩) L c' := ⟨_, rfl⟩
                have hst : Hid (∀ W W', Cl W → Below W.heap.size W W' → Cl W') := Lib.hid (by rw [hCl]; exact fun W W' h hb => h.step hb)
                have HV : Hid (∀ p : InC Cl, InV p.w.heap.size p.w (.mk kk kn ks kq) (.agg #[.int .i64 kk, .int .i64 kn, .string ks, .slice kA kq.length kc])) := Lib.hid (fun p => by
                  obtain ⟨W, hW⟩ := p; rw [hCl] at hW; exact (hvv.below hW.below).more hW.below.size)
                have HV' : Hid (∀ p : InC Cl, InV p.w.heap.size p.w (.mk kk' kn' ks' kq') (.agg #[.int .i64 kk', .int .i64 kn', .string ks', .slice kA' kq'.length kc'])) := Lib.hid (fun p => by
                  obtain ⟨W, hW⟩ := p; rw [hCl] at hW; exact (hvv'.below hW.below).more hW.below.size)
                have f3 : ∀ p : InC Cl, p.w.cell? ⟨w.heap.size, 3, none⟩ = some (.slice (some ⟨b, o, none⟩) L c) := fun p => by obtain ⟨W, hW⟩ := p; rw [hCl] at hW; exact (row4 hW.b0).2.2.2
                have f3' : ∀ p : InC Cl, p.w.cell? ⟨w.heap.size + 1, 3, none⟩ = some (.slice (some ⟨b', o', none⟩) L c') := fun p => by obtain ⟨W, hW⟩ := p; rw [hCl] at hW; exact (row4 hW.b1).2.2.2
                have g0 : ∀ p : InC Cl, p.w.cell? ⟨b, o + k0 * 4, none⟩ = some (.int .i64 kk) := fun p => by obtain ⟨W, hW⟩ := p; rw [hCl] at hW; exact (hW.below.cell (p := ⟨b, _, none⟩) hbB).trans q0
                have g1 : ∀ p : InC Cl, p.w.cell? ⟨b, o + k0 * 4 + 1, none⟩ = some (.int .i64 kn) := fun p => by obtain ⟨W, hW⟩ := p; rw [hCl] at hW; exact (hW.below.cell (p := ⟨b, _, none⟩) hbB).trans q1
                have g2 : ∀ p : InC Cl, p.w.cell? ⟨b, o + k0 * 4 + 2, none⟩ = some (.string ks) := fun p => by obtain ⟨W, hW⟩ := p; rw [hCl] at hW; exact (hW.below.cell (p := ⟨b, _, none⟩) hbB).trans q2
                have g3 : ∀ p : InC Cl, p.w.cell? ⟨b, o + k0 * 4 + 3, none⟩ = some (.slice kA kq.length kc) := fun p => by obtain ⟨W, hW⟩ := p; rw [hCl] at hW; exact (hW.below.cell (p := ⟨b, _, none⟩) hbB).trans q3
                have g0' : ∀ p : InC Cl, p.w.cell? ⟨b', o' + k0 * 4, none⟩ = some (.int .i64 kk') := fun p => by obtain ⟨W, hW⟩ := p; rw [hCl] at hW; exact (hW.below.cell (p := ⟨b', _, none⟩) hbB').trans r0
                have g1' : ∀ p : InC Cl, p.w.cell? ⟨b', o' + k0 * 4 + 1, none⟩ = some (.int .i64 kn') := fun p => by obtain ⟨W, hW⟩ := p; rw [hCl] at hW; exact (hW.below.cell (p := ⟨b', _, none⟩) hbB').trans r1
                have g2' : ∀ p : InC Cl, p.w.cell? ⟨b', o' + k0 * 4 + 2, none⟩ = some (.string ks') := fun p => by obtain ⟨W, hW⟩ := p; rw [hCl] at hW; exact (hW.below.cell (p := ⟨b', _, none⟩) hbB').trans r2
                have g3' : ∀ p : InC Cl, p.w.cell? ⟨b', o' + k0 * 4 + 3, none⟩ = some (.slice kA' kq'.length kc') := fun p => by obtain ⟨W, hW⟩ := p; rw [hCl] at hW; exact (hW.below.cell (p := ⟨b', _, none⟩) hbB').trans r3
                haveI : Nonempty (InC Cl) := ⟨⟨wr, by rw [hCl]; exact hbox.out⟩⟩
                have HB : Hid (Cl wr.drew) := Lib.hid (by rw [hCl]; exact hbox.out.step (drew_below _))
                have HCl := Lib.hid hCl
                clear hCl he he' hvv hvv' q0 q1 q2 q3 r0 r1 r2 r3
                go_wp2_with fail
                refine region_class (by kernel_rfl) (by kernel_rfl) HB.out ?_
                repeat (go_big_quiet_step ((go_at_call 14; exact cls_call hst.out _ (HI.out _ _ _ _ _ HC.out (HV.out _) (HV'.out _)))))
                refine wpQuiet_nil ?_
                intro _ hw'
                obtain ⟨⟨wq, hq⟩, hw''⟩ := hw'
                subst hw''
                rw [HCl.out] at hq
                have HQ := Lib.hid hq
                have hbq := hq.below
                clear hq f3 f3' g0 g1 g2 g3 g0' g1' g2' g3'
                cases hf : E.same (.mk kk kn ks kq) (.mk kk' kn' ks' kq') with
                | false =>
                  have HN : Hid (E.same (.mk k n s l) (.mk k n s l') = false) := Lib.hid (by rw [HE.out, ← hz.out, HZ.out, hf]; rfl)
                  go_wp2_with fail
                  go_ret
                  exact ⟨by rw [HN.out]; rfl, hbq⟩
                | true =>
                  have HN : Hid (E.sames (l.drop (k0 + 1)) (l'.drop (k0 + 1)) = E.sames l l') := Lib.hid (by rw [← hz.out, HZ.out, hf]; rfl)
                  go_wp2_with fail
                  go_roundw
                  case rel => exact ⟨k0 + 1, by omega, by go_num, HQ, HN⟩
                  case measure => simp [intOf]; omega
              · have HN : Hid (E.same (.mk k n s l) (.mk k n s l') = true) := Lib.hid (by rw [HE.out, ← hz.out, E.sames_end (by rw [← HL.out]; exact hlt)])
                go_wp2_with fail
                go_ret
                exact ⟨by rw [HN.out]; rfl, hbw⟩
          · have HE : Hid (E.same (.mk k n s l) (.mk k n s l') = false) := Lib.hid (same_l (by rw [← HL.out, ← HL'.out]; exact h4))
            have e4 : ((L : Int) != (L' : Int)) = true := by simp; omega
            clear h4
            go_enter Tryd.func14, Tryd.ntmps14
            go_wp2_with fail
            go_ret
            exact ⟨by rw [HE.out]; rfl, hbX⟩
        · have HE : Hid (E.same (.mk k n s l) (.mk k n s' l') = false) := Lib.hid (same_s h3)
          have e3 := str_ne h3
          have e3' := str_neq h3
          clear h3
          go_enter Tryd.func14, Tryd.ntmps14
          go_wp2_with fail
          go_ret
          exact ⟨by rw [HE.out]; rfl, hbX⟩
      · have HE : Hid (E.same (.mk k n s l) (.mk k n' s' l') = false) := Lib.hid (same_n h2)
        have e2 : (n != n') = true := by simpa using h2
        clear h2
        go_enter Tryd.func14, Tryd.ntmps14
        go_wp2_with fail
        go_ret
        exact ⟨by rw [HE.out]; rfl, hbX⟩
    · have HE : Hid (E.same (.mk k n s l) (.mk k' n' s' l') = false) := Lib.hid (same_k h1)
      have e1 : (k != k') = true := by simpa using h1
      clear h1
      go_enter Tryd.func14, Tryd.ntmps14
      go_wp2_with fail
      go_ret
      exact ⟨by rw [HE.out]; rfl, hbX⟩
end Go.Proofs.YtdehpgdffafebaaDoor
namespace Go.Proofs.YtdehpgdffafebaaDoor
open Go.Shelf Go.RowKit Go.Sort
def itoaRen : Go.Shelf.Ren := ⟨fun | 171 => 56 | 243 => 72 | 246 => 81 | 283 => 86 | 284 => 87 | 285 => 88 | 286 => 89 | 129 => 91 | 317 => 90 | 318 => 92 | 319 => 93 | 320 => 94 | 337 => 95 | 338 => 96  | n => n, fun | 3 => 3 | 9 => 9 | 2 => 2 | 4 => 4 | 171 => 113 | 0 => 0 | 53 => 114 | 37 => 85 | 5 => 5 | 173 => 117 | 212 => 120 | 51 => 121 | 20 => 20 | 213 => 122 | 46 => 124 | 232 => 127 | 233 => 128  | n => n, fun | 17 => 4 | 18 => 5 | 19 => 6 | n => n⟩
theorem itoaLays : Go.Proofs.LaysM.n171 Tryd.prog itoaRen := {
  mixed := by kernel_rfl
  f129 := Tryd.func91.trans (congrArg some (by kernel_rfl))
  f171 := Tryd.func56.trans (congrArg some (by kernel_rfl))
  f243 := Tryd.func72.trans (congrArg some (by kernel_rfl))
  f246 := Tryd.func81.trans (congrArg some (by kernel_rfl))
  f283 := Tryd.func86.trans (congrArg some (by kernel_rfl))
  f284 := Tryd.func87.trans (congrArg some (by kernel_rfl))
  f285 := Tryd.func88.trans (congrArg some (by kernel_rfl))
  f286 := Tryd.func89.trans (congrArg some (by kernel_rfl))
  f317 := Tryd.func90.trans (congrArg some (by kernel_rfl))
  f318 := Tryd.func92.trans (congrArg some (by kernel_rfl))
  f319 := Tryd.func93.trans (congrArg some (by kernel_rfl))
  f320 := Tryd.func94.trans (congrArg some (by kernel_rfl))
  f337 := Tryd.func95.trans (congrArg some (by kernel_rfl))
  f338 := Tryd.func96.trans (congrArg some (by kernel_rfl))
  t0 := Tryd.underlying0
  a0 := Tryd.isAgg0
  z0 := Tryd.sizeOf0
  v0 := Tryd.zeroValue0
  t2 := Tryd.underlying2
  a2 := Tryd.isAgg2
  z2 := Tryd.sizeOf2
  v2 := Tryd.zeroValue2
  t3 := Tryd.underlying3
  a3 := Tryd.isAgg3
  z3 := Tryd.sizeOf3
  v3 := Tryd.zeroValue3
  t4 := Tryd.underlying4
  a4 := Tryd.isAgg4
  z4 := Tryd.sizeOf4
  v4 := Tryd.zeroValue4
  t5 := Tryd.underlying5
  a5 := Tryd.isAgg5
  z5 := Tryd.sizeOf5
  v5 := Tryd.zeroValue5
  t9 := Tryd.underlying9
  a9 := Tryd.isAgg9
  z9 := Tryd.sizeOf9
  v9 := Tryd.zeroValue9
  t20 := Tryd.underlying20
  a20 := Tryd.isAgg20
  z20 := Tryd.sizeOf20
  v20 := Tryd.zeroValue20
  t37 := Tryd.underlying85
  a37 := Tryd.isAgg85
  z37 := Tryd.sizeOf85
  v37 := Tryd.zeroValue85
  t46 := Tryd.underlying124
  a46 := Tryd.isAgg124
  z46 := Tryd.sizeOf124
  v46 := Tryd.zeroValue124
  t51 := Tryd.underlying121
  a51 := Tryd.isAgg121
  z51 := Tryd.sizeOf121
  v51 := Tryd.zeroValue121
  t53 := Tryd.underlying114
  a53 := Tryd.isAgg114
  z53 := Tryd.sizeOf114
  v53 := Tryd.zeroValue114
  t171 := Tryd.underlying113
  a171 := Tryd.isAgg113
  z171 := Tryd.sizeOf113
  v171 := Tryd.zeroValue113
  t173 := Tryd.underlying117
  a173 := Tryd.isAgg117
  z173 := Tryd.sizeOf117
  v173 := Tryd.zeroValue117
  t212 := Tryd.underlying120
  a212 := Tryd.isAgg120
  z212 := Tryd.sizeOf120
  v212 := Tryd.zeroValue120
  t213 := Tryd.underlying122
  a213 := Tryd.isAgg122
  z213 := Tryd.sizeOf122
  t232 := Tryd.underlying127
  a232 := Tryd.isAgg127
  z232 := Tryd.sizeOf127
  v232 := Tryd.zeroValue127
  t233 := Tryd.underlying128
  a233 := Tryd.isAgg128
  z233 := Tryd.sizeOf128
  v233 := Tryd.zeroValue128
  g17 := by kernel_rfl
  g18 := by kernel_rfl
  g19 := by kernel_rfl
  i0 := by kernel_rfl
  i2 := by kernel_rfl
  i3 := by kernel_rfl
  i4 := by kernel_rfl
  i5 := by kernel_rfl
  i9 := by kernel_rfl
  i20 := by kernel_rfl
  i37 := by kernel_rfl
  i46 := by kernel_rfl
  i51 := by kernel_rfl
  i53 := by kernel_rfl
  i171 := by kernel_rfl
  i173 := by kernel_rfl
  i212 := by kernel_rfl
  i232 := by kernel_rfl
  i233 := by kernel_rfl
  m17 := by kernel_rfl
  m18 := by kernel_rfl
  m19 := by kernel_rfl }

theorem itoa_any (n : Int) (h0 : -9223372036854775808 ≤ n) (h1 : n ≤ 9223372036854775807) (w : World) (hp : PowIn w) :
    Calls Tryd.prog 56 #[.int .i64 n] w fun e w' => e = .returned (.string ⟨(Lib.itoa n).toArray⟩) ∧ Below w.heap.size w w' :=
  (Any.strconv_Itoa itoaLays n h0 h1 w hp).mono fun e w' ⟨he, k, os, hw⟩ => ⟨he, by
    subst hw
    exact ⟨rfl, rfl, rfl, by simp [grow], fun b hb => by
      show ((w.drewN k).heap ++ os)[b]? = w.heap[b]?
      have hh : (w.drewN k).heap = w.heap := rfl
      rw [hh, Array.getElem?_append_left hb]⟩⟩
end Go.Proofs.YtdehpgdffafebaaDoor
namespace Go.Proofs.YtdehpgdffafebaaDoor
open Go.RowKit
open Go.Lib (decDigits itoa)

theorem digits_any (n : Int) (h0 : -9223372036854775808 ≤ n) (h1 : n ≤ 9223372036854775807) (w : World) (hp : PowIn w) :
    Calls Tryd.prog 37 #[.int .i64 n] w fun e w' => e = .returned (.string ⟨(Lib.itoa n).toArray⟩) ∧ Below w.heap.size w w' := by
  go_enter Tryd.func37, Tryd.ntmps37
  go_wp2_with fail
  refine (itoa_any n h0 h1 _ hp).mono ?_
  rintro e w1 ⟨rfl, hb1⟩
  go_wp2
  go_ret
  exact ⟨rfl, hb1⟩

/-- A text of one byte. -/
def one (x : Int) : ByteArray := ⟨#[UInt8.ofNat x.toNat]⟩
theorem one_size (x : Int) : (one x).size = 1 := rfl
/-- A text of one byte, out of a list of one. -/
theorem conv1 (W : World) (x : Int) : (convert 85 9 (.slice (some ⟨W.heap.size, 0, none⟩) 1 1)).run Tryd.prog (W.alloc (.cells #[.int .u8 x] 5)) =
    .ok (.string (one x)) (W.alloc (.cells #[.int .u8 x] 5)) := by
  refine run_convert_bytes_arg (W.alloc (.cells #[.int .u8 x] 5))  85 5 Tryd.underlying85 Tryd.underlying5 W.heap.size 0 1 1 [x] rfl ?_ 9 Tryd.underlying9
  intro i hi
  obtain rfl : i = 0 := by omega
  exact cell_of_row _ W.heap.size 0 #[.int .u8 x] 5 (0, 0) (heap_new W _)

/-- The digits ahead of the last. -/
def pre (v : Nat) : List UInt8 := if v < 10 then [] else decDigits (v / 10)
theorem dec_pre (v : Nat) : decDigits v = pre v ++ (one (48 + (v : Int) % 10)).data.toList := by
  have hb : (one (48 + (v : Int) % 10)).data.toList = [UInt8.ofNat (48 + v % 10)] := by
    have h : ((48 : Int) + (v : Int) % 10).toNat = 48 + v % 10 := by omega
    show [UInt8.ofNat _] = _
    rw [h]
  rw [hb]
  unfold pre
  by_cases h : v < 10
  · rw [if_pos h, Wd.dec_small h, Nat.mod_eq_of_lt h]; rfl
  · rw [if_neg h, Wd.dec_big h]
theorem app_list (a b : ByteArray) : (a ++ b).data.toList = a.data.toList ++ b.data.toList := by
  rw [ByteArray.data_append, Array.toList_append]
theorem of_list (b : ByteArray) (l : List UInt8) (h : b.data.toList = l) : b = ⟨l.toArray⟩ := by
  subst h; cases b; simp

theorem bytes_app (a b : List UInt8) : (⟨a.toArray⟩ : ByteArray) ++ ⟨b.toArray⟩ = ⟨(a ++ b).toArray⟩ :=
  of_list _ _ (by rw [app_list])

theorem pre_step (u v : Nat) (S : ByteArray) (h : decDigits u = pre v ++ S.data.toList) (hv : 10 ≤ v) : decDigits u = pre (v / 10) ++ (one (48 + (v : Int) / 10 % 10) ++ S).data.toList := by
  rw [app_list, ← List.append_assoc]
  have h2 := dec_pre (v / 10)
  have h3 : (((v / 10 : Nat) : Int)) = (v : Int) / 10 := by omega
  rw [h3] at h2
  rw [← h2, h]
  unfold pre
  rw [if_neg (by omega)]
theorem pre_end (u v : Nat) (S : ByteArray) (h : decDigits u = pre v ++ S.data.toList) (hv : v < 10) : S = ⟨(decDigits u).toArray⟩ := by
  apply of_list
  rw [h]; unfold pre; rw [if_pos hv]; rfl
theorem size_le (u v : Nat) (S : ByteArray) (h : decDigits u = pre v ++ S.data.toList) (h2 : u ≤ 9223372036854775808) : S.size ≤ 20 := by
  have hl := Lib.decDigits_length u
  have hs : S.data.toList.length = S.size := rfl
  rw [h, List.length_append, hs] at hl
  have : Lib.nDigits u ≤ 20 := by
    rcases Nat.eq_zero_or_pos u with e | e
    · subst e; rw [Lib.nDigits_small (by omega)]; omega
    · have hn := Lib.numDigits_eq u e (by omega)
      have := hn.1
      split at this <;> omega
  omega

theorem refDigits_neg (u : Nat) (h0 : 1 ≤ u) (h1 : u ≤ 9223372036854775808) (w : World) :
    Calls Tryd.prog 42 #[.int .i64 (-(u : Int))] w fun e w' => e = .returned (.string ⟨(Lib.itoa (-(u : Int))).toArray⟩) ∧ Below w.heap.size w w' := by
  have hcv := conv1
  have hu : 0 < u := h0
  go_enter Tryd.func42, Tryd.ntmps42
  go_wp2
  go_loopw [0, 4] (fun n s wr => ∃ (v : Nat) (S : ByteArray), v ≤ 9223372036854775808 ∧ n = .int .i64 (-(v : Int)) ∧ s = .string S ∧ Below w.heap.size w wr ∧ Hid (decDigits u = pre v ++ S.data.toList)) (fun n _ _ => (intOf n).natAbs)
  case atStart =>
    exact ⟨u, _, h1, rfl, rfl, (Below.refl _ w).alloc (Nat.le_refl _) _, dec_pre u⟩
  case round =>
    obtain ⟨v, S, hv, rfl, rfl, hb, hd⟩ := hrel
    have hsz := size_le u v S hd.out h1
    by_cases hge : 10 ≤ v
    · have HS := Lib.hid (pre_step u v S hd.out hge)
      have h1s : ¬ 9223372036854775807 < (one (48 + (v : Int) / 10 % 10)).size + S.size := by rw [one_size]; omega
      go_wp2
      go_roundw
      case rel => exact ⟨v / 10, _, by omega, by go_num, rfl, hb.alloc hb.size _, HS.out⟩
      case measure => simp [intOf]; omega
    · have HS := Lib.hid (pre_end u v S hd.out (by omega))
      go_wp2
      go_ret
      refine ⟨?_, hb⟩
      rw [HS.out]
      unfold itoa
      rw [if_pos (by omega), show (-(u : Int)).natAbs = u by omega]
      exact congrArg (fun x => Ending.returned (.string x)) (bytes_app [45] (decDigits u))

theorem refDigits_pos (u : Nat) (h1 : u ≤ 9223372036854775807) (w : World) :
    Calls Tryd.prog 42 #[.int .i64 (u : Int)] w fun e w' => e = .returned (.string ⟨(Lib.itoa (u : Int)).toArray⟩) ∧ Below w.heap.size w w' := by
  have hcv := conv1
  go_enter Tryd.func42, Tryd.ntmps42
  go_wp2
  go_loopw [0, 4] (fun n s wr => ∃ (v : Nat) (S : ByteArray), v ≤ 9223372036854775808 ∧ n = .int .i64 (-(v : Int)) ∧ s = .string S ∧ Below w.heap.size w wr ∧ Hid (decDigits u = pre v ++ S.data.toList)) (fun n _ _ => (intOf n).natAbs)
  case atStart =>
    exact ⟨u, _, by omega, rfl, rfl, (Below.refl _ w).alloc (Nat.le_refl _) _, dec_pre u⟩
  case round =>
    obtain ⟨v, S, hv, rfl, rfl, hb, hd⟩ := hrel
    have hsz := size_le u v S hd.out (by omega)
    by_cases hge : 10 ≤ v
    · have HS := Lib.hid (pre_step u v S hd.out hge)
      have h1s : ¬ 9223372036854775807 < (one (48 + (v : Int) / 10 % 10)).size + S.size := by rw [one_size]; omega
      go_wp2
      go_roundw
      case rel => exact ⟨v / 10, _, by omega, by go_num, rfl, hb.alloc hb.size _, HS.out⟩
      case measure => simp [intOf]; omega
    · have HS := Lib.hid (pre_end u v S hd.out (by omega))
      go_wp2
      go_ret
      refine ⟨?_, hb⟩
      rw [HS.out]
      unfold itoa
      rw [if_neg (by omega), show ((u : Int)).toNat = u by omega]
      exact congrArg (fun x => Ending.returned (.string x)) (bytes_app [] (decDigits u))

theorem refDigits_any (n : Int) (h0 : -9223372036854775808 ≤ n) (h1 : n ≤ 9223372036854775807) (w : World) :
    Calls Tryd.prog 42 #[.int .i64 n] w fun e w' => e = .returned (.string ⟨(Lib.itoa n).toArray⟩) ∧ Below w.heap.size w w' := by
  rcases Int.lt_or_le n 0 with h | h
  · obtain ⟨u, rfl⟩ : ∃ u : Nat, n = -(u : Int) := ⟨n.natAbs, by omega⟩
    exact refDigits_neg u (by omega) (by omega) w
  · obtain ⟨u, rfl⟩ : ∃ u : Nat, n = (u : Int) := ⟨n.toNat, by omega⟩
    exact refDigits_pos u (by omega) w

end Go.Proofs.YtdehpgdffafebaaDoor
